/- TokensBuys: Buy answers as the specification's Buy, for every fair and number. No conditions. -/
import Derived.Test.YtonbaikdpcmbiaaPe
import Derived.Test.YtonbaikdpcmbiaaFrame
namespace Go.Proofs.Ytonbaikdpcmbiaa
open Go.Joins Go.ChangeShapes Go.WideShapes Go.ChangeAt Go.RowKit Go.Deep

theorem same_self (xs : List Int) (A A' : Option Addr) (n m c c' : Nat) (w : World) (hr : Reads w w.heap.size 1 A n (intCells xs)) (hs : Reads w w.heap.size 1 A' m (intCells xs)) (hn : n ≤ 6) (hm : m ≤ 6) :
    Calls Try.prog 29 #[.slice A n c, .slice A' m c'] w fun e w' => e = .returned (.bool true) ∧ Below w.heap.size w w' :=
  (sameInts_any xs xs A A' n m c c' _ _ w hr hs (by unfold maxLen; omega) (by unfold maxLen; omega)).mono fun e w' ⟨he, hk⟩ => ⟨by rw [he]; simp, hk.to_below (Nat.le_refl _) (by simp)⟩

set_option maxHeartbeats 2000000 in
set_option maxRecDepth 100000 in
theorem buys_walk (F : Fair) (R : Refs) (n : Int) (w : World) (B : Nat) (hB : B ≤ w.heap.size) (hF : FairIn w B F R) :
    Calls Try.prog 6 #[fairV F R, .int .i64 n] w (WPost w) := by
  obtain ⟨W, hW⟩ : ∃ W, W = w.alloc (.cells (fairCells F R) 25) := ⟨_, rfl⟩
  have sW : W.heap.size = w.heap.size + 1 := by subst hW; simp
  have bW : Below w.heap.size w W := by subst hW; exact (Below.refl _ _).alloc (Nat.le_refl _) _
  have rF : Row W w.heap.size 25 (fairCells F R).toList := by subst hW; exact Row.new _ _ _
  obtain ⟨_, q0, q1, q2, q3, q4, q5, q6, q7⟩ := Row.at_8 rF
  unfold fairV
  go_enter Try.func6, Try.ntmps6
  go_wp2_with fail
  rw [← hW]
  clear hW
  refine (Buy_any F R n W B (by omega) (hF.below (bW.mono hB))).mono ?_
  rintro e w1 ⟨hb1, A1, m1, c1, rfl, hr1, hm1⟩
  have b1 := below_step bW hb1
  have s1 := hb1.size
  replace rF := rF.below hb1 rF.lt
  clear q0 q1 q2 q3 q4 q5 q6 q7
  obtain ⟨_, q0, q1, q2, q3, q4, q5, q6, q7⟩ := Row.at_8 rF
  have Hr1 := Lib.hid hr1
  clear hr1
  go_wp2_with fail
  refine (rBuy_any F R n w1 B (by omega) (hF.below (b1.mono hB))).mono ?_
  rintro e w2 ⟨hb2, A2, m2, c2, rfl, hr2, hm2⟩
  have hr1 := (Hr1.out.below hb2).more hb2.size
  rw [rbuy_eq] at hr2 ⊢
  have b2 := below_step b1 hb2
  generalize buyS F n = bs at *
  obtain ⟨bl, bp, be⟩ := bs
  dsimp only at *
  have Hsm := Lib.hid (same_self bl A1 A2 m1 m2 c1 c2 w2 hr1 hr2 hm1 hm2)
  clear hr1 hr2 q0 q1 q2 q3 q4 q5 q6 q7
  go_wp2_with fail
  refine Hsm.out.mono ?_
  rintro e w3 ⟨rfl, hb3⟩
  have b3 := below_step b2 hb3
  go_wp2_with fail
  refine (works_any w3).mono ?_
  rintro e w4 ⟨rfl, hb4⟩
  go_wp2_with fail
  go_ret
  exact ⟨rfl, below_step b3 hb4⟩

set_option maxRecDepth 100000 in
theorem buys_lifted (os : Os) (started : os.Started) (H : Type) (enc : TypeId × Value → H) :
    ReturnsInHanded {} Try.checked os 6 .any (Rows.tokensBuysSpec.pre6 enc Try.prog Try.f6 Rows.tokensBuysRow.domain false) (Rows.tokensBuysSpec.post enc Try.prog Try.f6 false true false false) := by
  refine returnsInHanded_of_change (C := Try.checked) Try.own started (by kernel_rfl) Try.func6
    (ChangeSpec.witness6 (enc := enc) (C := Try.checked) false ⟨#[], #[.agg #[.int .i64 0, .int .i64 0, .slice none 0 0, .slice none 0 0, .slice none 0 0, .int .i64 0, .int .i64 0, .int .i64 0], .int .i64 0], []⟩ 8 (by kernel_rfl) (by kernel_rfl) (by kernel_rfl) (by kernel_rfl)) ?_
  intro W base args ds gs before hval0 hW hcnd _
  have hval : ∀ (j : Nat) t v, Try.f6.params[j]? = some t → args[j]? = some v → Value.okWide Try.prog W .any base t v := hval0
  have hW' := hW
  obtain ⟨p, q, hA0, hV, rfl, hfz, hnd⟩ := hW
  have hA : DataW.TrodAll enc Try.prog W 0 (fun _ => true) true Try.f6.params.toList args.toList ds p := hA0
  rw [Try.params6] at hA hval
  obtain ⟨v0, vs0, d0, ds0, p0, q0, hargs, rfl, rfl, h0, r0⟩ := trodAll_cons hA
  obtain ⟨v1, vs1, d1, ds1, p1, q1, rfl, rfl, rfl, h1, r1⟩ := trodAll_cons r0
  obtain ⟨rfl, rfl, rfl⟩ := trodAll_nil r1
  obtain rfl : args = #[v0, v1] := by cases args; simp_all
  obtain ⟨rfl, rfl⟩ := trodVars_none hV
  have k0 := h0
  have k1 := h1
  have lt0 : ∀ x ∈ p0, x.block < W.heap.size := by obtain ⟨m, hm⟩ := k0; exact DataW.trod_lt m _ _ _ hm
  have lt1 : ∀ x ∈ p1, x.block < W.heap.size := by obtain ⟨m, hm⟩ := k1; exact DataW.trod_lt m _ _ _ hm
  obtain ⟨F, R, rfl, hF⟩ := open_fair (hval 0 25 v0 rfl rfl) h0
  obtain ⟨z, rfl⟩ := okWide_int Try.underlying3 (hval 1 3 v1 rfl rfl)
  clear hA0 hval0
  refine (buys_walk F R z W W.heap.size (Nat.le_refl _) hF).mono fun e W' ⟨he, bel⟩ => ?_
  subst he
  exact ⟨_, rfl, _, _, _, [], _, [], hW', trodAll_mk1 (shut_bool Try.underlying4 _), (trodAll_cons_mk (Below.trod Try.laidOut (by kernel_rfl) (of_decide_eq_true (by kernel_rfl)) k0 bel lt0) (trodAll_cons_mk (Below.trod Try.laidOut (by kernel_rfl) (of_decide_eq_true (by kernel_rfl)) k1 bel lt1) trodAll_mk0)), rfl, bel.frame _, fun h => by cases h⟩

theorem buys_holds : Rows.TokensBuysSaid :=
  OpenClaim.holds_of_wide 6 Try.f6 rfl rfl rfl rfl rfl rfl rfl ⟨rfl, rfl, rfl, rfl, rfl⟩ rfl rfl rfl rfl rfl (by kernel_rfl) Try.func6 (by kernel_rfl)
    (of_decide_eq_true (by kernel_rfl)) (by unfold Func.isWrapper; first | (rw [if_pos (by decide +kernel)]; kernel_rfl) | (rw [if_neg (by decide +kernel)]; exact ⟨rfl, rfl⟩))
    (fun os started H enc _ => buys_lifted os started H enc)
#print axioms buys_holds
end Go.Proofs.Ytonbaikdpcmbiaa
