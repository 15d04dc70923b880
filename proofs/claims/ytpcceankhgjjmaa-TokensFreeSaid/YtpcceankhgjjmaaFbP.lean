/- TokensFree: a guest with a band that holds pays nothing for one more ride, and without tokens and band it is not possible. No conditions. -/
import Derived.Test.YtpcceankhgjjmaaFb
import Derived.Test.YtpcceankhgjjmaaOp
namespace Go.Proofs.Ytpcceankhgjjmaa
open Go.Joins Go.ChangeShapes Go.WideShapes Go.ChangeAt Go.RowKit Go.Deep

theorem open_deals2 {H : Type} {enc : TypeId × Value → H} {P : Program} {w : World} {base : Nat} {spare : Nat → Bool} {held : Bool} {t e : TypeId} {f0 f1 f2 f3 f4 : Field} {fuel : Nat} {v : Value} {x : DataW H × List MemPlace} (ht : P.underlying t = some (.slice e)) (he : P.underlying e = some (.struct #[f0, f1, f2, f3, f4])) (hone : oneCellFields P #[f0, f1, f2, f3, f4] = true) (hC : P.cellsOf e = 5)
    (h0 : P.underlying f0.type = some (.int .i64)) (h1 : P.underlying f1.type = some (.int .i64)) (h2 : P.underlying f2.type = some (.int .i64)) (h3 : P.underlying f3.type = some (.int .i64)) (h4 : P.underlying f4.type = some (.int .i64)) (h : DataW.trod enc P w base spare held fuel t [v] = some x) :
    ∃ A c l, v = .slice A (List.length l) c ∧ Reads w w.heap.size 5 A l.length (dealCells l) ∧ l.length ≤ c ∧ c ≤ maxLen := by
  rcases open_slice_fields ht he hone hC h with hcs | ⟨a, len, cap, hcs, hl, hm, hi⟩
  · injection hcs with h1 _
    exact ⟨none, 0, [], h1, Reads.none_, Nat.zero_le _, Nat.zero_le _⟩
  · injection hcs with hv _
    obtain ⟨l, hll, hq⟩ := exists_list (α := Deal) (fun i b => w.cell? (a.add (i * 5)) = some (.int .i64 b.at_) ∧ w.cell? (a.add (i * 5 + 1)) = some (.int .i64 b.kind) ∧ w.cell? (a.add (i * 5 + 2)) = some (.int .i64 b.a) ∧ w.cell? (a.add (i * 5 + 3)) = some (.int .i64 b.b) ∧ w.cell? (a.add (i * 5 + 4)) = some (.int .i64 b.n)) len (fun i hil => by
      obtain ⟨n, hf⟩ := hi i hil
      obtain ⟨u0, y0, c0, t0⟩ := hf 0 f0 rfl
      obtain ⟨u1, y1, c1, t1⟩ := hf 1 f1 rfl
      obtain ⟨u2, y2, c2, t2⟩ := hf 2 f2 rfl
      obtain ⟨u3, y3, c3, t3⟩ := hf 3 f3 rfl
      obtain ⟨u4, y4, c4, t4⟩ := hf 4 f4 rfl
      obtain ⟨k0, e0, _, _⟩ := DataW.trod_int h0 t0
      obtain ⟨k1, e1, _, _⟩ := DataW.trod_int h1 t1
      obtain ⟨k2, e2, _, _⟩ := DataW.trod_int h2 t2
      obtain ⟨k3, e3, _, _⟩ := DataW.trod_int h3 t3
      obtain ⟨k4, e4, _, _⟩ := DataW.trod_int h4 t4
      injection e0 with e0 _; injection e1 with e1 _; injection e2 with e2 _; injection e3 with e3 _; injection e4 with e4 _
      subst e0; subst e1; subst e2; subst e3; subst e4
      exact ⟨⟨k0, k1, k2, k3, k4⟩, by simpa using c0, by simpa using c1, by simpa using c2, by simpa using c3, by simpa using c4⟩)
    refine ⟨some a, cap, l, by rw [hll]; exact hv, reads_of (dealCells_length l) (by omega) (fun j u hu => ?_), by omega, hm⟩
    have hj : j < l.length * 5 := by have := (List.getElem?_eq_some_iff.1 hu).1; rw [dealCells_length] at this; exact this
    obtain ⟨b0, b1, b2, b3, b4⟩ := dealCells_at l (j / 5) (by omega)
    have hq' := hq (j / 5) (by omega)
    have hg : getd l (j / 5) = l[j / 5]'(by omega) := by simp only [getd, List.getElem?_eq_getElem (show j / 5 < l.length by omega), Option.getD_some]
    rw [hg] at b0 b1 b2 b3 b4
    have hm5 : j % 5 = 0 ∨ j % 5 = 1 ∨ j % 5 = 2 ∨ j % 5 = 3 ∨ j % 5 = 4 := by omega
    rcases hm5 with h5 | h5 | h5 | h5 | h5
    · rw [show j / 5 * 5 = j from by omega] at b0 hq'
      rw [b0] at hu; injection hu with hu; rw [← hu]; exact hq'.1
    · rw [show j / 5 * 5 + 1 = j from by omega] at b1 hq'
      rw [b1] at hu; injection hu with hu; rw [← hu]; exact hq'.2.1
    · rw [show j / 5 * 5 + 2 = j from by omega] at b2 hq'
      rw [b2] at hu; injection hu with hu; rw [← hu]; exact hq'.2.2.1
    · rw [show j / 5 * 5 + 3 = j from by omega] at b3 hq'
      rw [b3] at hu; injection hu with hu; rw [← hu]; exact hq'.2.2.2.1
    · rw [show j / 5 * 5 + 4 = j from by omega] at b4 hq'
      rw [b4] at hu; injection hu with hu; rw [← hu]; exact hq'.2.2.2.2

set_option maxRecDepth 100000 in
theorem free_lifted (os : Os) (started : os.Started) (H : Type) (enc : TypeId × Value → H) :
    ReturnsInHanded {} Try.checked os 13 .any (Rows.tokensFreeSpec.pre6 enc Try.prog Try.f13 Rows.tokensFreeRow.domain false) (Rows.tokensFreeSpec.post enc Try.prog Try.f13 false true false false) := by
  refine returnsInHanded_of_change (C := Try.checked) Try.own started (by kernel_rfl) Try.func13
    (ChangeSpec.witness6 (enc := enc) (C := Try.checked) false ⟨#[], #[.agg #[.int .i64 0, .int .i64 0, .slice none 0 0, .slice none 0 0, .slice none 0 0, .int .i64 0, .int .i64 0, .int .i64 0], .slice none 0 0, .agg #[.int .i64 0, .int .i64 0, .int .i64 0, .int .i64 0, .int .i64 0]], []⟩ 8 (by kernel_rfl) (by kernel_rfl) (by kernel_rfl) (by kernel_rfl)) ?_
  intro W base args ds gs before hval0 hW hcnd _
  have hval : ∀ (j : Nat) t v, Try.f13.params[j]? = some t → args[j]? = some v → Value.okWide Try.prog W .any base t v := hval0
  have hW' := hW
  obtain ⟨p, q, hA0, hV, rfl, hfz, hnd⟩ := hW
  have hA : DataW.TrodAll enc Try.prog W 0 (fun _ => true) true Try.f13.params.toList args.toList ds p := hA0
  rw [Try.params13] at hA hval
  obtain ⟨v0, vs0, d0, ds0, p0, q0, hargs, rfl, rfl, h0, r0⟩ := trodAll_cons hA
  obtain ⟨v1, vs1, d1, ds1, p1, q1, rfl, rfl, rfl, h1, r1⟩ := trodAll_cons r0
  obtain ⟨v2, vs2, d2, ds2, p2, q2, rfl, rfl, rfl, h2, r2⟩ := trodAll_cons r1
  obtain ⟨rfl, rfl, rfl⟩ := trodAll_nil r2
  obtain rfl : args = #[v0, v1, v2] := by cases args; simp_all
  obtain ⟨rfl, rfl⟩ := trodVars_none hV
  have k0 := h0
  have k1 := h1
  have k2 := h2
  have lt0 : ∀ x ∈ p0, x.block < W.heap.size := by obtain ⟨m, hm⟩ := k0; exact DataW.trod_lt m _ _ _ hm
  have lt1 : ∀ x ∈ p1, x.block < W.heap.size := by obtain ⟨m, hm⟩ := k1; exact DataW.trod_lt m _ _ _ hm
  have lt2 : ∀ x ∈ p2, x.block < W.heap.size := by obtain ⟨m, hm⟩ := k2; exact DataW.trod_lt m _ _ _ hm
  obtain ⟨F, R, rfl, hF⟩ := open_fair (hval 0 25 v0 rfl rfl) h0
  obtain ⟨a1, len1, cap1, rfl⟩ := okWide_slice Try.underlying26 (hval 1 26 v1 rfl rfl)
  obtain ⟨fuel, hf⟩ := h1
  obtain ⟨A, c, l, hv1, hl, hlc, hcm⟩ := open_deals2 Try.underlying26 Try.underlying65 (by kernel_rfl) (by kernel_rfl) Try.underlying3 Try.underlying3 Try.underlying3 Try.underlying3 Try.underlying3 (by simpa [Value.cells] using hf)
  obtain ⟨z, rfl⟩ := open_deal (hval 2 65 v2 rfl rfl) h2
  rw [hv1] at hW' k1 ⊢
  clear hA0 hval0
  refine (free_walk F R l z A c W.heap.size W (Nat.le_refl _) hF hl (by omega)).mono fun e W' ⟨he, bel⟩ => ?_
  subst he
  exact ⟨_, rfl, _, _, _, [], _, [], hW', trodAll_mk1 (shut_bool Try.underlying4 _), (trodAll_cons_mk (Below.trod Try.laidOut (by kernel_rfl) (of_decide_eq_true (by kernel_rfl)) k0 bel lt0) (trodAll_cons_mk (Below.trod Try.laidOut (by kernel_rfl) (of_decide_eq_true (by kernel_rfl)) k1 bel lt1) (trodAll_cons_mk (Below.trod Try.laidOut (by kernel_rfl) (of_decide_eq_true (by kernel_rfl)) k2 bel lt2) trodAll_mk0))), rfl, bel.frame _, fun h => by cases h⟩

theorem free_holds : Rows.TokensFreeSaid :=
  OpenClaim.holds_of_wide 13 Try.f13 rfl rfl rfl rfl rfl rfl rfl ⟨rfl, rfl, rfl, rfl, rfl⟩ rfl rfl rfl rfl rfl (by kernel_rfl) Try.func13 (by kernel_rfl)
    (of_decide_eq_true (by kernel_rfl)) (by unfold Func.isWrapper; first | (rw [if_pos (by decide +kernel)]; kernel_rfl) | (rw [if_neg (by decide +kernel)]; exact ⟨rfl, rfl⟩))
    (fun os started H enc _ => free_lifted os started H enc)
#print axioms free_holds
end Go.Proofs.Ytpcceankhgjjmaa
