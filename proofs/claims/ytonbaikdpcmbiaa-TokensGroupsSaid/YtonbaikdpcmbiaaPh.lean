/- TokensGroups: Worth and Share answer as the specification's, for every fair and needs. No conditions. -/
import Derived.Test.YtonbaikdpcmbiaaPg
import Derived.Test.YtonbaikdpcmbiaaFrame
namespace Go.Proofs.Ytonbaikdpcmbiaa
open Go.Joins Go.ChangeShapes Go.WideShapes Go.ChangeAt Go.RowKit Go.Deep

def ShareP (w : World) (r : Int × Int × Int) (e : Ending) (w' : World) : Prop :=
  e = .returned (.tuple #[.int .i64 r.1, .int .i64 r.2.1, .int .i64 r.2.2]) ∧ Below w.heap.size w w'

set_option maxHeartbeats 4000000 in
set_option maxRecDepth 100000 in
theorem rShare_any (F : Fair) (R : Refs) (ns : List Int) (A : Option Addr) (c B : Nat) (w : World) (hB : B ≤ w.heap.size) (hF : FairIn w B F R) (hc : Reads w B 1 A ns.length (intCells ns)) (hn : ns.length ≤ maxLen) :
    Calls Try.prog 38 #[fairV F R, .slice A ns.length c] w (ShareP w (rshareS F ns)) := by
  have hF0 := hF.alloc hB (.cells (fairCells F R) 25)
  have ba := (Below.refl w.heap.size w).alloc (Nat.le_refl _) (.cells (fairCells F R) 25)
  have r0 := Row.new w 25 (fairCells F R)
  have hn' := hn
  unfold maxLen at hn'
  unfold fairV
  go_enter Try.func38, Try.ntmps38
  go_wp2_with fail
  refine (rCheck_any F R _ B (by simp; omega) hF0).mono ?_
  rintro e w1 ⟨rfl, hb1⟩
  have b1 := below_step ba hb1
  have F1 := hF.below (b1.mono hB)
  have C1 := hc.below (b1.mono hB)
  have s1 := b1.size
  have r1 := r0.below hb1 r0.lt
  have z1 := r1.lt
  cases hv : validB F with
  | false =>
    have hq : Hid (rshareS F ns = (0, 0, 10)) := by show _ = _; simp [rshareS, hv]
    have he : chkE F = 10 := by simp [chkE, hv]
    rw [he]
    go_wp2_with fail
    go_ret3
    exact ⟨by rw [hq.out]; rfl, b1⟩
  | true =>
    have he : chkE F = 0 := by simp [chkE, hv]
    rw [he]
    clear he
    cases hlen : inB ns.length 1 20 with
    | false =>
      have hq : Hid (rshareS F ns = (0, 0, 1)) := by show _ = _; simp [rshareS, hv, hlen]
      go_wp2_with (go_at_call 44; refine (rwithin_any _ _ _ _).mono ?_; rintro e w' ⟨rfl, rfl⟩)
      go_ret3
      exact ⟨by rw [hq.out]; rfl, b1⟩
    | true =>
    have Hlen := Lib.hid hlen
    go_wp2_with (go_at_call 44; refine (rwithin_any _ _ _ _).mono ?_; rintro e w' ⟨rfl, rfl⟩)
    clear hlen
    go_loop [8] (fun i => ∃ k : Nat, k ≤ ns.length ∧ i = .int .i64 k ∧ allB (ns.take k) 0 1000 = true) (fun i => ns.length - (intOf i).toNat)
    case atStart => exact ⟨0, Nat.zero_le _, rfl, rfl⟩
    case round =>
      obtain ⟨k, hk, rfl, hall⟩ := hrel
      have Hall := Lib.hid hall
      clear hall
      by_cases hlt : k < ns.length
      · obtain ⟨b, o, rfl, hb, hcc⟩ := C1.at1 hlt
        have hck : w1.cell? ⟨b, o + k, none⟩ = some (.int .i64 (geti ns k)) := hcc k hlt
        have hlt' : (k : Int) < (ns.length : Int) := by omega
        clear hcc
        cases hi : inB (geti ns k) 0 1000 with
        | false =>
          have hq : Hid (rshareS F ns = (0, 0, 1)) := by show _ = _; simp [rshareS, hv, all_no hlt hi]
          go_wp2_with (go_at_call 44; refine (rwithin_any _ _ _ _).mono ?_; rintro e w' ⟨rfl, rfl⟩)
          go_ret3
          exact ⟨by rw [hq.out]; rfl, b1⟩
        | true =>
          have Hn := Lib.hid (all_more hlt Hall.out hi)
          go_wp2_with (go_at_call 44; refine (rwithin_any _ _ _ _).mono ?_; rintro e w' ⟨rfl, rfl⟩)
          go_round
          case rel => exact ⟨k + 1, by omega, by go_num, Hn.out⟩
          case measure => simp [intOf]; omega
      · have hge : ¬ (k : Int) < (ns.length : Int) := by omega
        have ha : allB ns 0 1000 = true := by have := Hall.out; rwa [List.take_of_length_le (by omega)] at this
        have Ha := Lib.hid ha
        have hq : Hid (rshareS F ns = if (buyS F (sumW ns)).2.2 = 0 then ((buyS F (sumW ns)).2.1, wrap64 (raloneS F ns - (buyS F (sumW ns)).2.1), 0) else (0, 0, (buyS F (sumW ns)).2.2)) := by show _ = _; simp [rshareS, hv, Hlen.out, ha]
        clear ha
        obtain ⟨_, q0, q1, q2, q3, q4, q5, q6, q7⟩ := Row.at_8 r1
        go_wp2_with fail
        go_region_held3 (fun x => x.cell? ⟨w.heap.size, 0, none⟩ = some (.int .i64 F.purses) ∧ x.cell? ⟨w.heap.size, 1, none⟩ = some (.int .i64 F.boxes) ∧ x.cell? ⟨w.heap.size, 2, none⟩ = some (.slice R.A1 F.stock.length R.c1) ∧ x.cell? ⟨w.heap.size, 3, none⟩ = some (.slice R.A2 F.cash.length R.c2) ∧ x.cell? ⟨w.heap.size, 4, none⟩ = some (.slice R.A3 F.bundles.length R.c3) ∧ x.cell? ⟨w.heap.size, 5, none⟩ = some (.int .i64 F.refund) ∧ x.cell? ⟨w.heap.size, 6, none⟩ = some (.int .i64 F.band) ∧ x.cell? ⟨w.heap.size, 7, none⟩ = some (.int .i64 F.hours)) (go_keep) (first
        | (go_at_call 53; go_must (refine (rsum2_any ns _ _ _ B _ (by first | exact C1 | exact C1.drewN _) hn).mono ?_; rintro e w' ⟨rfl, rfl⟩))
        | (go_at_call 34; go_must (refine (rbuy_box F R (sumW ns) w _ B hB hF ?_ ?_).mono ?_; (repeat first | assumption | (with_reducible refine below_drewN ?_ _) | (with_reducible refine Below.drew ?_)); (repeat first | assumption | (with_reducible refine Row.drewN ?_ _) | (with_reducible refine Row.drew ?_)); rintro e w2 ⟨A', m', c', rfl, b2, r2⟩; obtain ⟨_, c0, c1, c2, c3, c4, c5, c6, c7⟩ := Row.cells8 r2)))
        have z2 : w.heap.size < w2.heap.size := r2.lt
        clear q0 q1 q2 q3 q4 q5 q6 q7 c0 c1 c2 c3 c4 c5 c6 c7
        generalize buyS F (sumW ns) = bs at *
        obtain ⟨bl, bp, be⟩ := bs
        dsimp only at *
        by_cases he : be = 0
        · subst he
          have hq' : Hid (rshareS F ns = (bp, wrap64 (raloneS F ns - bp), 0)) := by
            show _ = _
            rw [hq.out, if_pos rfl]
          clear hq
          go_wp2_with fail
          go_loopw [12, 13] (fun s i wr => ∃ k : Nat, k ≤ ns.length ∧ i = .int .i64 k ∧ s = .int .i64 (raloneS F (ns.take k)) ∧ Below w.heap.size w wr ∧ Row wr w.heap.size 25 (fairCells F R).toList) (fun _ i _ => ns.length - (intOf i).toNat)
          case atStart => exact ⟨0, Nat.zero_le _, rfl, rfl, b2, r2⟩
          case round =>
            obtain ⟨k, hk, rfl, rfl, hbel, rr⟩ := hrel
            by_cases hlt : k < ns.length
            · have hlt' : (k : Int) < (ns.length : Int) := by omega
              obtain ⟨b, o, rfl, hb, hcc⟩ := hc.at1 hlt
              have hcw : w.cell? ⟨b, o + k, none⟩ = some (.int .i64 (geti ns k)) := hcc k hlt
              have hbw : b < w.heap.size := by omega
              have hck := (hbel.cell (p := ⟨b, o + k, none⟩) hbw).trans hcw
              have Hcw := Lib.hid hcw
              have Hsn := Lib.hid (raloneS_snoc F ns k hlt)
              obtain ⟨_, q0, q1, q2, q3, q4, q5, q6, q7⟩ := Row.at_8 rr
              have zr := rr.lt
              have hbr : b < wr.heap.size := by omega
              have ne1 : ¬ b = w.heap.size := by omega
              have ne2 : ¬ w.heap.size = b := by omega
              clear hcc hcw
              go_wp2_with fail
              go_region_held3 (fun x => x.cell? ⟨w.heap.size, 0, none⟩ = some (.int .i64 F.purses) ∧ x.cell? ⟨w.heap.size, 1, none⟩ = some (.int .i64 F.boxes) ∧ x.cell? ⟨w.heap.size, 2, none⟩ = some (.slice R.A1 F.stock.length R.c1) ∧ x.cell? ⟨w.heap.size, 3, none⟩ = some (.slice R.A2 F.cash.length R.c2) ∧ x.cell? ⟨w.heap.size, 4, none⟩ = some (.slice R.A3 F.bundles.length R.c3) ∧ x.cell? ⟨w.heap.size, 5, none⟩ = some (.int .i64 F.refund) ∧ x.cell? ⟨w.heap.size, 6, none⟩ = some (.int .i64 F.band) ∧ x.cell? ⟨w.heap.size, 7, none⟩ = some (.int .i64 F.hours) ∧ x.cell? ⟨b, o + k, none⟩ = some (.int .i64 (geti ns k))) (go_keep) (first
                | (go_at_call 34; go_must (refine (rbuy_box F R (geti ns k) w _ B hB hF ?_ ?_).mono ?_; (repeat first | assumption | (with_reducible refine below_drewN ?_ _) | (with_reducible refine Below.drew ?_)); (repeat first | assumption | (with_reducible refine Row.drewN ?_ _) | (with_reducible refine Row.drew ?_)); rintro e w3 ⟨A', m', c', rfl, b3, r3⟩; obtain ⟨_, c0, c1, c2, c3, c4, c5, c6, c7⟩ := Row.cells8 r3; have c8 := (b3.cell (p := ⟨b, o + k, none⟩) hbw).trans Hcw.out)))
              go_wp2_with fail
              go_roundw
              case rel => exact ⟨k + 1, by omega, by go_num, by rw [Hsn.out], b3, r3⟩
              case measure => simp [intOf]; omega
            · have hge : ¬ (k : Int) < (ns.length : Int) := by omega
              have e1 : Hid (raloneS F (ns.take k) = raloneS F ns) := by show _ = _; rw [List.take_of_length_le (by omega)]
              go_wp2_with fail
              go_ret3
              exact ⟨by rw [hq'.out, ← e1.out]; rfl, hbel⟩
        · have hq' : Hid (rshareS F ns = (0, 0, be)) := by
            show _ = _
            rw [hq.out, if_neg he]
          have he' : (be != 0) = true := by simpa using he
          clear he
          go_wp2_with fail
          go_ret3
          exact ⟨by rw [hq'.out]; rfl, b2⟩

set_option maxHeartbeats 2000000 in
set_option maxRecDepth 100000 in
theorem groups_walk (F : Fair) (R : Refs) (ns : List Int) (A : Option Addr) (c B : Nat) (w : World) (hB : B ≤ w.heap.size) (hF : FairIn w B F R) (hc : Reads w B 1 A ns.length (intCells ns)) (hn : ns.length ≤ maxLen) :
    Calls Try.prog 7 #[fairV F R, .slice A ns.length c] w (WPost w) := by
  obtain ⟨W, hW⟩ : ∃ W, W = w.alloc (.cells (fairCells F R) 25) := ⟨_, rfl⟩
  have sW : W.heap.size = w.heap.size + 1 := by subst hW; simp
  have bW : Below w.heap.size w W := by subst hW; exact (Below.refl _ _).alloc (Nat.le_refl _) _
  have rF : Row W w.heap.size 25 (fairCells F R).toList := by subst hW; exact Row.new _ _ _
  obtain ⟨_, q0, q1, q2, q3, q4, q5, q6, q7⟩ := Row.at_8 rF
  unfold fairV
  go_enter Try.func7, Try.ntmps7
  go_wp2_with fail
  rw [← hW]
  clear hW
  refine (Worth_any F R ns A c B W (by omega) (hF.below (bW.mono hB)) (hc.below (bW.mono hB)) hn).mono ?_
  rintro e w1 ⟨rfl, hb1⟩
  have b1 := below_step bW hb1
  have s1 := hb1.size
  replace rF := rF.below hb1 rF.lt
  clear q0 q1 q2 q3 q4 q5 q6 q7
  obtain ⟨_, q0, q1, q2, q3, q4, q5, q6, q7⟩ := Row.at_8 rF
  go_wp2_with fail
  refine (rWorth_any F R ns A c B w1 (by omega) (hF.below (b1.mono hB)) (hc.below (b1.mono hB)) hn).mono ?_
  rintro e w2 ⟨rfl, hb2⟩
  have b2 := below_step b1 hb2
  have s2 := hb2.size
  replace rF := rF.below hb2 rF.lt
  rw [worth_eq]
  clear q0 q1 q2 q3 q4 q5 q6 q7
  obtain ⟨_, q0, q1, q2, q3, q4, q5, q6, q7⟩ := Row.at_8 rF
  generalize worthS F ns = r at *
  obtain ⟨x1, x2, x3⟩ := r
  dsimp only at *
  go_wp2_with fail
  refine (Share_any F R ns A c B w2 (by omega) (hF.below (b2.mono hB)) (hc.below (b2.mono hB)) hn).mono ?_
  rintro e w3 ⟨rfl, hb3⟩
  have b3 := below_step b2 hb3
  have s3 := hb3.size
  replace rF := rF.below hb3 rF.lt
  clear q0 q1 q2 q3 q4 q5 q6 q7
  obtain ⟨_, q0, q1, q2, q3, q4, q5, q6, q7⟩ := Row.at_8 rF
  go_wp2_with fail
  refine (rShare_any F R ns A c B w3 (by omega) (hF.below (b3.mono hB)) (hc.below (b3.mono hB)) hn).mono ?_
  rintro e w4 ⟨rfl, hb4⟩
  have b4 := below_step b3 hb4
  rw [share_eq]
  clear q0 q1 q2 q3 q4 q5 q6 q7
  generalize shareS F ns = r at *
  obtain ⟨y1, y2, y3⟩ := r
  dsimp only at *
  go_wp2_with fail
  refine (works_any w4).mono ?_
  rintro e w5 ⟨rfl, hb5⟩
  go_wp2_with fail
  go_ret
  exact ⟨rfl, below_step b4 hb5⟩

set_option maxRecDepth 100000 in
theorem groups_lifted (os : Os) (started : os.Started) (H : Type) (enc : TypeId × Value → H) :
    ReturnsInHanded {} Try.checked os 7 .any (Rows.tokensGroupsSpec.pre6 enc Try.prog Try.f7 Rows.tokensGroupsRow.domain false) (Rows.tokensGroupsSpec.post enc Try.prog Try.f7 false true false false) := by
  refine returnsInHanded_of_change (C := Try.checked) Try.own started (by kernel_rfl) Try.func7
    (ChangeSpec.witness6 (enc := enc) (C := Try.checked) false ⟨#[], #[.agg #[.int .i64 0, .int .i64 0, .slice none 0 0, .slice none 0 0, .slice none 0 0, .int .i64 0, .int .i64 0, .int .i64 0], .slice none 0 0], []⟩ 8 (by kernel_rfl) (by kernel_rfl) (by kernel_rfl) (by kernel_rfl)) ?_
  intro W base args ds gs before hval0 hW hcnd _
  have hval : ∀ (j : Nat) t v, Try.f7.params[j]? = some t → args[j]? = some v → Value.okWide Try.prog W .any base t v := hval0
  have hW' := hW
  obtain ⟨p, q, hA0, hV, rfl, hfz, hnd⟩ := hW
  have hA : DataW.TrodAll enc Try.prog W 0 (fun _ => true) true Try.f7.params.toList args.toList ds p := hA0
  rw [Try.params7] at hA hval
  obtain ⟨v0, vs0, d0, ds0, p0, q0, hargs, rfl, rfl, h0, r0⟩ := trodAll_cons hA
  obtain ⟨v1, vs1, d1, ds1, p1, q1, rfl, rfl, rfl, h1, r1⟩ := trodAll_cons r0
  obtain ⟨rfl, rfl, rfl⟩ := trodAll_nil r1
  obtain rfl : args = #[v0, v1] := by cases args; simp_all
  obtain ⟨rfl, rfl⟩ := trodVars_none hV
  have k0 := h0
  have k1 := h1
  have lt0 : ∀ x ∈ p0, x.block < W.heap.size := by obtain ⟨m, hm⟩ := k0; exact DataW.trod_lt m _ _ _ hm
  have lt1 : ∀ x ∈ p1, x.block < W.heap.size := by obtain ⟨m, hm⟩ := k1; exact DataW.trod_lt m _ _ _ hm
  obtain ⟨F, R, rfl, hF⟩ := open_fair (hval 0 25 v0 rfl rfl) h0
  obtain ⟨a1, len1, cap1, rfl⟩ := okWide_slice Try.underlying22 (hval 1 22 v1 rfl rfl)
  obtain ⟨fuel, hf⟩ := h1
  obtain ⟨A, c, zs, hv1, hl, hn, _⟩ := open_nums Try.underlying22 Try.underlying3 (by kernel_rfl) (fun _ => rfl) (by simpa [Value.cells] using hf)
  rw [hv1] at hW' k1 ⊢
  clear hA0 hval0
  refine (groups_walk F R zs A c W.heap.size W (Nat.le_refl _) hF hl hn).mono fun e W' ⟨he, bel⟩ => ?_
  subst he
  exact ⟨_, rfl, _, _, _, [], _, [], hW', trodAll_mk1 (shut_bool Try.underlying4 _), (trodAll_cons_mk (Below.trod Try.laidOut (by kernel_rfl) (of_decide_eq_true (by kernel_rfl)) k0 bel lt0) (trodAll_cons_mk (Below.trod Try.laidOut (by kernel_rfl) (of_decide_eq_true (by kernel_rfl)) k1 bel lt1) trodAll_mk0)), rfl, bel.frame _, fun h => by cases h⟩

theorem groups_holds : Rows.TokensGroupsSaid :=
  OpenClaim.holds_of_wide 7 Try.f7 rfl rfl rfl rfl rfl rfl rfl ⟨rfl, rfl, rfl, rfl, rfl⟩ rfl rfl rfl rfl rfl (by kernel_rfl) Try.func7 (by kernel_rfl)
    (of_decide_eq_true (by kernel_rfl)) (by unfold Func.isWrapper; first | (rw [if_pos (by decide +kernel)]; kernel_rfl) | (rw [if_neg (by decide +kernel)]; exact ⟨rfl, rfl⟩))
    (fun os started H enc _ => groups_lifted os started H enc)
#print axioms groups_holds
end Go.Proofs.Ytonbaikdpcmbiaa
