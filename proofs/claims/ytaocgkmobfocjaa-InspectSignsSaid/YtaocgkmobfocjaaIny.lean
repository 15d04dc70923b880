/- Contracts of the specification's right and Check. Conditions: a book and entries that read as data. -/
import Derived.Test.YtaocgkmobfocjaaInx
namespace Go.Proofs.Ytaocgkmobfocjaa
open Go.RowKit

theorem lastDay_at {l : List EntZ} {n : Nat} (h : l.length = n + 1) : lastDay l = (l.getD n default).day := by
  have hne : l ≠ [] := fun e => by rw [e] at h; simp at h
  rw [← List.dropLast_concat_getLast hne]
  have e1 : l.dropLast.length = n := by rw [List.length_dropLast]; omega
  rw [lastDay_snoc, List.getD_eq_getElem?_getD, List.getElem?_append_right (by omega), e1]
  simp
theorem can_q {k : BookZ} {l : List EntZ} {x : EntZ} (h0 : 0 ≤ lastDay l) : canB k l x = (inB x.day (lastDay l) 10000 && kindB k l x) := by
  rw [Bool.eq_iff_iff, canB_iff, Bool.and_eq_true, inBI]
  constructor
  · rintro ⟨h1, h2, h3⟩; exact ⟨⟨h2, h1.2⟩, h3⟩
  · rintro ⟨⟨h1, h2⟩, h3⟩; exact ⟨⟨by omega, h2⟩, h1, h3⟩
set_option maxRecDepth 100000 in
set_option maxHeartbeats 8000000 in
theorem rright_any (k : BookZ) (R : BkR) (l : List EntZ) (A : Option Addr) (c B : Nat) (x : EntZ) (w : World) (hB : B ≤ w.heap.size) (hl : l.length ≤ maxLen) (hr : Reads w B 5 A l.length (entCells l)) (hk : BkIn w B k R) (h0 : 0 ≤ lastDay l) :
    Calls Try.prog 46 #[bookV k R, .slice A l.length c, entV x] w fun e w' => e = .returned (.bool (canB k l x)) ∧ Below w.heap.size w w' := by
  obtain ⟨W, hW⟩ : ∃ W, W = (w.alloc (.cells #[.slice R.A1 k.rules.length R.c1, .slice R.A2 k.ranks.length R.c2, .slice R.A3 k.insured.length R.c3] 25)).alloc (.cells #[.int .i64 x.day, .int .i64 x.kind, .int .i64 x.a, .int .i64 x.b, .int .i64 x.c] 54) := ⟨_, rfl⟩
  have bW : Below w.heap.size w W := by subst hW; exact ((Below.refl _ _).alloc (Nat.le_refl _) _).alloc (by simp) _
  have gW : Row W w.heap.size 25 [.slice R.A1 k.rules.length R.c1, .slice R.A2 k.ranks.length R.c2, .slice R.A3 k.insured.length R.c3] := by subst hW; exact (Row.new w _ _).alloc _
  have eW : Row W (w.heap.size + 1) 54 [.int .i64 x.day, .int .i64 x.kind, .int .i64 x.a, .int .i64 x.b, .int .i64 x.c] := by
    subst hW
    have h := Row.new (w.alloc (.cells #[.slice R.A1 k.rules.length R.c1, .slice R.A2 k.ranks.length R.c2, .slice R.A3 k.insured.length R.c3] 25)) 54 #[.int .i64 x.day, .int .i64 x.kind, .int .i64 x.a, .int .i64 x.b, .int .i64 x.c]
    rw [World.size_alloc] at h
    exact h
  obtain ⟨zg, hzg⟩ : ∃ z, z = w.heap.size := ⟨_, rfl⟩
  obtain ⟨ze, hze⟩ : ∃ z, z = w.heap.size + 1 := ⟨_, rfl⟩
  rw [← hzg] at gW
  rw [← hze] at eW
  have g0 : W.cell? ⟨zg, 0, none⟩ = some (.slice R.A1 k.rules.length R.c1) := gW.cell (j := 0) (by simp)
  have g1 : W.cell? ⟨zg, 1, none⟩ = some (.slice R.A2 k.ranks.length R.c2) := gW.cell (j := 1) (by simp)
  have g2 : W.cell? ⟨zg, 2, none⟩ = some (.slice R.A3 k.insured.length R.c3) := gW.cell (j := 2) (by simp)
  have e0 : W.cell? ⟨ze, 0, none⟩ = some (.int .i64 x.day) := eW.cell (j := 0) (by simp)
  have e1 : W.cell? ⟨ze, 1, none⟩ = some (.int .i64 x.kind) := eW.cell (j := 1) (by simp)
  have e2 : W.cell? ⟨ze, 2, none⟩ = some (.int .i64 x.a) := eW.cell (j := 2) (by simp)
  have e3 : W.cell? ⟨ze, 3, none⟩ = some (.int .i64 x.b) := eW.cell (j := 3) (by simp)
  have e4 : W.cell? ⟨ze, 4, none⟩ = some (.int .i64 x.c) := eW.cell (j := 4) (by simp)
  have lG := gW.lt
  have lE := eW.lt
  have HBW := Lib.hid bW
  have hl1 := hk.l1
  have hl2 := hk.l2
  have hl3 := hk.l3
  have hl' := hl
  unfold maxLen at hl1 hl2 hl3 hl'
  have w1 : IntKind.i64.wrap ((k.rules.length : Int) - 1) = (k.rules.length : Int) - 1 := IntWalk.i64_in _ (by omega)
  have w2 : IntKind.i64.wrap ((k.ranks.length : Int) - 1) = (k.ranks.length : Int) - 1 := IntWalk.i64_in _ (by omega)
  have w3 : IntKind.i64.wrap ((k.insured.length : Int) - 1) = (k.insured.length : Int) - 1 := IntWalk.i64_in _ (by omega)
  have HSg : Hid (∀ (i : Nat) (hi : i < k.rules.length) (X : World), Below w.heap.size w X → Calls Try.prog 71 #[bookV k R, .int .i64 (i : Int), .int .i64 x.b, .int .i64 x.c] X fun e w' => e = .returned (.bool (signB k k.rules[i] x.b x.c)) ∧ Below X.heap.size X w') := fun i hi X hX => rsigns_any k R B i x.b x.c X (Nat.le_trans hB hX.size) (hk.below (hX.mono hB)) hi
  have HOp : Hid (∀ (X : World), Below w.heap.size w X → Calls Try.prog 54 #[.slice A l.length c, .int .i64 x.a] X fun e w' => e = .returned (.bool (openS l x.a)) ∧ w' = X) := fun X hX => ropen_any l A c B x.a X (Nat.le_trans hB hX.size) hl (hr.below (hX.mono hB))
  have HEc := ent_cells hr
  have HL : Hid (∀ n, l.length = n + 1 → lastDay l = (l.getD n default).day) := fun n h => lastDay_at h
  have HL0 : Hid (l.length = 0 → lastDay l = 0) := fun h => by rw [List.eq_nil_of_length_eq_zero h]; rfl
  have HC := Lib.hid (can_q (k := k) (x := x) h0)
  have HK : Hid (kindB k l x = kindB k l x) := rfl
  obtain ⟨K, hK⟩ : ∃ K, K = kindB k l x := ⟨_, rfl⟩
  rw [← hK] at HC
  have HKd := Lib.hid hK
  generalize canB k l x = V at HC ⊢
  generalize lastDay l = L at HC HL HL0
  have HBw : Hid (B ≤ w.heap.size) := hB
  have HbW : Hid (Below B w W) := bW.mono hB
  unfold bookV entV at *
  clear bW gW eW hr hk hl hK HK h0 hB
  rcases Nat.eq_zero_or_pos l.length with hz | hz
  · have HLz : Hid (L = 0) := HL0.out hz
    have hz' : ((l.length : Nat) : Int) = 0 := by omega
    have d0 : decide ((0 : Int) < (l.length : Int)) = false := decide_eq_false (by omega)
    have d0' : decide (0 < l.length) = false := decide_eq_false (by omega)
    rw [HLz.out] at HC
    clear hz HL HL0 hz' hl'
    go_enter Try.func46, Try.ntmps46
    go_upto_region 1 with fail
    rw [← hW, ← hze, ← hzg]
    clear hW hze hzg
    go_upto_region 4 with fail
    have HD : Hid (∀ X, Calls Try.prog 66 #[.int .i64 x.day, .int .i64 0, .int .i64 10000] X fun e w' => e = .returned (.bool (inB x.day 0 10000)) ∧ w' = X) := fun X => within_any _ _ _ X
    cases hd : inB x.day 0 10000 with
    | false =>
      rw [hd] at HD HC
      have HV : Hid (V = false) := HC.out
      clear hd
      go_wp2_with (go_at_call 66; with_reducible refine (HD.out _).mono ?_; rintro e w' ⟨rfl, hw⟩; rw [hw]; clear hw)
      go_ret
      exact ⟨ret_boolI HV.out.symm, HBW.out⟩
    | true =>
      rw [hd] at HD HC
      have HV : Hid (V = kindB k l x) := HC.out.trans (by rw [HKd.out]; rfl)
      clear hd HC HKd
      go_upto_region 6 with (go_at_call 66; with_reducible refine (HD.out _).mono ?_; rintro e w' ⟨rfl, hw⟩; rw [hw]; clear hw)
      clear HD
      have HRi : Hid (∀ X, Calls Try.prog 66 #[.int .i64 x.a, .int .i64 0, .int .i64 ((k.insured.length : Int) - 1)] X fun e w' => e = .returned (.bool (inB x.a 0 ((k.insured.length : Int) - 1))) ∧ w' = X) := fun X => within_any _ _ _ X
      have HPe : Hid (∀ X, Calls Try.prog 66 #[.int .i64 x.b, .int .i64 0, .int .i64 ((k.ranks.length : Int) - 1)] X fun e w' => e = .returned (.bool (inB x.b 0 ((k.ranks.length : Int) - 1))) ∧ w' = X) := fun X => within_any _ _ _ X
      obtain ⟨b1, hb1⟩ : ∃ b, b = inB x.a 0 ((k.insured.length : Int) - 1) := ⟨_, rfl⟩
      obtain ⟨b2, hb2⟩ : ∃ b, b = inB x.b 0 ((k.ranks.length : Int) - 1) := ⟨_, rfl⟩
      rw [← hb1] at HRi
      rw [← hb2] at HPe
      have HB1 := Lib.hid hb1
      have HB2 := Lib.hid hb2
      clear hb1 hb2
      go_quiet (first | (go_at_call 66; with_reducible refine Calls.quiet_of_same (HRi.out _)) | (go_at_call 66; with_reducible refine Calls.quiet_of_same (HPe.out _)))
      have G0 : (W.drewN nq).cell? ⟨zg, 0, none⟩ = some (.slice R.A1 k.rules.length R.c1) := g0
      have G1 : (W.drewN nq).cell? ⟨zg, 1, none⟩ = some (.slice R.A2 k.ranks.length R.c2) := g1
      have G2 : (W.drewN nq).cell? ⟨zg, 2, none⟩ = some (.slice R.A3 k.insured.length R.c3) := g2
      have E0 : (W.drewN nq).cell? ⟨ze, 0, none⟩ = some (.int .i64 x.day) := e0
      have E1 : (W.drewN nq).cell? ⟨ze, 1, none⟩ = some (.int .i64 x.kind) := e1
      have E2 : (W.drewN nq).cell? ⟨ze, 2, none⟩ = some (.int .i64 x.a) := e2
      have E3 : (W.drewN nq).cell? ⟨ze, 3, none⟩ = some (.int .i64 x.b) := e3
      have E4 : (W.drewN nq).cell? ⟨ze, 4, none⟩ = some (.int .i64 x.c) := e4
      have LG : zg < (W.drewN nq).heap.size := lG
      have LE : ze < (W.drewN nq).heap.size := lE
      have HBZ := Lib.hid (below_drewN HBW.out nq)
      clear g0 g1 g2 e0 e1 e2 e3 e4 lG lE HBW HbW HRi HPe
      generalize W.drewN nq = Z at *
      by_cases hk1 : x.kind = 1
      · have HX : Hid (V = ((inB x.a 0 ((k.rules.length : Int) - 1) && signB k (k.rules.getD x.a.toNat default) x.b x.c))) := by show _ = _; rw [HV.out]; unfold kindB; rw [if_pos hk1]
        rw [hk1] at E1
        clear HV hk1
        have HR : Hid (∀ X, Calls Try.prog 66 #[.int .i64 x.a, .int .i64 0, .int .i64 ((k.rules.length : Int) - 1)] X fun e w' => e = .returned (.bool (inB x.a 0 ((k.rules.length : Int) - 1))) ∧ w' = X) := fun X => within_any _ _ _ X
        cases h1 : inB x.a 0 ((k.rules.length : Int) - 1) with
        | false =>
          rw [h1] at HR HX
          have HVv : Hid (V = false) := HX.out
          clear h1
          go_wp2_with (go_at_call 66; with_reducible refine (HR.out _).mono ?_; rintro e w' ⟨rfl, hw⟩; rw [hw]; clear hw)
          go_ret
          exact ⟨ret_boolI HVv.out.symm, HBZ.out⟩
        | true =>
          rw [h1] at HR HX
          have hb := inI_le h1
          obtain ⟨i, hi⟩ : ∃ i, i = x.a.toNat := ⟨_, rfl⟩
          have hn : x.a = (i : Int) := by omega
          have hil : i < k.rules.length := by omega
          rw [← hi, rules_at hil] at HX
          have HSz := Lib.hid (HSg.out i hil Z HBZ.out)
          rw [← hn] at HSz
          generalize signB k k.rules[i] x.b x.c = s at HSz HX
          have HVv : Hid (V = s) := HX.out
          clear h1 hb hi hn hil HX HSg
          go_wp2_with (first | (go_at_call 66; with_reducible refine (HR.out _).mono ?_; rintro e w' ⟨rfl, hw⟩; rw [hw]; clear hw) | (go_at_call 71; refine HSz.out.mono ?_; rintro e U ⟨rfl, hU⟩; have HBU := Lib.hid (HBZ.out.trans (hU.mono HBZ.out.size)); clear hU))
          go_ret
          exact ⟨ret_boolI HVv.out.symm, HBU.out⟩
      · skip
        by_cases hk2 : x.kind = 2
        · have HX : Hid (V = ((b1 && inB x.b 1 3) && decide (x.c = 0))) := by show _ = _; rw [HV.out]; unfold kindB; rw [if_neg hk1, if_pos hk2, HB1.out]
          rw [hk2] at E1
          clear HV hk1 hk2
          have HQ : Hid (∀ X, Calls Try.prog 66 #[.int .i64 x.b, .int .i64 1, .int .i64 3] X fun e w' => e = .returned (.bool (inB x.b 1 3)) ∧ w' = X) := fun X => within_any _ _ _ X
          generalize inB x.b 1 3 = t2 at HQ HX
          cases b1 with
          | false =>
            have HVv : Hid (V = false) := HX.out.trans (by simp)
            go_wp2_with fail
            go_ret
            exact ⟨ret_boolI HVv.out.symm, HBZ.out⟩
          | true =>
            cases t2 with
            | false =>
              have HVv : Hid (V = false) := HX.out.trans (by simp)
              go_wp2_with (first | (go_at_call 66; with_reducible refine (HQ.out _).mono ?_; rintro e w' ⟨rfl, hw⟩; rw [hw]; clear hw))
              go_ret
              exact ⟨ret_boolI HVv.out.symm, HBZ.out⟩
            | true =>
              have HVv : Hid (V = decide (x.c = 0)) := HX.out.trans (by simp)
              go_wp2_with (first | (go_at_call 66; with_reducible refine (HQ.out _).mono ?_; rintro e w' ⟨rfl, hw⟩; rw [hw]; clear hw))
              go_ret
              exact ⟨ret_boolI (Eq.trans (by first | rfl | (rw [Bool.eq_iff_iff]; simp)) HVv.out.symm), HBZ.out⟩
        · skip
          by_cases hk3 : x.kind = 3
          · have HX : Hid (V = ((openS l x.a && b2) && decide (x.c = 0))) := by show _ = _; rw [HV.out]; unfold kindB; rw [if_neg hk1, if_neg hk2, if_pos hk3, HB2.out]
            rw [hk3] at E1
            clear HV hk1 hk2 hk3
            have HO := Lib.hid (HOp.out Z HBZ.out)
            generalize openS l x.a = t1 at HO HX
            cases t1 with
            | false =>
              have HVv : Hid (V = false) := HX.out.trans (by simp)
              go_wp2_with (go_at_call 54; with_reducible refine HO.out.mono ?_; rintro e w' ⟨rfl, hw⟩; rw [hw]; clear hw)
              go_ret
              exact ⟨ret_boolI HVv.out.symm, HBZ.out⟩
            | true =>
              cases b2 with
              | false =>
                have HVv : Hid (V = false) := HX.out.trans (by simp)
                go_wp2_with (first | (go_at_call 54; with_reducible refine HO.out.mono ?_; rintro e w' ⟨rfl, hw⟩; rw [hw]; clear hw))
                go_ret
                exact ⟨ret_boolI HVv.out.symm, HBZ.out⟩
              | true =>
                have HVv : Hid (V = decide (x.c = 0)) := HX.out.trans (by simp)
                go_wp2_with (first | (go_at_call 54; with_reducible refine HO.out.mono ?_; rintro e w' ⟨rfl, hw⟩; rw [hw]; clear hw))
                go_ret
                exact ⟨ret_boolI (Eq.trans (by first | rfl | (rw [Bool.eq_iff_iff]; simp)) HVv.out.symm), HBZ.out⟩
          · skip
            by_cases hk4 : x.kind = 4
            · have HX : Hid (V = ((b1 && b2) && decide (x.c = 0))) := by show _ = _; rw [HV.out]; unfold kindB; rw [if_neg hk1, if_neg hk2, if_neg hk3, if_pos hk4, HB1.out, HB2.out]
              rw [hk4] at E1
              clear HV hk1 hk2 hk3 hk4
              cases b1 with
              | false =>
                have HVv : Hid (V = false) := HX.out.trans (by simp)
                go_wp2_with fail
                go_ret
                exact ⟨ret_boolI HVv.out.symm, HBZ.out⟩
              | true =>
                cases b2 with
                | false =>
                  have HVv : Hid (V = false) := HX.out.trans (by simp)
                  go_wp2_with fail
                  go_ret
                  exact ⟨ret_boolI HVv.out.symm, HBZ.out⟩
                | true =>
                  have HVv : Hid (V = decide (x.c = 0)) := HX.out.trans (by simp)
                  go_wp2_with fail
                  go_ret
                  exact ⟨ret_boolI (Eq.trans (by first | rfl | (rw [Bool.eq_iff_iff]; simp)) HVv.out.symm), HBZ.out⟩
            · skip
              by_cases hk5 : x.kind = 5
              · have HX : Hid (V = ((b1 && inB x.b 0 10000) && decide (x.c = 0))) := by show _ = _; rw [HV.out]; unfold kindB; rw [if_neg hk1, if_neg hk2, if_neg hk3, if_neg hk4, if_pos hk5, HB1.out]
                rw [hk5] at E1
                clear HV hk1 hk2 hk3 hk4 hk5
                have HQ : Hid (∀ X, Calls Try.prog 66 #[.int .i64 x.b, .int .i64 0, .int .i64 10000] X fun e w' => e = .returned (.bool (inB x.b 0 10000)) ∧ w' = X) := fun X => within_any _ _ _ X
                generalize inB x.b 0 10000 = t2 at HQ HX
                cases b1 with
                | false =>
                  have HVv : Hid (V = false) := HX.out.trans (by simp)
                  go_wp2_with fail
                  go_ret
                  exact ⟨ret_boolI HVv.out.symm, HBZ.out⟩
                | true =>
                  cases t2 with
                  | false =>
                    have HVv : Hid (V = false) := HX.out.trans (by simp)
                    go_wp2_with (first | (go_at_call 66; with_reducible refine (HQ.out _).mono ?_; rintro e w' ⟨rfl, hw⟩; rw [hw]; clear hw))
                    go_ret
                    exact ⟨ret_boolI HVv.out.symm, HBZ.out⟩
                  | true =>
                    have HVv : Hid (V = decide (x.c = 0)) := HX.out.trans (by simp)
                    go_wp2_with (first | (go_at_call 66; with_reducible refine (HQ.out _).mono ?_; rintro e w' ⟨rfl, hw⟩; rw [hw]; clear hw))
                    go_ret
                    exact ⟨ret_boolI (Eq.trans (by first | rfl | (rw [Bool.eq_iff_iff]; simp)) HVv.out.symm), HBZ.out⟩
              · skip
                by_cases hk6 : x.kind = 6
                · have HX : Hid (V = ((b1 && decide (x.b = 0)) && decide (x.c = 0))) := by show _ = _; rw [HV.out]; unfold kindB; rw [if_neg hk1, if_neg hk2, if_neg hk3, if_neg hk4, if_neg hk5, if_pos hk6, HB1.out]
                  rw [hk6] at E1
                  clear HV hk1 hk2 hk3 hk4 hk5 hk6
                  cases b1 with
                  | false =>
                    have HVv : Hid (V = false) := HX.out.trans (by simp)
                    go_wp2_with fail
                    go_ret
                    exact ⟨ret_boolI HVv.out.symm, HBZ.out⟩
                  | true =>
                    by_cases hxb : x.b = 0
                    · have HVv : Hid (V = decide (x.c = 0)) := HX.out.trans (by simp [hxb])
                      rw [hxb] at E3
                      clear hxb
                      go_wp2_with fail
                      go_ret
                      exact ⟨ret_boolI (Eq.trans (by first | rfl | (rw [Bool.eq_iff_iff]; simp)) HVv.out.symm), HBZ.out⟩
                    · have HVv : Hid (V = false) := HX.out.trans (by simp [hxb])
                      have dxb : decide (x.b = 0) = false := decide_eq_false hxb
                      go_wp2_with fail
                      go_ret
                      exact ⟨ret_boolI HVv.out.symm, HBZ.out⟩
                · have HVv : Hid (V = false) := by show _ = _; rw [HV.out]; unfold kindB; rw [if_neg hk1, if_neg hk2, if_neg hk3, if_neg hk4, if_neg hk5, if_neg hk6]
                  clear HV
                  have dk1 : decide (x.kind = 1) = false := decide_eq_false hk1
                  have dk2 : decide (x.kind = 2) = false := decide_eq_false hk2
                  have dk3 : decide (x.kind = 3) = false := decide_eq_false hk3
                  have dk4 : decide (x.kind = 4) = false := decide_eq_false hk4
                  have dk5 : decide (x.kind = 5) = false := decide_eq_false hk5
                  have dk6 : decide (x.kind = 6) = false := decide_eq_false hk6
                  go_wp2_with fail
                  go_ret
                  exact ⟨ret_boolI HVv.out.symm, HBZ.out⟩
  · obtain ⟨n, hn⟩ : ∃ n, l.length = n + 1 := ⟨l.length - 1, by omega⟩
    have HLn := Lib.hid (HL.out n hn)
    have hnl : n < l.length := by omega
    rw [ent_getD hnl] at HLn
    obtain ⟨b, o, hA, lb, x0, -, -, -, -⟩ := HEc.out n hnl W HbW.out (Nat.le_trans HBw.out HBW.out.size)
    rw [← HLn.out] at x0
    have n0 : ¬ (n : Int) < 0 := by omega
    have n1 : (n : Int) < (l.length : Int) := by omega
    have wn : IntKind.i64.wrap ((l.length : Int) - 1) = (n : Int) := by rw [show (l.length : Int) - 1 = (n : Int) by omega]; exact IntWalk.i64_in _ (by omega)
    have d0 : decide ((0 : Int) < (l.length : Int)) = true := decide_eq_true (by omega)
    have d0' : decide (0 < l.length) = true := decide_eq_true (by omega)
    subst hA
    clear hz HL HL0 hnl hn hl' HLn
    go_enter Try.func46, Try.ntmps46
    go_upto_region 1 with fail
    rw [← hW, ← hze, ← hzg]
    clear hW hze hzg
    go_upto_region 4 with fail
    clear x0 n0 n1 wn lb
    have HD : Hid (∀ X, Calls Try.prog 66 #[.int .i64 x.day, .int .i64 L, .int .i64 10000] X fun e w' => e = .returned (.bool (inB x.day L 10000)) ∧ w' = X) := fun X => within_any _ _ _ X
    cases hd : inB x.day L 10000 with
    | false =>
      rw [hd] at HD HC
      have HV : Hid (V = false) := HC.out
      clear hd
      go_wp2_with (go_at_call 66; with_reducible refine (HD.out _).mono ?_; rintro e w' ⟨rfl, hw⟩; rw [hw]; clear hw)
      go_ret
      exact ⟨ret_boolI HV.out.symm, HBW.out⟩
    | true =>
      rw [hd] at HD HC
      have HV : Hid (V = kindB k l x) := HC.out.trans (by rw [HKd.out]; rfl)
      clear hd HC HKd
      go_upto_region 6 with (go_at_call 66; with_reducible refine (HD.out _).mono ?_; rintro e w' ⟨rfl, hw⟩; rw [hw]; clear hw)
      clear HD
      have HRi : Hid (∀ X, Calls Try.prog 66 #[.int .i64 x.a, .int .i64 0, .int .i64 ((k.insured.length : Int) - 1)] X fun e w' => e = .returned (.bool (inB x.a 0 ((k.insured.length : Int) - 1))) ∧ w' = X) := fun X => within_any _ _ _ X
      have HPe : Hid (∀ X, Calls Try.prog 66 #[.int .i64 x.b, .int .i64 0, .int .i64 ((k.ranks.length : Int) - 1)] X fun e w' => e = .returned (.bool (inB x.b 0 ((k.ranks.length : Int) - 1))) ∧ w' = X) := fun X => within_any _ _ _ X
      obtain ⟨b1, hb1⟩ : ∃ b, b = inB x.a 0 ((k.insured.length : Int) - 1) := ⟨_, rfl⟩
      obtain ⟨b2, hb2⟩ : ∃ b, b = inB x.b 0 ((k.ranks.length : Int) - 1) := ⟨_, rfl⟩
      rw [← hb1] at HRi
      rw [← hb2] at HPe
      have HB1 := Lib.hid hb1
      have HB2 := Lib.hid hb2
      clear hb1 hb2
      go_quiet (first | (go_at_call 66; with_reducible refine Calls.quiet_of_same (HRi.out _)) | (go_at_call 66; with_reducible refine Calls.quiet_of_same (HPe.out _)))
      have G0 : (W.drewN nq).cell? ⟨zg, 0, none⟩ = some (.slice R.A1 k.rules.length R.c1) := g0
      have G1 : (W.drewN nq).cell? ⟨zg, 1, none⟩ = some (.slice R.A2 k.ranks.length R.c2) := g1
      have G2 : (W.drewN nq).cell? ⟨zg, 2, none⟩ = some (.slice R.A3 k.insured.length R.c3) := g2
      have E0 : (W.drewN nq).cell? ⟨ze, 0, none⟩ = some (.int .i64 x.day) := e0
      have E1 : (W.drewN nq).cell? ⟨ze, 1, none⟩ = some (.int .i64 x.kind) := e1
      have E2 : (W.drewN nq).cell? ⟨ze, 2, none⟩ = some (.int .i64 x.a) := e2
      have E3 : (W.drewN nq).cell? ⟨ze, 3, none⟩ = some (.int .i64 x.b) := e3
      have E4 : (W.drewN nq).cell? ⟨ze, 4, none⟩ = some (.int .i64 x.c) := e4
      have LG : zg < (W.drewN nq).heap.size := lG
      have LE : ze < (W.drewN nq).heap.size := lE
      have HBZ := Lib.hid (below_drewN HBW.out nq)
      clear g0 g1 g2 e0 e1 e2 e3 e4 lG lE HBW HbW HRi HPe
      generalize W.drewN nq = Z at *
      by_cases hk1 : x.kind = 1
      · have HX : Hid (V = ((inB x.a 0 ((k.rules.length : Int) - 1) && signB k (k.rules.getD x.a.toNat default) x.b x.c))) := by show _ = _; rw [HV.out]; unfold kindB; rw [if_pos hk1]
        rw [hk1] at E1
        clear HV hk1
        have HR : Hid (∀ X, Calls Try.prog 66 #[.int .i64 x.a, .int .i64 0, .int .i64 ((k.rules.length : Int) - 1)] X fun e w' => e = .returned (.bool (inB x.a 0 ((k.rules.length : Int) - 1))) ∧ w' = X) := fun X => within_any _ _ _ X
        cases h1 : inB x.a 0 ((k.rules.length : Int) - 1) with
        | false =>
          rw [h1] at HR HX
          have HVv : Hid (V = false) := HX.out
          clear h1
          go_wp2_with (go_at_call 66; with_reducible refine (HR.out _).mono ?_; rintro e w' ⟨rfl, hw⟩; rw [hw]; clear hw)
          go_ret
          exact ⟨ret_boolI HVv.out.symm, HBZ.out⟩
        | true =>
          rw [h1] at HR HX
          have hb := inI_le h1
          obtain ⟨i, hi⟩ : ∃ i, i = x.a.toNat := ⟨_, rfl⟩
          have hn : x.a = (i : Int) := by omega
          have hil : i < k.rules.length := by omega
          rw [← hi, rules_at hil] at HX
          have HSz := Lib.hid (HSg.out i hil Z HBZ.out)
          rw [← hn] at HSz
          generalize signB k k.rules[i] x.b x.c = s at HSz HX
          have HVv : Hid (V = s) := HX.out
          clear h1 hb hi hn hil HX HSg
          go_wp2_with (first | (go_at_call 66; with_reducible refine (HR.out _).mono ?_; rintro e w' ⟨rfl, hw⟩; rw [hw]; clear hw) | (go_at_call 71; refine HSz.out.mono ?_; rintro e U ⟨rfl, hU⟩; have HBU := Lib.hid (HBZ.out.trans (hU.mono HBZ.out.size)); clear hU))
          go_ret
          exact ⟨ret_boolI HVv.out.symm, HBU.out⟩
      · skip
        by_cases hk2 : x.kind = 2
        · have HX : Hid (V = ((b1 && inB x.b 1 3) && decide (x.c = 0))) := by show _ = _; rw [HV.out]; unfold kindB; rw [if_neg hk1, if_pos hk2, HB1.out]
          rw [hk2] at E1
          clear HV hk1 hk2
          have HQ : Hid (∀ X, Calls Try.prog 66 #[.int .i64 x.b, .int .i64 1, .int .i64 3] X fun e w' => e = .returned (.bool (inB x.b 1 3)) ∧ w' = X) := fun X => within_any _ _ _ X
          generalize inB x.b 1 3 = t2 at HQ HX
          cases b1 with
          | false =>
            have HVv : Hid (V = false) := HX.out.trans (by simp)
            go_wp2_with fail
            go_ret
            exact ⟨ret_boolI HVv.out.symm, HBZ.out⟩
          | true =>
            cases t2 with
            | false =>
              have HVv : Hid (V = false) := HX.out.trans (by simp)
              go_wp2_with (first | (go_at_call 66; with_reducible refine (HQ.out _).mono ?_; rintro e w' ⟨rfl, hw⟩; rw [hw]; clear hw))
              go_ret
              exact ⟨ret_boolI HVv.out.symm, HBZ.out⟩
            | true =>
              have HVv : Hid (V = decide (x.c = 0)) := HX.out.trans (by simp)
              go_wp2_with (first | (go_at_call 66; with_reducible refine (HQ.out _).mono ?_; rintro e w' ⟨rfl, hw⟩; rw [hw]; clear hw))
              go_ret
              exact ⟨ret_boolI (Eq.trans (by first | rfl | (rw [Bool.eq_iff_iff]; simp)) HVv.out.symm), HBZ.out⟩
        · skip
          by_cases hk3 : x.kind = 3
          · have HX : Hid (V = ((openS l x.a && b2) && decide (x.c = 0))) := by show _ = _; rw [HV.out]; unfold kindB; rw [if_neg hk1, if_neg hk2, if_pos hk3, HB2.out]
            rw [hk3] at E1
            clear HV hk1 hk2 hk3
            have HO := Lib.hid (HOp.out Z HBZ.out)
            generalize openS l x.a = t1 at HO HX
            cases t1 with
            | false =>
              have HVv : Hid (V = false) := HX.out.trans (by simp)
              go_wp2_with (go_at_call 54; with_reducible refine HO.out.mono ?_; rintro e w' ⟨rfl, hw⟩; rw [hw]; clear hw)
              go_ret
              exact ⟨ret_boolI HVv.out.symm, HBZ.out⟩
            | true =>
              cases b2 with
              | false =>
                have HVv : Hid (V = false) := HX.out.trans (by simp)
                go_wp2_with (first | (go_at_call 54; with_reducible refine HO.out.mono ?_; rintro e w' ⟨rfl, hw⟩; rw [hw]; clear hw))
                go_ret
                exact ⟨ret_boolI HVv.out.symm, HBZ.out⟩
              | true =>
                have HVv : Hid (V = decide (x.c = 0)) := HX.out.trans (by simp)
                go_wp2_with (first | (go_at_call 54; with_reducible refine HO.out.mono ?_; rintro e w' ⟨rfl, hw⟩; rw [hw]; clear hw))
                go_ret
                exact ⟨ret_boolI (Eq.trans (by first | rfl | (rw [Bool.eq_iff_iff]; simp)) HVv.out.symm), HBZ.out⟩
          · skip
            by_cases hk4 : x.kind = 4
            · have HX : Hid (V = ((b1 && b2) && decide (x.c = 0))) := by show _ = _; rw [HV.out]; unfold kindB; rw [if_neg hk1, if_neg hk2, if_neg hk3, if_pos hk4, HB1.out, HB2.out]
              rw [hk4] at E1
              clear HV hk1 hk2 hk3 hk4
              cases b1 with
              | false =>
                have HVv : Hid (V = false) := HX.out.trans (by simp)
                go_wp2_with fail
                go_ret
                exact ⟨ret_boolI HVv.out.symm, HBZ.out⟩
              | true =>
                cases b2 with
                | false =>
                  have HVv : Hid (V = false) := HX.out.trans (by simp)
                  go_wp2_with fail
                  go_ret
                  exact ⟨ret_boolI HVv.out.symm, HBZ.out⟩
                | true =>
                  have HVv : Hid (V = decide (x.c = 0)) := HX.out.trans (by simp)
                  go_wp2_with fail
                  go_ret
                  exact ⟨ret_boolI (Eq.trans (by first | rfl | (rw [Bool.eq_iff_iff]; simp)) HVv.out.symm), HBZ.out⟩
            · skip
              by_cases hk5 : x.kind = 5
              · have HX : Hid (V = ((b1 && inB x.b 0 10000) && decide (x.c = 0))) := by show _ = _; rw [HV.out]; unfold kindB; rw [if_neg hk1, if_neg hk2, if_neg hk3, if_neg hk4, if_pos hk5, HB1.out]
                rw [hk5] at E1
                clear HV hk1 hk2 hk3 hk4 hk5
                have HQ : Hid (∀ X, Calls Try.prog 66 #[.int .i64 x.b, .int .i64 0, .int .i64 10000] X fun e w' => e = .returned (.bool (inB x.b 0 10000)) ∧ w' = X) := fun X => within_any _ _ _ X
                generalize inB x.b 0 10000 = t2 at HQ HX
                cases b1 with
                | false =>
                  have HVv : Hid (V = false) := HX.out.trans (by simp)
                  go_wp2_with fail
                  go_ret
                  exact ⟨ret_boolI HVv.out.symm, HBZ.out⟩
                | true =>
                  cases t2 with
                  | false =>
                    have HVv : Hid (V = false) := HX.out.trans (by simp)
                    go_wp2_with (first | (go_at_call 66; with_reducible refine (HQ.out _).mono ?_; rintro e w' ⟨rfl, hw⟩; rw [hw]; clear hw))
                    go_ret
                    exact ⟨ret_boolI HVv.out.symm, HBZ.out⟩
                  | true =>
                    have HVv : Hid (V = decide (x.c = 0)) := HX.out.trans (by simp)
                    go_wp2_with (first | (go_at_call 66; with_reducible refine (HQ.out _).mono ?_; rintro e w' ⟨rfl, hw⟩; rw [hw]; clear hw))
                    go_ret
                    exact ⟨ret_boolI (Eq.trans (by first | rfl | (rw [Bool.eq_iff_iff]; simp)) HVv.out.symm), HBZ.out⟩
              · skip
                by_cases hk6 : x.kind = 6
                · have HX : Hid (V = ((b1 && decide (x.b = 0)) && decide (x.c = 0))) := by show _ = _; rw [HV.out]; unfold kindB; rw [if_neg hk1, if_neg hk2, if_neg hk3, if_neg hk4, if_neg hk5, if_pos hk6, HB1.out]
                  rw [hk6] at E1
                  clear HV hk1 hk2 hk3 hk4 hk5 hk6
                  cases b1 with
                  | false =>
                    have HVv : Hid (V = false) := HX.out.trans (by simp)
                    go_wp2_with fail
                    go_ret
                    exact ⟨ret_boolI HVv.out.symm, HBZ.out⟩
                  | true =>
                    by_cases hxb : x.b = 0
                    · have HVv : Hid (V = decide (x.c = 0)) := HX.out.trans (by simp [hxb])
                      rw [hxb] at E3
                      clear hxb
                      go_wp2_with fail
                      go_ret
                      exact ⟨ret_boolI (Eq.trans (by first | rfl | (rw [Bool.eq_iff_iff]; simp)) HVv.out.symm), HBZ.out⟩
                    · have HVv : Hid (V = false) := HX.out.trans (by simp [hxb])
                      have dxb : decide (x.b = 0) = false := decide_eq_false hxb
                      go_wp2_with fail
                      go_ret
                      exact ⟨ret_boolI HVv.out.symm, HBZ.out⟩
                · have HVv : Hid (V = false) := by show _ = _; rw [HV.out]; unfold kindB; rw [if_neg hk1, if_neg hk2, if_neg hk3, if_neg hk4, if_neg hk5, if_neg hk6]
                  clear HV
                  have dk1 : decide (x.kind = 1) = false := decide_eq_false hk1
                  have dk2 : decide (x.kind = 2) = false := decide_eq_false hk2
                  have dk3 : decide (x.kind = 3) = false := decide_eq_false hk3
                  have dk4 : decide (x.kind = 4) = false := decide_eq_false hk4
                  have dk5 : decide (x.kind = 5) = false := decide_eq_false hk5
                  have dk6 : decide (x.kind = 6) = false := decide_eq_false hk6
                  go_wp2_with fail
                  go_ret
                  exact ⟨ret_boolI HVv.out.symm, HBZ.out⟩
theorem logOk_take {k : BookZ} {l : List EntZ} {n : Nat} (hb : bookB k = true) (hl : l.length ≤ 100) (h : badN k l n = n) (hn : n ≤ l.length) : LogOk k (l.take n) := by
  refine ⟨hb, by rw [List.length_take]; omega, fun i hi => ?_⟩
  rw [List.length_take] at hi
  have := badN_all h i (by omega)
  rw [List.take_take, show min i n = i by omega]
  rw [List.getD_eq_getElem?_getD, List.getElem?_take, if_pos (by omega), ← List.getD_eq_getElem?_getD]
  exact this
structure RcI (U : World) (k : BookZ) (R : BkR) (l : List EntZ) (b o c n : Nat) (x : EntZ) (cb : Bool) (done : Nat → Bool) (xs : Nat → Value) (y : World) : Prop where
  bl : Below U.heap.size U y
  v0 : done 0 = true → xs 0 = .agg #[.slice R.A1 k.rules.length R.c1, .slice R.A2 k.ranks.length R.c2, .slice R.A3 k.insured.length R.c3]
  v1 : done 1 = true → xs 1 = .slice (some ⟨b, o, none⟩) l.length c
  v2 : done 2 = true → xs 2 = .int .i64 (n : Int)
  v3 : done 3 = true → xs 3 = .slice (some ⟨b, o, none⟩) n c
  v4 : done 4 = true → xs 4 = .slice (some ⟨b, o, none⟩) l.length c
  v5 : done 5 = true → xs 5 = .int .i64 (n : Int)
  v6 : done 6 = true → xs 6 = .pointer (some ⟨b, o + n * 5, none⟩)
  v7 : done 7 = true → xs 7 = .agg #[.int .i64 x.day, .int .i64 x.kind, .int .i64 x.a, .int .i64 x.b, .int .i64 x.c]
  v8 : done 8 = true → xs 8 = .bool cb
  v9 : done 9 = true → xs 9 = .bool !cb
set_option maxRecDepth 100000 in
set_option maxHeartbeats 4000000 in
theorem rCheck_any (k : BookZ) (R : BkR) (l : List EntZ) (A : Option Addr) (c B : Nat) (w : World) (hB : B ≤ w.heap.size) (hl : l.length ≤ maxLen) (hlc : l.length ≤ c) (hr : Reads w B 5 A l.length (entCells l)) (hk : BkIn w B k R) :
    Calls Try.prog 19 #[bookV k R, .slice A l.length c] w fun e w' => e = .returned (.tuple #[.int .i64 (chkR k l).1, .int .i64 (chkR k l).2]) ∧ Below w.heap.size w w' := by
  obtain ⟨W, hW⟩ : ∃ W, W = w.alloc (.cells #[.slice R.A1 k.rules.length R.c1, .slice R.A2 k.ranks.length R.c2, .slice R.A3 k.insured.length R.c3] 25) := ⟨_, rfl⟩
  have bW : Below w.heap.size w W := by subst hW; exact (Below.refl _ _).alloc (Nat.le_refl _) _
  have r0 : Row W w.heap.size 25 [.slice R.A1 k.rules.length R.c1, .slice R.A2 k.ranks.length R.c2, .slice R.A3 k.insured.length R.c3] := by subst hW; exact Row.new w _ _
  obtain ⟨zb, hzb⟩ : ∃ z, z = w.heap.size := ⟨_, rfl⟩
  rw [← hzb] at r0
  have q0 : W.cell? ⟨zb, 0, none⟩ = some (.slice R.A1 k.rules.length R.c1) := r0.cell (j := 0) (by simp)
  have q1 : W.cell? ⟨zb, 1, none⟩ = some (.slice R.A2 k.ranks.length R.c2) := r0.cell (j := 1) (by simp)
  have q2 : W.cell? ⟨zb, 2, none⟩ = some (.slice R.A3 k.insured.length R.c3) := r0.cell (j := 2) (by simp)
  have lW := r0.lt
  have HBW := Lib.hid bW
  have HR0 := Lib.hid r0
  have HBk := Lib.hid (rbook_any k R B W (Nat.le_trans hB bW.size) (hk.below (bW.mono hB)))
  have HRt : Hid (∀ (n : Nat) (x : EntZ) (X : World), n ≤ l.length → 0 ≤ lastDay (l.take n) → Below w.heap.size w X → Calls Try.prog 46 #[bookV k R, .slice A n c, entV x] X fun e w' => e = .returned (.bool (canB k (l.take n) x)) ∧ Below X.heap.size X w') := fun n x X hn h0 hX => by
    have h := rright_any k R (l.take n) A c B x X (Nat.le_trans hB hX.size) (by rw [List.length_take]; omega) (ents_take (hr.below (hX.mono hB)) hn) (hk.below (hX.mono hB)) h0
    have e : (l.take n).length = n := by rw [List.length_take]; omega
    rw [e] at h
    exact h
  have HEc := ent_cells hr
  have HBB : Hid (B ≤ w.heap.size) := hB
  have HC1 := Lib.hid (fun h => chk_book (k := k) (l := l) h)
  have HC2 := Lib.hid (fun h hl => chk_many (k := k) (l := l) h hl)
  have HC3 := Lib.hid (fun h hl n hn hb hc => chk_bad (k := k) (l := l) h hl (n := n) hn hb hc)
  have HC4 := Lib.hid (fun h hl hb => chk_good (k := k) (l := l) h hl hb)
  generalize chkR k l = P at HC1 HC2 HC3 HC4 ⊢
  obtain ⟨p1, p2⟩ := P
  unfold maxLen at hl
  unfold bookV entV at *
  clear bW r0 hk hr hB
  cases hb : bookB k with
  | false =>
    have HV := Lib.hid (HC1.out hb)
    rw [show bkE k = 100 by unfold bkE; rw [hb]; rfl] at HBk
    clear HC1 HC2 HC3 HC4 hb
    go_enter Try.func19, Try.ntmps19
    go_upto_region 1 with fail
    rw [← hW, ← hzb]
    clear hW hzb
    go_wp2_with (go_at_call 45; refine HBk.out.mono ?_; rintro e X ⟨rfl, hX⟩; have HX := Lib.hid (HBW.out.trans (hX.mono HBW.out.size)); clear hX)
    refine bodyPost_ret (v := .tuple #[.int .i64 0, .int .i64 100]) (by simp [results, Try.results19, go_sem]) rfl ?_
    exact ⟨by injection HV.out with h1 h2; rw [h1, h2], HX.out⟩
  | true =>
    rw [show bkE k = 0 by unfold bkE; rw [hb]; rfl] at HBk
    have HB1 := Lib.hid hb
    by_cases hm : 100 < l.length
    · have d1 : decide ((100 : Int) < (l.length : Int)) = true := by simp; omega
      have HV := Lib.hid (HC2.out hb hm)
      clear HC1 HC2 HC3 HC4 hb hm
      go_enter Try.func19, Try.ntmps19
      go_upto_region 1 with fail
      rw [← hW, ← hzb]
      clear hW hzb
      go_wp2_with (go_at_call 45; refine HBk.out.mono ?_; rintro e X ⟨rfl, hX⟩; have HX := Lib.hid (HBW.out.trans (hX.mono HBW.out.size)); clear hX)
      refine bodyPost_ret (v := .tuple #[.int .i64 0, .int .i64 2]) (by simp [results, Try.results19, go_sem]) rfl ?_
      exact ⟨by injection HV.out with h1 h2; rw [h1, h2], HX.out⟩
    · have d1 : decide ((100 : Int) < (l.length : Int)) = false := by simp; omega
      have HM : Hid (¬ 100 < l.length) := hm
      clear HC1 HC2 hb hm
      go_enter Try.func19, Try.ntmps19
      go_upto_region 1 with fail
      rw [← hW, ← hzb]
      clear hW hzb
      go_wp2_with (go_at_call 45; refine HBk.out.mono ?_; rintro e X ⟨rfl, hX⟩; have HS0 := Lib.hid (HR0.out.below hX HR0.out.lt); have HX := Lib.hid (HBW.out.trans (hX.mono HBW.out.size)); clear hX)
      clear HBk d1
      go_loopw [7] (fun i wr => ∃ n : Nat, n ≤ l.length ∧ i = .int .i64 n ∧ Below X.heap.size X wr ∧ Hid (badN k l n = n)) (fun i _ => l.length - (intOf i).toNat)
      case atStart => exact ⟨0, Nat.zero_le _, rfl, Below.refl _ _, rfl⟩
      case round =>
        obtain ⟨n, hn, rfl, hbel, Hbad⟩ := hrel
        have HBr := Lib.hid (HX.out.trans (hbel.mono HX.out.size))
        have HBL := Lib.hid hbel
        have HGr := Lib.hid (HS0.out.below hbel HS0.out.lt)
        by_cases hlt : n < l.length
        · have n1 : (n : Int) < (l.length : Int) := by omega
          have n0 : ¬ (n : Int) < 0 := by omega
          have en : IntKind.i64.wrap ((n : Int) + 1) = (n : Int) + 1 := IntWalk.i64_in _ (by omega)
          have nc : ¬ (c : Int) < (n : Int) := by omega
          obtain ⟨b, o, hA, lb, x0, x1, x2, x3, x4⟩ := HEc.out n hlt wr (HBr.out.mono HBB.out) (Nat.le_trans HBB.out HBr.out.size)
          have HLo := Lib.hid (logOk_take HB1.out (by have := HM.out; omega) Hbad.out (Nat.le_of_lt hlt)).last.2.1
          have HRn := Lib.hid (fun (x : EntZ) (X : World) (hX : Below w.heap.size w X) => HRt.out n x X hn HLo.out hX)
          have HGo := Lib.hid (fun hc => badN_go (k := k) (l := l) Hbad.out hc)
          have HSt := Lib.hid (fun hc => HC3.out HB1.out HM.out n hlt Hbad.out hc)
          rw [ent_getD hlt] at HGo HSt
          generalize l[n] = x at x0 x1 x2 x3 x4 HGo HSt
          have HRx := Lib.hid (HRn.out x)
          generalize canB k (l.take n) x = cb at HRx HGo HSt
          rw [hA] at HRx ⊢
          have Y0 := Lib.hid x0
          have Y1 := Lib.hid x1
          have Y2 := Lib.hid x2
          have Y3 := Lib.hid x3
          have Y4 := Lib.hid x4
          have HLb := Lib.hid lb
          clear hbel hA HRt HEc HRn x0 x1 x2 x3 x4 lb
          go_upto_region 9 with fail
          refine wp_region_stepsY 10 (ord := [0, 1, 2, 3, 4, 5, 6, 7, 8, 9]) (ds := [(0, 22), (1, 23), (2, 24), (3, 25), (4, 26), (5, 27), (6, 28), (7, 29), (8, 30), (9, 31)]) (I := RcI wr k R l b o c n x cb) (by kernel_rfl) (by kernel_rfl) rfl ?iz (StepsY.cons (k := 0) (k' := 1) (o := ⟨some 22, _, _, _, _, _⟩) rfl rfl ?sz0 (StepsY.cons (k := 1) (k' := 2) (o := ⟨some 23, _, _, _, _, _⟩) rfl rfl ?sz1 (StepsY.cons (k := 2) (k' := 3) (o := ⟨some 24, _, _, _, _, _⟩) rfl rfl ?sz2 (StepsY.cons (k := 3) (k' := 4) (o := ⟨some 25, _, _, _, _, _⟩) rfl rfl ?sz3 (StepsY.cons (k := 4) (k' := 5) (o := ⟨some 26, _, _, _, _, _⟩) rfl rfl ?sz4 (StepsY.cons (k := 5) (k' := 6) (o := ⟨some 27, _, _, _, _, _⟩) rfl rfl ?sz5 (StepsY.cons (k := 6) (k' := 7) (o := ⟨some 28, _, _, _, _, _⟩) rfl rfl ?sz6 (StepsY.cons (k := 7) (k' := 8) (o := ⟨some 29, _, _, _, _, _⟩) rfl rfl ?sz7 (StepsY.cons (k := 8) (k' := 9) (o := ⟨some 30, _, _, _, _, _⟩) rfl rfl ?sz8 (StepsY.cons (k := 9) (k' := 10) (o := ⟨some 31, _, _, _, _, _⟩) rfl rfl ?sz9 StepsY.nil)))))))))) ?finz
          case iz => exact fun xs => ⟨(Below.refl _ _).drew, fun h => Bool.noConfusion h, fun h => Bool.noConfusion h, fun h => Bool.noConfusion h, fun h => Bool.noConfusion h, fun h => Bool.noConfusion h, fun h => Bool.noConfusion h, fun h => Bool.noConfusion h, fun h => Bool.noConfusion h, fun h => Bool.noConfusion h, fun h => Bool.noConfusion h⟩
          case sz0 =>
            intro xs done y hI hd0 hup hdn K hK
            refine wpOp_go (o := ⟨some 22, _, _, _, _, _⟩) rfl rfl ?_
            simp only [putsF, List.foldl_cons, List.foldl_nil, Act.put, List.setIfInBounds_toArray, List.set_cons_zero, List.set_cons_succ] at hK ⊢
            have rG := HGr.out.below hI.bl HGr.out.lt
            have lG := rG.lt
            have g0 : y.cell? ⟨zb, 0, none⟩ = some (.slice R.A1 k.rules.length R.c1) := rG.cell (j := 0) (by simp)
            have g1 : y.cell? ⟨zb, 1, none⟩ = some (.slice R.A2 k.ranks.length R.c2) := rG.cell (j := 1) (by simp)
            have g2 : y.cell? ⟨zb, 2, none⟩ = some (.slice R.A3 k.insured.length R.c3) := rG.cell (j := 2) (by simp)
            go_wp2_with fail
            exact hK.out _ _ ⟨hI.bl, fun _ => rfl, hI.v1, hI.v2, hI.v3, hI.v4, hI.v5, hI.v6, hI.v7, hI.v8, hI.v9⟩
          case sz1 =>
            intro xs done y hI hd0 hup hdn K hK
            refine wpOp_go (o := ⟨some 23, _, _, _, _, _⟩) rfl rfl ?_
            simp only [putsF, List.foldl_cons, List.foldl_nil, Act.put, List.setIfInBounds_toArray, List.set_cons_zero, List.set_cons_succ] at hK ⊢
            go_wp2_with fail
            exact hK.out _ _ ⟨hI.bl, hI.v0, fun _ => rfl, hI.v2, hI.v3, hI.v4, hI.v5, hI.v6, hI.v7, hI.v8, hI.v9⟩
          case sz2 =>
            intro xs done y hI hd0 hup hdn K hK
            refine wpOp_go (o := ⟨some 24, _, _, _, _, _⟩) rfl rfl ?_
            simp only [putsF, List.foldl_cons, List.foldl_nil, Act.put, List.setIfInBounds_toArray, List.set_cons_zero, List.set_cons_succ] at hK ⊢
            go_wp2_with fail
            exact hK.out _ _ ⟨hI.bl, hI.v0, hI.v1, fun _ => rfl, hI.v3, hI.v4, hI.v5, hI.v6, hI.v7, hI.v8, hI.v9⟩
          case sz3 =>
            intro xs done y hI hd0 hup hdn K hK
            refine wpOp_go (o := ⟨some 25, _, _, _, _, _⟩) rfl rfl ?_
            have e1 := hI.v1 (hdn 1 (by kernel_rfl))
            have e2 := hI.v2 (hdn 2 (by kernel_rfl))
            simp only [putsF, List.foldl_cons, List.foldl_nil, Act.put, List.setIfInBounds_toArray, List.set_cons_zero, List.set_cons_succ] at hK ⊢
            simp only [e1, e2] at hK ⊢
            go_wp2_with fail
            exact hK.out _ _ ⟨hI.bl, hI.v0, hI.v1, hI.v2, fun _ => rfl, hI.v4, hI.v5, hI.v6, hI.v7, hI.v8, hI.v9⟩
          case sz4 =>
            intro xs done y hI hd0 hup hdn K hK
            refine wpOp_go (o := ⟨some 26, _, _, _, _, _⟩) rfl rfl ?_
            simp only [putsF, List.foldl_cons, List.foldl_nil, Act.put, List.setIfInBounds_toArray, List.set_cons_zero, List.set_cons_succ] at hK ⊢
            go_wp2_with fail
            exact hK.out _ _ ⟨hI.bl, hI.v0, hI.v1, hI.v2, hI.v3, fun _ => rfl, hI.v5, hI.v6, hI.v7, hI.v8, hI.v9⟩
          case sz5 =>
            intro xs done y hI hd0 hup hdn K hK
            refine wpOp_go (o := ⟨some 27, _, _, _, _, _⟩) rfl rfl ?_
            simp only [putsF, List.foldl_cons, List.foldl_nil, Act.put, List.setIfInBounds_toArray, List.set_cons_zero, List.set_cons_succ] at hK ⊢
            go_wp2_with fail
            exact hK.out _ _ ⟨hI.bl, hI.v0, hI.v1, hI.v2, hI.v3, hI.v4, fun _ => rfl, hI.v6, hI.v7, hI.v8, hI.v9⟩
          case sz6 =>
            intro xs done y hI hd0 hup hdn K hK
            refine wpOp_go (o := ⟨some 28, _, _, _, _, _⟩) rfl rfl ?_
            have e4 := hI.v4 (hdn 4 (by kernel_rfl))
            have e5 := hI.v5 (hdn 5 (by kernel_rfl))
            simp only [putsF, List.foldl_cons, List.foldl_nil, Act.put, List.setIfInBounds_toArray, List.set_cons_zero, List.set_cons_succ] at hK ⊢
            simp only [e4, e5] at hK ⊢
            have ly : b < y.heap.size := Nat.lt_of_lt_of_le HLb.out hI.bl.size
            go_wp2_with fail
            exact hK.out _ _ ⟨hI.bl, hI.v0, hI.v1, hI.v2, hI.v3, hI.v4, hI.v5, fun _ => rfl, hI.v7, hI.v8, hI.v9⟩
          case sz7 =>
            intro xs done y hI hd0 hup hdn K hK
            refine wpOp_go (o := ⟨some 29, _, _, _, _, _⟩) rfl rfl ?_
            have e6 := hI.v6 (hdn 6 (by kernel_rfl))
            simp only [putsF, List.foldl_cons, List.foldl_nil, Act.put, List.setIfInBounds_toArray, List.set_cons_zero, List.set_cons_succ] at hK ⊢
            simp only [e6] at hK ⊢
            have ly : b < y.heap.size := Nat.lt_of_lt_of_le HLb.out hI.bl.size
            have y0 : y.cell? ⟨b, o + n * 5, none⟩ = some (.int .i64 x.day) := by rw [hI.bl.cell (p := ⟨b, o + n * 5, none⟩) HLb.out]; exact Y0.out
            have y1 : y.cell? ⟨b, o + n * 5 + 1, none⟩ = some (.int .i64 x.kind) := by rw [hI.bl.cell (p := ⟨b, o + n * 5 + 1, none⟩) HLb.out]; exact Y1.out
            have y2 : y.cell? ⟨b, o + n * 5 + 2, none⟩ = some (.int .i64 x.a) := by rw [hI.bl.cell (p := ⟨b, o + n * 5 + 2, none⟩) HLb.out]; exact Y2.out
            have y3 : y.cell? ⟨b, o + n * 5 + 3, none⟩ = some (.int .i64 x.b) := by rw [hI.bl.cell (p := ⟨b, o + n * 5 + 3, none⟩) HLb.out]; exact Y3.out
            have y4 : y.cell? ⟨b, o + n * 5 + 4, none⟩ = some (.int .i64 x.c) := by rw [hI.bl.cell (p := ⟨b, o + n * 5 + 4, none⟩) HLb.out]; exact Y4.out
            go_wp2_with fail
            exact hK.out _ _ ⟨hI.bl, hI.v0, hI.v1, hI.v2, hI.v3, hI.v4, hI.v5, hI.v6, fun _ => rfl, hI.v8, hI.v9⟩
          case sz8 =>
            intro xs done y hI hd0 hup hdn K hK
            refine wpOp_go (o := ⟨some 30, _, _, _, _, _⟩) rfl rfl ?_
            have e0 := hI.v0 (hdn 0 (by kernel_rfl))
            have e3 := hI.v3 (hdn 3 (by kernel_rfl))
            have e7 := hI.v7 (hdn 7 (by kernel_rfl))
            simp only [putsF, List.foldl_cons, List.foldl_nil, Act.put, List.setIfInBounds_toArray, List.set_cons_zero, List.set_cons_succ] at hK ⊢
            simp only [e0, e3, e7] at hK ⊢
            have hq := HRx.out y (HBr.out.trans (hI.bl.mono HBr.out.size))
            go_wp2_with (go_at_call 46; refine hq.mono ?_; rintro e z ⟨rfl, hb4⟩)
            exact hK.out _ _ ⟨(hI.bl.trans (hb4.mono hI.bl.size)), hI.v0, hI.v1, hI.v2, hI.v3, hI.v4, hI.v5, hI.v6, hI.v7, fun _ => rfl, hI.v9⟩
          case sz9 =>
            intro xs done y hI hd0 hup hdn K hK
            refine wpOp_go (o := ⟨some 31, _, _, _, _, _⟩) rfl rfl ?_
            have e8 := hI.v8 (hdn 8 (by kernel_rfl))
            simp only [putsF, List.foldl_cons, List.foldl_nil, Act.put, List.setIfInBounds_toArray, List.set_cons_zero, List.set_cons_succ] at hK ⊢
            simp only [e8] at hK ⊢
            go_wp2_with fail
            exact hK.out _ _ ⟨hI.bl, hI.v0, hI.v1, hI.v2, hI.v3, hI.v4, hI.v5, hI.v6, hI.v7, hI.v8, fun _ => rfl⟩
          case finz =>
          intro xs done y hI hd
          have hby := hI.bl
          have e9 := hI.v9 (hd 9 (by decide))
          simp only [putsF, List.foldl_cons, List.foldl_nil, Act.put, List.setIfInBounds_toArray, List.set_cons_zero, List.set_cons_succ]
          simp only [e9]
          have HBY := Lib.hid (HBr.out.trans (hby.mono HBr.out.size))
          have HBLY := Lib.hid (HBL.out.trans (hby.mono HBL.out.size))
          clear hI hby hd e9
          cases cb with
          | false =>
            have HV := Lib.hid (HSt.out (by simp))
            go_wp2_with fail
            refine bodyPost_ret (v := .tuple #[.int .i64 (n : Int), .int .i64 101]) (by simp [results, Try.results19, go_sem]) rfl ?_
            exact ⟨by injection HV.out with h1 h2; rw [h1, h2], HBY.out⟩
          | true =>
            go_wp2_with fail
            go_roundw
            case rel => exact ⟨n + 1, by omega, by go_num, HBLY.out, HGo.out (by simp)⟩
            case measure => simp [intOf]; omega
        · have en : n = l.length := by omega
          have n1 : ¬ (n : Int) < (l.length : Int) := by omega
          have HV := Lib.hid (HC4.out HB1.out HM.out (by rw [← en]; exact Hbad.out))
          clear hbel en hlt
          go_wp2_with fail
          refine bodyPost_ret (v := .tuple #[.int .i64 0, .int .i64 0]) (by simp [results, Try.results19, go_sem]) rfl ?_
          exact ⟨by injection HV.out with h1 h2; rw [h1, h2], HBr.out⟩
end Go.Proofs.Ytaocgkmobfocjaa
