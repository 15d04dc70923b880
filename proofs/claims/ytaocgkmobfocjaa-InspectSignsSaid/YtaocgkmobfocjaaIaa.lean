/- Contracts of the specification's Upto, force, checkDay and checkRide. Conditions: a book and entries that read as data; a rule. -/
import Derived.Test.YtaocgkmobfocjaaIny
namespace Go.Proofs.Ytaocgkmobfocjaa
open Go.RowKit

theorem ret_slI {A : Option Addr} {n m c : Nat} (h : n = m) : Ending.returned (.slice A n c) = .returned (.slice A m c) := by rw [h]
set_option maxRecDepth 100000 in
set_option maxHeartbeats 1000000 in
theorem rUpto_any (l : List EntZ) (A : Option Addr) (c B : Nat) (day : Int) (w : World) (hB : B ≤ w.heap.size) (hl : l.length ≤ maxLen) (hlc : l.length ≤ c) (hr : Reads w B 5 A l.length (entCells l)) :
    Calls Try.prog 40 #[.slice A l.length c, .int .i64 day] w fun e w' => e = .returned (.slice A (upL l day).length c) ∧ w' = w := by
  have HEc := ent_cells hr
  have hul := upN_le l day
  have HUi : Hid (∀ n, n < upN l day → (l.getD n default).day ≤ day) := fun n h => upN_in l day h
  have HUo : Hid (upN l day < l.length → day < (l.getD (upN l day) default).day) := fun h => upN_out h
  have e0 : (upL l day).length = upN l day := by unfold upL; rw [List.length_take]; omega
  rw [e0]
  generalize upN l day = u at hul HUi HUo ⊢
  unfold maxLen at hl
  have hA0 : ∀ b o, A = some ⟨b, o, none⟩ → True := fun _ _ _ => trivial
  clear hr e0 hA0
  go_enter Try.func40, Try.ntmps40
  go_wp2_with fail
  go_loopw [5] (fun i wr => ∃ n : Nat, n ≤ u ∧ i = .int .i64 n ∧ wr = w) (fun i _ => l.length - (intOf i).toNat)
  case atStart => exact ⟨0, Nat.zero_le _, rfl, rfl⟩
  case round =>
    obtain ⟨n, hn, rfl, rfl⟩ := hrel
    by_cases hlt : n < l.length
    · have n1 : (n : Int) < (l.length : Int) := by omega
      have n0 : ¬ (n : Int) < 0 := by omega
      have d0 : decide ((n : Int) < (l.length : Int)) = true := decide_eq_true n1
      have en : IntKind.i64.wrap ((n : Int) + 1) = (n : Int) + 1 := IntWalk.i64_in _ (by omega)
      obtain ⟨b, o, hA, lb, x0, -, -, -, -⟩ := HEc.out n hlt _ (Below.refl _ _) hB
      have HX := Lib.hid (ent_getD hlt)
      generalize l[n] = x at x0 HX
      have nc : ¬ (c : Int) < (n : Int) := by omega
      have HB2 := Lib.hid hB
      subst hA
      by_cases hu : n < u
      · have HD : Hid (x.day ≤ day) := by show _ ≤ _; rw [← HX.out]; exact HUi.out n hu
        have dx : decide (x.day ≤ day) = true := decide_eq_true HD.out
        go_wp2_with fail
        go_roundw
        case rel => exact ⟨n + 1, by omega, by go_num, (by first | rfl | trivial)⟩
        case measure => simp [intOf]; omega
      · have HE : Hid (n = u) := by show _ = _; omega
        have HD : Hid (¬ x.day ≤ day) := by
          show ¬ _
          have h := HUo.out (by rw [← HE.out]; exact hlt)
          rw [← HE.out, HX.out] at h
          omega
        have dx : decide (x.day ≤ day) = false := decide_eq_false HD.out
        clear hu
        go_wp2_with fail
        go_ret
        exact ⟨ret_slI HE.out, rfl⟩
    · have n1 : ¬ (n : Int) < (l.length : Int) := by omega
      have HE : Hid (n = u) := by show _ = _; omega
      have d0 : decide ((n : Int) < (l.length : Int)) = false := decide_eq_false n1
      have nc : ¬ (c : Int) < (n : Int) := by omega
      rcases Nat.eq_zero_or_pos l.length with hz | hz
      · have hn0 : n = 0 := by omega
        subst hn0
        cases A with
        | none =>
          go_wp2_with fail
          go_ret
          exact ⟨ret_slI HE.out, rfl⟩
        | some a =>
          go_wp2_with fail
          go_ret
          exact ⟨ret_slI HE.out, rfl⟩
      · obtain ⟨b, o, hA, -, -, -, -, -, -⟩ := HEc.out (l.length - 1) (by omega) _ (Below.refl _ _) hB
        subst hA
        clear hlt hz
        go_wp2_with fail
        go_ret
        exact ⟨ret_slI HE.out, rfl⟩
theorem frcL_snoc (l : List EntZ) (rule ride : Int) {n : Nat} (h : n < l.length) : frcL (l.take (n + 1)) rule ride = frcF rule ride (frcL (l.take n) rule ride) l[n] := by
  unfold frcL
  rw [List.take_succ_eq_append_getElem h, List.foldl_append]; rfl
set_option maxRecDepth 100000 in
set_option maxHeartbeats 2000000 in
theorem rforce_any (k : BookZ) (R : BkR) (l : List EntZ) (A : Option Addr) (c B i : Nat) (day : Int) (w : World) (hB : B ≤ w.heap.size) (hl : l.length ≤ maxLen) (hr : Reads w B 5 A l.length (entCells l)) (hk : BkIn w B k R) (hi : i < k.rules.length) :
    Calls Try.prog 52 #[bookV k R, .slice A l.length c, .int .i64 (i : Int), .int .i64 day] w fun e w' => e = .returned (.bool (frcS l i k.rules[i] day)) ∧ Below w.heap.size w w' := by
  obtain ⟨W, hW⟩ : ∃ W, W = w.alloc (.cells #[.slice R.A1 k.rules.length R.c1, .slice R.A2 k.ranks.length R.c2, .slice R.A3 k.insured.length R.c3] 25) := ⟨_, rfl⟩
  have bW : Below w.heap.size w W := by subst hW; exact (Below.refl _ _).alloc (Nat.le_refl _) _
  have r0 : Row W w.heap.size 25 [.slice R.A1 k.rules.length R.c1, .slice R.A2 k.ranks.length R.c2, .slice R.A3 k.insured.length R.c3] := by subst hW; exact Row.new w _ _
  obtain ⟨zb, hzb⟩ : ∃ z, z = w.heap.size := ⟨_, rfl⟩
  rw [← hzb] at r0
  have lW := r0.lt
  have HBW := Lib.hid bW
  have HR0 := Lib.hid r0
  have hl1 := hk.l1
  unfold maxLen at hl hl1
  have HRd : Hid (∀ (X : World), Below w.heap.size w X → ∃ b o, R.A1 = some ⟨b, o, none⟩ ∧ b < X.heap.size ∧ X.cell? ⟨b, o + i * 4, none⟩ = some (.int .i64 k.rules[i].ride) ∧ X.cell? ⟨b, o + i * 4 + 1, none⟩ = some (.int .i64 k.rules[i].every)) := fun X hX => by
    obtain ⟨b, o, h1, h2, h3, h4, -, -⟩ := ru_at (hk.rules.below (hX.mono hB)) hi
    exact ⟨b, o, h1, by have := hX.size; omega, h3, h4⟩
  have HEc := ent_cells hr
  have HBB : Hid (B ≤ w.heap.size) := hB
  have i0 : ¬ (i : Int) < 0 := by omega
  have i1 : (i : Int) < (k.rules.length : Int) := by omega
  generalize k.rules[i] = u at HRd ⊢
  have HS : Hid (frcS l i u day = (decide (0 ≤ frcL l i u.ride) && decide (wrap64 (day - frcL l i u.ride) < u.every))) := rfl
  generalize frcS l i u day = v at HS ⊢
  unfold bookV at *
  clear bW r0 hk hr hB hi
  go_enter Try.func52, Try.ntmps52
  go_upto_region 1 with fail
  rw [← hW, ← hzb]
  clear hW hzb
  go_wp2_with fail
  go_loopw [9, 10] (fun t q wr => ∃ n : Nat, n ≤ l.length ∧ q = .int .i64 n ∧ t = .int .i64 (frcL (l.take n) i u.ride) ∧ Below W.heap.size W wr) (fun _ q _ => l.length - (intOf q).toNat)
  case atStart => exact ⟨0, Nat.zero_le _, rfl, rfl, Below.refl _ _⟩
  case round =>
    obtain ⟨n, hn, rfl, rfl, hbel⟩ := hrel
    have HBr := Lib.hid (HBW.out.trans (hbel.mono HBW.out.size))
    have HBL := Lib.hid hbel
    have s0 := HR0.out.below hbel HR0.out.lt
    have g0 : wr.cell? ⟨zb, 0, none⟩ = some (.slice R.A1 k.rules.length R.c1) := s0.cell (j := 0) (by simp)
    have lG := s0.lt
    obtain ⟨br, or, hR, lr, y0, y1⟩ := HRd.out wr HBr.out
    rw [hR] at g0
    clear hR s0 hbel
    by_cases hlt : n < l.length
    · have n1 : (n : Int) < (l.length : Int) := by omega
      have n0 : ¬ (n : Int) < 0 := by omega
      have en : IntKind.i64.wrap ((n : Int) + 1) = (n : Int) + 1 := IntWalk.i64_in _ (by omega)
      obtain ⟨b, o, hA, lb, x0, x1, x2, x3, x4⟩ := HEc.out n hlt wr (HBr.out.mono HBB.out) (Nat.le_trans HBB.out HBr.out.size)
      have HF := Lib.hid (frcL_snoc l (i : Int) u.ride hlt)
      generalize l[n] = x at x0 x1 x2 x3 x4 HF
      generalize frcL (l.take n) (i : Int) u.ride = t at HF ⊢
      subst hA
      by_cases h1 : x.kind = 1
      · have H1 : Hid (x.kind = 1) := h1
        rw [h1] at x1
        by_cases ha : x.a = (i : Int)
        · have HF2 : Hid (frcL (l.take (n + 1)) i u.ride = x.day) := by show _ = _; rw [HF.out]; unfold frcF; rw [if_neg (by rw [H1.out]; simp), if_pos ⟨H1.out, ha⟩]
          rw [ha] at x2
          clear h1 ha
          go_upto_region 7 with fail
          go_quiet (fail)
          go_wp2_with fail
          go_roundw
          case rel => exact ⟨n + 1, by omega, by go_num, by rw [HF2.out], below_drewN HBL.out _⟩
          case measure => simp [intOf]; omega
        · have HF2 : Hid (frcL (l.take (n + 1)) i u.ride = t) := by show _ = _; rw [HF.out]; unfold frcF; rw [if_neg (by rw [H1.out]; simp), if_neg (fun h => ha h.2)]
          have d1 : decide (x.a = (i : Int)) = false := decide_eq_false ha
          have d2 : (x.a == (i : Int)) = false := by simpa using ha
          clear h1
          go_upto_region 7 with fail
          go_quiet (fail)
          go_wp2_with fail
          go_roundw
          case rel => exact ⟨n + 1, by omega, by go_num, by rw [HF2.out], below_drewN HBL.out _⟩
          case measure => simp [intOf]; omega
      · by_cases h6 : x.kind = 6
        · have H6 : Hid (x.kind = 6) := h6
          rw [h6] at x1
          by_cases ha : x.a = u.ride
          · have HF2 : Hid (frcL (l.take (n + 1)) i u.ride = -1) := by show _ = _; rw [HF.out]; unfold frcF; rw [if_pos ⟨H6.out, ha⟩]
            rw [ha] at x2
            clear h1 h6 ha
            go_upto_region 7 with fail
            go_quiet (fail)
            go_wp2_with fail
            go_roundw
            case rel => exact ⟨n + 1, by omega, by go_num, by rw [HF2.out], below_drewN HBL.out _⟩
            case measure => simp [intOf]; omega
          · have HF2 : Hid (frcL (l.take (n + 1)) i u.ride = t) := by show _ = _; rw [HF.out]; unfold frcF; rw [if_neg (fun h => ha h.2), if_neg (by rw [H6.out]; simp)]
            have d1 : decide (x.a = u.ride) = false := decide_eq_false ha
            have d2 : (x.a == u.ride) = false := by simpa using ha
            clear h1 h6
            go_upto_region 7 with fail
            go_quiet (fail)
            go_wp2_with fail
            go_roundw
            case rel => exact ⟨n + 1, by omega, by go_num, by rw [HF2.out], below_drewN HBL.out _⟩
            case measure => simp [intOf]; omega
        · have HF2 : Hid (frcL (l.take (n + 1)) i u.ride = t) := by show _ = _; rw [HF.out]; unfold frcF; rw [if_neg (fun h => h6 h.1), if_neg (fun h => h1 h.1)]
          have d1 : decide (x.kind = 1) = false := decide_eq_false h1
          have d6 : decide (x.kind = 6) = false := decide_eq_false h6
          have e1 : (x.kind == 1) = false := by simpa using h1
          have e6 : (x.kind == 6) = false := by simpa using h6
          go_upto_region 7 with fail
          go_quiet (fail)
          go_wp2_with fail
          go_roundw
          case rel => exact ⟨n + 1, by omega, by go_num, by rw [HF2.out], below_drewN HBL.out _⟩
          case measure => simp [intOf]; omega
    · have en : n = l.length := by omega
      have n1 : ¬ (n : Int) < (l.length : Int) := by omega
      have et : l.take n = l := by rw [en, List.take_length]
      rw [et]
      generalize frcL l (i : Int) u.ride = t at HS ⊢
      clear en et hlt
      by_cases ht : 0 ≤ t
      · have HV : Hid (v = decide (wrap64 (day - t) < u.every)) := by show _ = _; rw [HS.out, decide_eq_true ht]; rfl
        have d1 : decide (0 ≤ t) = true := decide_eq_true ht
        go_wp2_with fail
        go_ret
        exact ⟨ret_boolI (Eq.trans (by first | rfl | (rw [Bool.eq_iff_iff]; simp)) HV.out.symm), HBr.out⟩
      · have HV : Hid (v = false) := by show _ = _; rw [HS.out, decide_eq_false ht]; rfl
        have d1 : decide (0 ≤ t) = false := decide_eq_false ht
        go_wp2_with fail
        go_ret
        exact ⟨ret_boolI HV.out.symm, HBr.out⟩
set_option maxRecDepth 100000 in
set_option maxHeartbeats 1000000 in
theorem rday_any (k : BookZ) (R : BkR) (l : List EntZ) (A : Option Addr) (c B : Nat) (day : Int) (w : World) (hB : B ≤ w.heap.size) (hl : l.length ≤ maxLen) (hlc : l.length ≤ c) (hr : Reads w B 5 A l.length (entCells l)) (hk : BkIn w B k R) :
    Calls Try.prog 51 #[bookV k R, .slice A l.length c, .int .i64 day] w fun e w' => e = .returned (.int .i64 (onE k l day)) ∧ Below w.heap.size w w' := by
  obtain ⟨W, hW⟩ : ∃ W, W = w.alloc (.cells #[.slice R.A1 k.rules.length R.c1, .slice R.A2 k.ranks.length R.c2, .slice R.A3 k.insured.length R.c3] 25) := ⟨_, rfl⟩
  have bW : Below w.heap.size w W := by subst hW; exact (Below.refl _ _).alloc (Nat.le_refl _) _
  have r0 : Row W w.heap.size 25 [.slice R.A1 k.rules.length R.c1, .slice R.A2 k.ranks.length R.c2, .slice R.A3 k.insured.length R.c3] := by subst hW; exact Row.new w _ _
  obtain ⟨zb, hzb⟩ : ∃ z, z = w.heap.size := ⟨_, rfl⟩
  rw [← hzb] at r0
  have q0 : W.cell? ⟨zb, 0, none⟩ = some (.slice R.A1 k.rules.length R.c1) := r0.cell (j := 0) (by simp)
  have q1 : W.cell? ⟨zb, 1, none⟩ = some (.slice R.A2 k.ranks.length R.c2) := r0.cell (j := 1) (by simp)
  have q2 : W.cell? ⟨zb, 2, none⟩ = some (.slice R.A3 k.insured.length R.c3) := r0.cell (j := 2) (by simp)
  have lW := r0.lt
  have HBW := Lib.hid bW
  have HCh := Lib.hid (rCheck_any k R l A c B W (Nat.le_trans hB bW.size) hl hlc (hr.below (bW.mono hB)) (hk.below (bW.mono hB)))
  have HWi : Hid (∀ X, Calls Try.prog 66 #[.int .i64 day, .int .i64 0, .int .i64 10000] X fun e w' => e = .returned (.bool (inB day 0 10000)) ∧ w' = X) := fun X => within_any _ _ _ X
  have HE : Hid (onE k l day = if (chkR k l).2 = 0 then if inB day 0 10000 = true then 0 else 1 else (chkR k l).2) := rfl
  generalize onE k l day = E at HE ⊢
  generalize (chkR k l).2 = er at HCh HE
  generalize (chkR k l).1 = at0 at HCh
  generalize inB day 0 10000 = bd at HWi HE
  unfold bookV at *
  clear bW r0 hk hr hB
  by_cases h0 : er = 0
  · subst h0
    rw [if_pos rfl] at HE
    cases bd with
    | false =>
      have HV : Hid (E = 1) := HE.out
      go_enter Try.func51, Try.ntmps51
      go_upto_region 1 with fail
      rw [← hW, ← hzb]
      clear hW hzb
      go_wp2_with (first | (go_at_call 19; refine HCh.out.mono ?_; rintro e X ⟨rfl, hX⟩; have HX := Lib.hid (HBW.out.trans (hX.mono HBW.out.size)); clear hX) | (go_at_call 66; with_reducible refine (HWi.out _).mono ?_; rintro e w' ⟨rfl, hw⟩; rw [hw]; clear hw))
      go_ret
      exact ⟨ret_intI HV.out.symm, HX.out⟩
    | true =>
      have HV : Hid (E = 0) := HE.out
      go_enter Try.func51, Try.ntmps51
      go_upto_region 1 with fail
      rw [← hW, ← hzb]
      clear hW hzb
      go_wp2_with (first | (go_at_call 19; refine HCh.out.mono ?_; rintro e X ⟨rfl, hX⟩; have HX := Lib.hid (HBW.out.trans (hX.mono HBW.out.size)); clear hX) | (go_at_call 66; with_reducible refine (HWi.out _).mono ?_; rintro e w' ⟨rfl, hw⟩; rw [hw]; clear hw))
      go_ret
      exact ⟨ret_intI HV.out.symm, HX.out⟩
  · rw [if_neg h0] at HE
    have HV : Hid (E = er) := HE.out
    go_enter Try.func51, Try.ntmps51
    go_upto_region 1 with fail
    rw [← hW, ← hzb]
    clear hW hzb
    go_wp2_with (go_at_call 19; refine HCh.out.mono ?_; rintro e X ⟨rfl, hX⟩; have HX := Lib.hid (HBW.out.trans (hX.mono HBW.out.size)); clear hX)
    go_ret
    exact ⟨ret_intI HV.out.symm, HX.out⟩
set_option maxRecDepth 100000 in
set_option maxHeartbeats 1000000 in
theorem rride_any (k : BookZ) (R : BkR) (l : List EntZ) (A : Option Addr) (c B : Nat) (ride day : Int) (w : World) (hB : B ≤ w.heap.size) (hl : l.length ≤ maxLen) (hlc : l.length ≤ c) (hr : Reads w B 5 A l.length (entCells l)) (hk : BkIn w B k R) :
    Calls Try.prog 59 #[bookV k R, .slice A l.length c, .int .i64 ride, .int .i64 day] w fun e w' => e = .returned (.int .i64 (rideE k l ride day)) ∧ Below w.heap.size w w' := by
  obtain ⟨W, hW⟩ : ∃ W, W = w.alloc (.cells #[.slice R.A1 k.rules.length R.c1, .slice R.A2 k.ranks.length R.c2, .slice R.A3 k.insured.length R.c3] 25) := ⟨_, rfl⟩
  have bW : Below w.heap.size w W := by subst hW; exact (Below.refl _ _).alloc (Nat.le_refl _) _
  have r0 : Row W w.heap.size 25 [.slice R.A1 k.rules.length R.c1, .slice R.A2 k.ranks.length R.c2, .slice R.A3 k.insured.length R.c3] := by subst hW; exact Row.new w _ _
  obtain ⟨zb, hzb⟩ : ∃ z, z = w.heap.size := ⟨_, rfl⟩
  rw [← hzb] at r0
  have q0 : W.cell? ⟨zb, 0, none⟩ = some (.slice R.A1 k.rules.length R.c1) := r0.cell (j := 0) (by simp)
  have q1 : W.cell? ⟨zb, 1, none⟩ = some (.slice R.A2 k.ranks.length R.c2) := r0.cell (j := 1) (by simp)
  have q2 : W.cell? ⟨zb, 2, none⟩ = some (.slice R.A3 k.insured.length R.c3) := r0.cell (j := 2) (by simp)
  have lW := r0.lt
  have HBW := Lib.hid bW
  have HR0 := Lib.hid r0
  have hl3 := hk.l3
  unfold maxLen at hl3
  have w3 : IntKind.i64.wrap ((k.insured.length : Int) - 1) = (k.insured.length : Int) - 1 := IntWalk.i64_in _ (by omega)
  have HCh := Lib.hid (rCheck_any k R l A c B W (Nat.le_trans hB bW.size) hl hlc (hr.below (bW.mono hB)) (hk.below (bW.mono hB)))
  have HWd : Hid (∀ X, Calls Try.prog 66 #[.int .i64 day, .int .i64 0, .int .i64 10000] X fun e w' => e = .returned (.bool (inB day 0 10000)) ∧ w' = X) := fun X => within_any _ _ _ X
  have HWr : Hid (∀ X, Calls Try.prog 66 #[.int .i64 ride, .int .i64 0, .int .i64 ((k.insured.length : Int) - 1)] X fun e w' => e = .returned (.bool (inB ride 0 ((k.insured.length : Int) - 1))) ∧ w' = X) := fun X => within_any _ _ _ X
  have HE : Hid (rideE k l ride day = if (chkR k l).2 = 0 then if inB ride 0 ((k.insured.length : Int) - 1) = true ∧ inB day 0 10000 = true then 0 else 1 else (chkR k l).2) := by
    show _ = _
    unfold rideE onE
    by_cases h0 : (chkR k l).2 = 0
    · cases h1 : inB day 0 10000 <;> cases h2 : inB ride 0 ((k.insured.length : Int) - 1) <;> simp [h0]
    · simp [h0]
  generalize rideE k l ride day = E at HE ⊢
  generalize (chkR k l).2 = er at HCh HE
  generalize (chkR k l).1 = at0 at HCh
  generalize inB day 0 10000 = bd at HWd HE
  generalize inB ride 0 ((k.insured.length : Int) - 1) = br at HWr HE
  unfold bookV at *
  clear bW r0 hk hr hB
  by_cases h0 : er = 0
  · subst h0
    rw [if_pos rfl] at HE
    cases br with
    | false =>
      have HV : Hid (E = 1) := HE.out.trans (by simp)
      go_enter Try.func59, Try.ntmps59
      go_upto_region 1 with fail
      rw [← hW, ← hzb]
      clear hW hzb
      go_wp2_with (first | (go_at_call 19; refine HCh.out.mono ?_; rintro e X ⟨rfl, hX⟩; have sB := HR0.out.below hX HR0.out.lt; have b2 : X.cell? ⟨zb, 2, none⟩ = some (.slice R.A3 k.insured.length R.c3) := sB.cell (j := 2) (by simp); have lB := sB.lt; have HX := Lib.hid (HBW.out.trans (hX.mono HBW.out.size)); clear hX sB) | (go_at_call 66; with_reducible refine (HWr.out _).mono ?_; rintro e w' ⟨rfl, hw⟩; rw [hw]; clear hw))
      go_ret
      exact ⟨ret_intI HV.out.symm, HX.out⟩
    | true =>
      cases bd with
      | false =>
        have HV : Hid (E = 1) := HE.out.trans (by simp)
        go_enter Try.func59, Try.ntmps59
        go_upto_region 1 with fail
        rw [← hW, ← hzb]
        clear hW hzb
        go_wp2_with (first | (go_at_call 19; refine HCh.out.mono ?_; rintro e X ⟨rfl, hX⟩; have sB := HR0.out.below hX HR0.out.lt; have b2 : X.cell? ⟨zb, 2, none⟩ = some (.slice R.A3 k.insured.length R.c3) := sB.cell (j := 2) (by simp); have lB := sB.lt; have HX := Lib.hid (HBW.out.trans (hX.mono HBW.out.size)); clear hX sB) | (go_at_call 66; with_reducible refine (HWr.out _).mono ?_; rintro e w' ⟨rfl, hw⟩; rw [hw]; clear hw) | (go_at_call 66; with_reducible refine (HWd.out _).mono ?_; rintro e w' ⟨rfl, hw⟩; rw [hw]; clear hw))
        go_ret
        exact ⟨ret_intI HV.out.symm, HX.out⟩
      | true =>
        have HV : Hid (E = 0) := HE.out.trans (by simp)
        go_enter Try.func59, Try.ntmps59
        go_upto_region 1 with fail
        rw [← hW, ← hzb]
        clear hW hzb
        go_wp2_with (first | (go_at_call 19; refine HCh.out.mono ?_; rintro e X ⟨rfl, hX⟩; have sB := HR0.out.below hX HR0.out.lt; have b2 : X.cell? ⟨zb, 2, none⟩ = some (.slice R.A3 k.insured.length R.c3) := sB.cell (j := 2) (by simp); have lB := sB.lt; have HX := Lib.hid (HBW.out.trans (hX.mono HBW.out.size)); clear hX sB) | (go_at_call 66; with_reducible refine (HWr.out _).mono ?_; rintro e w' ⟨rfl, hw⟩; rw [hw]; clear hw) | (go_at_call 66; with_reducible refine (HWd.out _).mono ?_; rintro e w' ⟨rfl, hw⟩; rw [hw]; clear hw))
        go_ret
        exact ⟨ret_intI HV.out.symm, HX.out⟩
  · rw [if_neg h0] at HE
    have HV : Hid (E = er) := HE.out
    go_enter Try.func59, Try.ntmps59
    go_upto_region 1 with fail
    rw [← hW, ← hzb]
    clear hW hzb
    go_wp2_with (go_at_call 19; refine HCh.out.mono ?_; rintro e X ⟨rfl, hX⟩; have HX := Lib.hid (HBW.out.trans (hX.mono HBW.out.size)); clear hX)
    go_ret
    exact ⟨ret_intI HV.out.symm, HX.out⟩
end Go.Proofs.Ytaocgkmobfocjaa
