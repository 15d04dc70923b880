/- Contracts of the specification's within, amount, bracketed, tax, Tax and Net. Conditions: brackets that read as data. -/
import Derived.Test.YtdechfjlbdbbnaaTkn
namespace Go.Proofs.Ytdechfjlbdbbnaa
open Go.RowKit Go.Shelf

theorem rwithin_any (x lo hi : Int) (w : World) : Calls Try.prog 48 #[.int .i64 x, .int .i64 lo, .int .i64 hi] w fun e w' => e = .returned (.bool (inB x lo hi)) ∧ w' = w := by
  have HV : Hid (inB x lo hi = (decide (lo ≤ x) && decide (x ≤ hi))) := rfl
  generalize inB x lo hi = v at HV ⊢
  by_cases h1 : lo ≤ x
  · have d1 : decide (x ≥ lo) = true := decide_eq_true h1
    go_enter Try.func48, Try.ntmps48
    go_wp2_with fail
    go_ret
    exact ⟨ret_boolT (by rw [HV.out]; simp [h1]), rfl⟩
  · have d1 : decide (x ≥ lo) = false := decide_eq_false h1
    go_enter Try.func48, Try.ntmps48
    go_wp2_with fail
    go_ret
    exact ⟨ret_boolT (by rw [HV.out]; simp; omega), rfl⟩
theorem ramount_any (x : Int) (w : World) : Calls Try.prog 41 #[.int .i64 x] w fun e w' => e = .returned (.bool (inB x 0 1000000000)) ∧ w' = w := by
  go_enter Try.func41, Try.ntmps41
  go_wp2_with (go_at_call 48; refine (rwithin_any _ _ _ _).mono ?_; rintro e w' ⟨rfl, rfl⟩)
  go_ret
  exact ⟨rfl, rfl⟩
set_option maxHeartbeats 4000000 in
set_option maxRecDepth 100000 in
theorem bracketed_any (l : List BrZ) (A : Option Addr) (ca B : Nat) (w : World) (hB : B ≤ w.heap.size) (hr : Reads w B 2 A l.length (brCells l)) (hm : l.length ≤ maxLen) :
    Calls Try.prog 63 #[.slice A l.length ca] w fun e w' => e = .returned (.bool (brB l)) ∧ Below w.heap.size w w' := by
  have HV : Hid (brB l = (inB l.length 1 8 && decide ((brAt l 0).frm = 0) && brAll l l.length)) := rfl
  unfold maxLen at hm
  have HW : Hid (∀ X, Calls Try.prog 48 #[.int .i64 (l.length : Int), .int .i64 1, .int .i64 8] X fun e w' => e = .returned (.bool (inB l.length 1 8)) ∧ w' = X) := fun X => rwithin_any _ _ _ X
  cases h1 : inB (l.length : Int) 1 8 with
  | false =>
    rw [h1] at HV HW
    clear hr
    go_enter Try.func63, Try.ntmps63
    go_wp2_with (go_at_call 48; refine (HW.out _).mono ?_; rintro e w' ⟨rfl, rfl⟩)
    go_ret
    exact ⟨ret_boolT (by rw [HV.out]; rfl), Below.refl _ _⟩
  | true =>
    rw [h1] at HV HW
    have h18 : 1 ≤ l.length ∧ l.length ≤ 8 := by unfold inB at h1; simp at h1; omega
    obtain ⟨b, o, rfl, hbB, HC0⟩ := br_at hr (by omega)
    have HC := Lib.hid HC0
    clear hr HC0 h1
    have hz0 := (HC.out 0 (by omega)).1
    rw [Nat.zero_mul, Nat.add_zero] at hz0
    have lb0 : b < w.heap.size := by omega
    obtain ⟨n, hn⟩ : ∃ n, n = l.length := ⟨_, rfl⟩
    rw [← hn] at HV HC h18 hm HW ⊢
    have Hn := Lib.hid hn
    have n0 : (0 : Int) < (n : Int) := by omega
    clear hn
    by_cases hz : (brAt l 0).frm = 0
    · rw [hz] at hz0
      have HZ := Lib.hid hz
      clear hz
      go_enter Try.func63, Try.ntmps63
      go_upto_region 3 with (go_at_call 48; refine (HW.out _).mono ?_; rintro e w' ⟨rfl, rfl⟩)
      go_wp2_with fail
      clear HW
      go_loopw [3] (fun i wr => ∃ k : Nat, k ≤ n ∧ i = .int .i64 k ∧ Below w'.heap.size w' wr ∧ brAll l k = true) (fun i _ => n - (intOf i).toNat)
      case atStart => exact ⟨0, Nat.zero_le _, rfl, Below.refl _ _, rfl⟩
      case round =>
        obtain ⟨k, hk, rfl, hbel, hall⟩ := hrel
        have Hall := Lib.hid hall
        have hs := hbel.size
        clear hall
        by_cases hlt : k < n
        · have HK := Lib.hid hlt
          have i0 : ¬ (k : Int) < 0 := by omega
          have i1 : (k : Int) < (n : Int) := by omega
          have lb : b < wr.heap.size := by omega
          have ew : IntKind.i64.wrap ((k : Int) + 1) = (k : Int) + 1 := IntWalk.i64_in _ (by omega)
          have c1 : wr.cell? ⟨b, o + k * 2, none⟩ = some (.int .i64 (brAt l k).frm) := by rw [hbel.cell (p := ⟨b, o + k * 2, none⟩) (show b < w'.heap.size by omega)]; exact (HC.out k hlt).1
          have c3 : wr.cell? ⟨b, o + k * 2 + 1, none⟩ = some (.int .i64 (brAt l k).pct) := by rw [hbel.cell (p := ⟨b, o + k * 2 + 1, none⟩) (show b < w'.heap.size by omega)]; exact (HC.out k hlt).2
          have HO : Hid (brOne l k = (inB (brAt l k).frm 0 1000000000 && inB (brAt l k).pct 0 100 && (decide (k = 0) || decide ((brAt l (k - 1)).frm < (brAt l k).frm)))) := rfl
          obtain ⟨f2, hf2⟩ : ∃ f2, f2 = (brAt l (k - 1)).frm := ⟨_, rfl⟩
          rw [← hf2] at HO
          have HF2 := Lib.hid hf2
          clear hf2
          generalize (brAt l k).frm = f at c1 HO
          generalize (brAt l k).pct = p at c3 HO
          have HY := Lib.hid hbel
          have HA : Hid (∀ X, Calls Try.prog 48 #[.int .i64 f, .int .i64 0, .int .i64 1000000000] X fun e w' => e = .returned (.bool (inB f 0 1000000000)) ∧ w' = X) := fun X => rwithin_any _ _ _ X
          have HP : Hid (∀ X, Calls Try.prog 48 #[.int .i64 p, .int .i64 0, .int .i64 100] X fun e w' => e = .returned (.bool (inB p 0 100)) ∧ w' = X) := fun X => rwithin_any _ _ _ X
          cases h1 : inB f 0 1000000000 with
          | false =>
            rw [h1] at HO HA
            clear h1 hbel
            go_upto_region 6 with fail
            go_quiet (first | (go_at_call 48; with_reducible refine Calls.quiet_of_same (HA.out _)))
            go_wp2_with fail
            go_ret
            exact ⟨ret_boolT (by rw [HV.out, brAll_out (k := k) (by rw [HO.out]; rfl) n HK.out]; simp), below_drewN HY.out _⟩
          | true =>
            rw [h1] at HO HA
            clear h1
            cases h2 : inB p 0 100 with
            | false =>
              rw [h2] at HO HP
              clear h2 hbel
              go_upto_region 6 with fail
              go_quiet (first | (go_at_call 48; with_reducible refine Calls.quiet_of_same (HA.out _)) | (go_at_call 48; with_reducible refine Calls.quiet_of_same (HP.out _)))
              go_wp2_with fail
              go_ret
              exact ⟨ret_boolT (by rw [HV.out, brAll_out (k := k) (by rw [HO.out]; rfl) n HK.out]; simp), below_drewN HY.out _⟩
            | true =>
              rw [h2] at HO HP
              clear h2
              by_cases hk0 : k = 0
              · have hk1 : decide (0 < k) = false := decide_eq_false (by omega)
                have hk2 : ¬ 0 < k := by omega
                have HK0 := Lib.hid hk0
                clear hk0 hbel
                go_upto_region 6 with fail
                go_quiet (first | (go_at_call 48; with_reducible refine Calls.quiet_of_same (HA.out _)) | (go_at_call 48; with_reducible refine Calls.quiet_of_same (HP.out _)))
                go_wp2_with fail
                go_roundw
                case rel => exact ⟨k + 1, by omega, by go_num, below_drewN HY.out _, by simp only [brAll, Bool.and_eq_true]; exact ⟨Hall.out, by rw [HO.out, HK0.out]; rfl⟩⟩
                case measure => simp [intOf]; omega
              · have hk1 : decide (0 < k) = true := decide_eq_true (by omega)
                have hk2 : 0 < k := by omega
                obtain ⟨j, hj⟩ : ∃ j, j + 1 = k := ⟨k - 1, by omega⟩
                have ek : k - 1 = j := by omega
                rw [ek] at HF2
                have ew2 : IntKind.i64.wrap ((k : Int) - 1) = (j : Int) := by rw [show (k : Int) - 1 = (j : Int) by omega]; exact IntWalk.i64_in _ (by omega)
                have j0 : ¬ (j : Int) < 0 := by omega
                have j1 : (j : Int) < (n : Int) := by omega
                have c2 : wr.cell? ⟨b, o + j * 2, none⟩ = some (.int .i64 f2) := by rw [hbel.cell (p := ⟨b, o + j * 2, none⟩) (show b < w'.heap.size by omega), HF2.out]; exact (HC.out j (by omega)).1
                have HK0 := Lib.hid hk0
                have HJ := Lib.hid hj
                clear hk0 hbel ek hj
                by_cases hff : f ≤ f2
                · have HFF := Lib.hid hff
                  have d5 : decide (f ≤ f2) = true := decide_eq_true hff
                  go_upto_region 6 with fail
                  go_quiet (first | (go_at_call 48; with_reducible refine Calls.quiet_of_same (HA.out _)) | (go_at_call 48; with_reducible refine Calls.quiet_of_same (HP.out _)))
                  go_wp2_with fail
                  go_ret
                  exact ⟨ret_boolT (by rw [HV.out, brAll_out (k := k) (by rw [HO.out]; have := HFF.out; have := HK0.out; simp; omega) n HK.out]; simp), below_drewN HY.out _⟩
                · have HFF := Lib.hid hff
                  have d5 : decide (f ≤ f2) = false := decide_eq_false hff
                  go_upto_region 6 with fail
                  go_quiet (first | (go_at_call 48; with_reducible refine Calls.quiet_of_same (HA.out _)) | (go_at_call 48; with_reducible refine Calls.quiet_of_same (HP.out _)))
                  go_wp2_with fail
                  go_roundw
                  case rel => exact ⟨k + 1, by omega, by go_num, below_drewN HY.out _, by simp only [brAll, Bool.and_eq_true]; exact ⟨Hall.out, by rw [HO.out]; have := HFF.out; simp; omega⟩⟩
                  case measure => simp [intOf]; omega
        · have e : k = n := by omega
          have HE := Lib.hid e
          clear e
          go_wp2_with fail
          go_ret
          exact ⟨ret_boolT (by rw [HV.out, ← HE.out, Hall.out, HZ.out]; rfl), hbel⟩
    · go_enter Try.func63, Try.ntmps63
      go_wp2_with (go_at_call 48; refine (HW.out _).mono ?_; rintro e w' ⟨rfl, rfl⟩)
      go_ret
      exact ⟨ret_boolT (by rw [HV.out]; simp [hz]), Below.refl _ _⟩
set_option maxHeartbeats 1000000 in
set_option maxRecDepth 100000 in
theorem rtax_any (l : List BrZ) (h : BrOk l) (A : Option Addr) (ca B : Nat) (c : Int) (h0 : 0 ≤ c) (h1 : c ≤ 1000000000) (w : World) (hB : B ≤ w.heap.size) (hr : Reads w B 2 A l.length (brCells l)) :
    Calls Try.prog 64 #[.int .i64 c, .slice A l.length ca] w fun e w' => e = .returned (.int .i64 (taxZ c l)) ∧ Below w.heap.size w w' := by
  have l8 := h.l8
  have l1 := h.l1
  obtain ⟨b, o, rfl, hbB, HC⟩ := br_at hr (by omega)
  obtain ⟨n, hn⟩ : ∃ n, n = l.length := ⟨_, rfl⟩
  have HB := Lib.hid (fun k hk => sumT_bd h h0 h1 k hk)
  have HPc := Lib.hid h.pct
  have HFr := Lib.hid h.frm
  have HT : Hid (taxZ c l = sumT c l n / 100) := by show _ = _; rw [hn]; rfl
  have Hc := Lib.hid h1
  rw [← hn] at HC l8 l1 HB HPc HFr ⊢
  have Hn := Lib.hid hn
  have HC := Lib.hid HC
  clear h hr hn h1
  go_enter Try.func64, Try.ntmps64
  go_wp2_with fail
  go_loopw [5, 6] (fun s i wr => ∃ k : Nat, k ≤ n ∧ i = .int .i64 k ∧ s = .int .i64 (sumT c l k) ∧ Below w.heap.size w wr) (fun _ i _ => n - (intOf i).toNat)
  case atStart => exact ⟨0, Nat.zero_le _, rfl, rfl, Below.refl _ _⟩
  case round =>
    obtain ⟨k, hk, rfl, rfl, hbel⟩ := hrel
    have hs := hbel.size
    by_cases hlt : k < n
    · have i0 : ¬ (k : Int) < 0 := by omega
      have i1 : (k : Int) < (n : Int) := by omega
      have lb : b < wr.heap.size := by omega
      have hk0 := (HC.out k hlt).1
      have hk1 := (HC.out k hlt).2
      have ew : IntKind.i64.wrap ((k : Int) + 1) = (k : Int) + 1 := IntWalk.i64_in _ (by omega)
      have c0 : wr.cell? ⟨b, o + k * 2, none⟩ = some (.int .i64 (brAt l k).frm) := by rw [hbel.cell (p := ⟨b, o + k * 2, none⟩) (show b < w.heap.size by omega)]; exact hk0
      have c1 : wr.cell? ⟨b, o + k * 2 + 1, none⟩ = some (.int .i64 (brAt l k).pct) := by rw [hbel.cell (p := ⟨b, o + k * 2 + 1, none⟩) (show b < w.heap.size by omega)]; exact hk1
      have Hbd := Lib.hid (HB.out k (by omega))
      have Hst : Hid (sumT c l (k + 1) = sumT c l k + clipT c l k * (brAt l k).pct) := rfl
      have Hbe := Lib.hid hbel
      have hp := HPc.out k hlt
      have hf := HFr.out k hlt
      have Hcl : Hid (clipT c l k = max 0 ((if k + 1 < n then min c (brAt l (k + 1)).frm else c) - (brAt l k).frm)) := by show _ = _; rw [Hn.out]; rfl
      generalize sumT c l k = S at Hbd Hst ⊢
      obtain ⟨S2, hS2⟩ : ∃ S2, S2 = sumT c l (k + 1) := ⟨_, rfl⟩
      have HS2 := Lib.hid hS2.symm
      rw [← hS2] at Hst
      clear hS2
      generalize (brAt l k).frm = f at c0 Hcl hf
      generalize (brAt l k).pct = p at c1 Hst hp
      have Hp := Lib.hid hp
      have Hf := Lib.hid hf
      clear hk0 hk1 hbel hp hf
      have key : Hid (∀ x : Int, x = clipT c l k → IntKind.i64.wrap (S + IntKind.i64.wrap (x * p)) = S2) := by
        intro x hx
        have hc0 : 0 ≤ x ∧ x ≤ 1000000000 := by rw [hx, Hcl.out]; have := Hf.out; have := Hc.out; split <;> omega
        have a : 0 ≤ x * p := Int.mul_nonneg hc0.1 Hp.out.1
        have b : x * p ≤ 1000000000 * 100 := Int.mul_le_mul hc0.2 Hp.out.2 Hp.out.1 (by decide)
        have hb := Hbd.out
        rw [show IntKind.i64.wrap (x * p) = x * p from IntWalk.i64_in _ (by omega), Hst.out, ← hx]
        exact IntWalk.i64_in _ (by omega)
      by_cases hk2 : k + 1 < n
      · have d2 : decide ((k : Int) + 1 < (n : Int)) = true := decide_eq_true (by omega)
        have j0 : ¬ (k : Int) + 1 < 0 := by omega
        have j1 : (k : Int) + 1 < (n : Int) := by omega
        have jn : ((k : Int) + 1).toNat = k + 1 := by omega
        have c2 : ∀ X, Below w.heap.size w X → X.cell? ⟨b, o + (k + 1) * 2, none⟩ = some (.int .i64 (brAt l (k + 1)).frm) := fun X hX => by rw [hX.cell (p := ⟨b, o + (k + 1) * 2, none⟩) (show b < w.heap.size by omega)]; exact (HC.out (k + 1) hk2).1
        have HC2 := Lib.hid c2
        rw [if_pos hk2] at Hcl
        clear c2
        have Hf2 := Lib.hid (HFr.out (k + 1) hk2)
        generalize (brAt l (k + 1)).frm = f2 at Hcl HC2 Hf2
        have y2 := HC2.out wr Hbe.out
        clear HC2
        go_upto_region 8 with fail
        go_quiet (fail)
        go_wp2_with fail
        refine ⟨⟨k + 1, by omega, by go_num, ?_, below_drewN Hbe.out _⟩, by simp [intOf]; omega⟩
        rw [HS2.out, ← key.out _ rfl, IntWalk.i64_left, IntWalk.i64_left, Hcl.out]
        have := Hf.out
        have := Hf2.out
        have := Hc.out
        rw [IntWalk.wrap64_in (min c f2 - f) (by omega)]
      · have d2 : decide ((k : Int) + 1 < (n : Int)) = false := decide_eq_false (by omega)
        rw [if_neg hk2] at Hcl
        have hk3 : ¬ (k : Int) + 1 < (n : Int) := by omega
        go_upto_region 8 with fail
        go_quiet (fail)
        go_wp2_with fail
        refine ⟨⟨k + 1, by omega, by go_num, ?_, below_drewN Hbe.out _⟩, by simp [intOf]; omega⟩
        rw [HS2.out, ← key.out _ rfl, IntWalk.i64_left, IntWalk.i64_left, Hcl.out]
        have := Hf.out
        have := Hc.out
        rw [IntWalk.wrap64_in (c - f) (by omega)]
    · have e : k = n := by omega
      subst e
      go_wp2_with fail
      go_ret
      have hb := HB.out k (Nat.le_refl _)
      refine ⟨ret_intT ?_, hbel⟩
      rw [HT.out, Int.tdiv_eq_ediv_of_nonneg hb.1]
      exact IntWalk.wrap64_in _ (by omega)
set_option maxHeartbeats 1000000 in
set_option maxRecDepth 100000 in
theorem rTax_any (l : List BrZ) (A : Option Addr) (ca B : Nat) (c : Int) (w : World) (hB : B ≤ w.heap.size) (hr : Reads w B 2 A l.length (brCells l)) (hm : l.length ≤ maxLen) :
    Calls Try.prog 32 #[.int .i64 c, .slice A l.length ca] w fun e w' => e = .returned (.tuple #[.int .i64 (taxR c l).1, .int .i64 (taxR c l).2]) ∧ Below w.heap.size w w' := by
  have HA : Hid (∀ X, Calls Try.prog 41 #[.int .i64 c] X fun e w' => e = .returned (.bool (inB c 0 1000000000)) ∧ X = w') := fun X => (ramount_any _ X).mono fun e w' h => ⟨h.1, h.2.symm⟩
  have HBr := Lib.hid (bracketed_any l A ca B w hB hr hm)
  have H2 : Hid (BrOk l → 0 ≤ c → c ≤ 1000000000 → ∀ X, Below w.heap.size w X → Calls Try.prog 64 #[.int .i64 c, .slice A l.length ca] X fun e w' => e = .returned (.int .i64 (taxZ c l)) ∧ Below X.heap.size X w') := fun h h0 h1 X hX => rtax_any l h A ca B c h0 h1 X (Nat.le_trans hB hX.size) (hr.below (hX.mono hB))
  have HV : Hid (taxR c l = if inB c 0 1000000000 = false then (0, 1) else if brB l = false then (0, 110) else (taxZ c l, 0)) := rfl
  clear hr hm
  cases h1 : inB c 0 1000000000 with
  | false =>
    rw [h1] at HA HV
    rw [show taxR c l = (0, 1) from HV.out]
    go_enter Try.func32, Try.ntmps32
    go_wp2_with (go_at_call 41; refine (HA.out _).mono ?_; rintro e w' ⟨rfl, rfl⟩)
    go_ret2
    exact ⟨rfl, Below.refl _ _⟩
  | true =>
    have hc := inB_le h1
    rw [h1] at HA HV
    cases h2 : brB l with
    | false =>
      rw [h2] at HBr HV
      rw [show taxR c l = (0, 110) from HV.out]
      go_enter Try.func32, Try.ntmps32
      go_wp2_with (first | (go_at_call 41; refine (HA.out _).mono ?_; rintro e w' ⟨rfl, rfl⟩) | (go_at_call 63; refine HBr.out.mono ?_; rintro e X ⟨rfl, hX⟩; have HX := Lib.hid hX; clear hX HBr))
      go_ret2
      exact ⟨rfl, HX.out⟩
    | true =>
      have H3 := Lib.hid (H2.out (brB_ok h2) hc.1 hc.2)
      rw [h2] at HBr HV
      rw [show taxR c l = (taxZ c l, 0) from HV.out]
      clear H2 h1 h2 hc HV
      go_enter Try.func32, Try.ntmps32
      go_wp2_with (first | (go_at_call 41; refine (HA.out _).mono ?_; rintro e w' ⟨rfl, rfl⟩) | (go_at_call 63; refine HBr.out.mono ?_; rintro e X ⟨rfl, hX⟩; have HX := Lib.hid hX; clear hX HBr) | (go_at_call 64; refine (H3.out _ HX.out).mono ?_; rintro e Y ⟨rfl, hY⟩; have HY := Lib.hid (HX.out.trans (hY.mono HX.out.size)); clear hY H3))
      go_ret2
      exact ⟨rfl, HY.out⟩
set_option maxHeartbeats 1000000 in
set_option maxRecDepth 100000 in
theorem rNet_any (l : List BrZ) (A : Option Addr) (ca B : Nat) (c : Int) (w : World) (hB : B ≤ w.heap.size) (hr : Reads w B 2 A l.length (brCells l)) (hm : l.length ≤ maxLen) :
    Calls Try.prog 34 #[.int .i64 c, .slice A l.length ca] w fun e w' => ∃ n e', e = .returned (.tuple #[.int .i64 n, .int .i64 e']) ∧ NetR c l n e' ∧ Below w.heap.size w w' := by
  have HA : Hid (∀ X, Calls Try.prog 41 #[.int .i64 c] X fun e w' => e = .returned (.bool (inB c 0 1000000000)) ∧ X = w') := fun X => (ramount_any _ X).mono fun e w' h => ⟨h.1, h.2.symm⟩
  have HBr := Lib.hid (bracketed_any l A ca B w hB hr hm)
  have H2 : Hid (BrOk l → ∀ x X, 0 ≤ x → x ≤ 1000000000 → Below w.heap.size w X → Calls Try.prog 64 #[.int .i64 x, .slice A l.length ca] X fun e w' => e = .returned (.int .i64 (taxZ x l)) ∧ Below w.heap.size w w') := fun h x X h0 h1 hX => (rtax_any l h A ca B x h0 h1 X (Nat.le_trans hB hX.size) (hr.below (hX.mono hB))).mono fun e w' h => ⟨h.1, hX.trans (h.2.mono hX.size)⟩
  clear hr hm
  by_cases h1 : inB c 0 1000000000 = false
  · have HR : Hid (NetR c l 0 1) := by show NetR _ _ _ _; unfold NetR; rw [if_pos h1]; exact ⟨rfl, rfl⟩
    rw [h1] at HA
    clear h1 H2
    go_enter Try.func34, Try.ntmps34
    go_wp2_with (go_at_call 41; refine (HA.out _).mono ?_; rintro e w' ⟨rfl, rfl⟩)
    go_ret2
    exact ⟨0, 1, rfl, HR.out, Below.refl _ _⟩
  have hi : inB c 0 1000000000 = true := by simpa using h1
  have hc := inB_le hi
  rw [hi] at HA
  by_cases h2 : brB l = false
  · have HR : Hid (NetR c l 0 110) := by show NetR _ _ _ _; unfold NetR; rw [if_neg h1, if_pos h2]; exact ⟨rfl, rfl⟩
    rw [h2] at HBr
    clear h1 h2 H2 hi
    go_enter Try.func34, Try.ntmps34
    go_wp2_with (first | (go_at_call 41; refine (HA.out _).mono ?_; rintro e w' ⟨rfl, rfl⟩) | (go_at_call 63; refine HBr.out.mono ?_; rintro e X ⟨rfl, hX⟩; have HX := Lib.hid hX; clear hX HBr))
    go_ret2
    exact ⟨0, 110, rfl, HR.out, HX.out⟩
  have hb : brB l = true := by simpa using h2
  have hok := brB_ok hb
  have HN : Hid (∀ n e', (∃ r, NetIs l c r ∧ ((1000000000 < r ∧ n = 0 ∧ e' = 3) ∨ (r ≤ 1000000000 ∧ n = r ∧ e' = 0))) → NetR c l n e') := fun n e' h => by unfold NetR; rw [if_neg h1, if_neg h2]; exact h
  have H3 := Lib.hid (H2.out hok)
  rw [hb] at HBr
  clear H2 h1 h2 hi hb
  obtain ⟨tt, htt⟩ : ∃ tt, tt = taxZ 1000000000 l := ⟨_, rfl⟩
  have hbt := tax_le hok (c := 1000000000) (by decide)
  rw [← htt] at hbt
  have Htt := Lib.hid htt
  have H4 : Hid (∀ X, Below w.heap.size w X → Calls Try.prog 64 #[.int .i64 1000000000, .slice A l.length ca] X fun e w' => e = .returned (.int .i64 tt) ∧ Below w.heap.size w w') := fun X hX => by rw [htt]; exact H3.out 1000000000 X (by decide) (by decide) hX
  have ew : IntKind.i64.wrap (1000000000 - tt) = 1000000000 - tt := IntWalk.i64_in _ (by omega)
  clear htt
  go_enter Try.func34, Try.ntmps34
  go_upto_region 5 with (first | (go_at_call 41; refine (HA.out _).mono ?_; rintro e w' ⟨rfl, rfl⟩) | (go_at_call 63; refine HBr.out.mono ?_; rintro e X ⟨rfl, hX⟩; have HX := Lib.hid hX; clear hX HBr))
  by_cases hlow : 1000000000 - tt < c
  · have HL := Lib.hid hlow
    go_wp2_with (go_at_call 64; refine (H4.out _ HX.out).mono ?_; rintro e Y ⟨rfl, hY⟩; have HY := Lib.hid hY; clear hY H4)
    go_ret2
    refine ⟨0, 3, rfl, HN.out _ _ ⟨1000000001, ⟨by decide, by decide, fun h => absurd h (by decide), fun _ => ?_⟩, .inl ⟨by decide, rfl, rfl⟩⟩, HY.out⟩
    have := HL.out
    rw [Htt.out] at this
    exact this
  · have HL := Lib.hid hlow
    go_wp2_with (go_at_call 64; refine (H4.out _ HX.out).mono ?_; rintro e Y ⟨rfl, hY⟩; have HY := Lib.hid hY; clear hY H4)
    go_loopw [6, 7] (fun vi vj wr => ∃ i j : Int, vi = .int .i64 i ∧ vj = .int .i64 j ∧ 0 ≤ i ∧ i ≤ j ∧ j ≤ 1000000000 ∧ c ≤ j - taxZ j l ∧ (0 < i → i - 1 - taxZ (i - 1) l < c) ∧ Below w.heap.size w wr) (fun vi vj _ => (intOf vj - intOf vi).toNat)
    case atStart => exact ⟨0, 1000000000, rfl, rfl, by decide, by decide, by decide, by have := HL.out; rw [Htt.out] at this; omega, fun h => absurd h (by decide), HY.out⟩
    case round =>
      obtain ⟨i, j, rfl, rfl, hi, hij, hj, hpj, hpi, hbel⟩ := hrel
      have HJ := Lib.hid hpj
      have HI := Lib.hid hpi
      have Hb := Lib.hid hbel
      clear hpj hpi hbel
      by_cases hlt : i < j
      · obtain ⟨m, hm⟩ : ∃ m : Int, m = (i + j) / 2 := ⟨_, rfl⟩
        have m1 : i ≤ m := by omega
        have m2 : m < j := by omega
        have hc3 := H3.out m wr (by omega) (by omega) Hb.out
        have hb3 := tax_le hok (c := m) (by omega)
        have HPM : Hid (∀ t, t = taxZ m l → (c ≤ m - t ↔ c ≤ m - taxZ m l)) := fun t h => by rw [h]
        obtain ⟨t, ht⟩ : ∃ t, t = taxZ m l := ⟨_, rfl⟩
        have HTm := Lib.hid ht
        rw [← ht] at hc3 hb3
        have HC := Lib.hid hc3
        have HM := Lib.hid hm
        have ew3 : IntKind.i64.wrap (m - t) = m - t := IntWalk.i64_in _ (by omega)
        clear hc3 hm ht HPM
        go_upto_region 10 with fail
        rw [← HM.out]
        by_cases hp : c ≤ m - t
        · have HP := Lib.hid hp
          go_wp2_with (go_at_call 64; refine HC.out.mono ?_; rintro e Z ⟨rfl, hZ⟩; have HZ := Lib.hid hZ; clear hZ HC)
          go_roundw
          case rel => exact ⟨i, m, rfl, rfl, hi, m1, by omega, by have := HP.out; rw [HTm.out] at this; exact this, HI.out, HZ.out⟩
          case measure => simp [intOf]; omega
        · have HP := Lib.hid hp
          go_wp2_with (go_at_call 64; refine HC.out.mono ?_; rintro e Z ⟨rfl, hZ⟩; have HZ := Lib.hid hZ; clear hZ HC)
          go_roundw
          case rel => exact ⟨m + 1, j, by go_num, rfl, by omega, by omega, hj, HJ.out, fun _ => by rw [show m + 1 - 1 = m by omega]; have := HP.out; rw [HTm.out] at this; omega, HZ.out⟩
          case measure => simp [intOf]; omega
      · have e : i = j := by omega
        subst e
        go_wp2_with fail
        go_ret2
        exact ⟨i, 0, rfl, HN.out _ _ ⟨i, ⟨hi, by omega, fun _ => HJ.out, HI.out⟩, .inr ⟨hj, rfl, rfl⟩⟩, Hb.out⟩
end Go.Proofs.Ytdechfjlbdbbnaa
