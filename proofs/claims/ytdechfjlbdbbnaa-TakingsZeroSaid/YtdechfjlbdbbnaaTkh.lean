/- Contracts of takings' Tax and Net. Conditions: brackets that read as data. -/
import Derived.Test.YtdechfjlbdbbnaaTkf
namespace Go.Proofs.Ytdechfjlbdbbnaa
open Go.RowKit Go.Shelf

/-- The error of an amount and brackets. -/
def chkT (c : Int) (l : List BrZ) : Int := if inB c 0 1000000000 = false then 1 else if brB l = false then 110 else 0
set_option maxHeartbeats 1000000 in
set_option maxRecDepth 100000 in
theorem checkTaxed_any (l : List BrZ) (A : Option Addr) (ca B : Nat) (c : Int) (w : World) (hB : B ≤ w.heap.size) (hr : Reads w B 2 A l.length (brCells l)) (hm : l.length ≤ maxLen) :
    Calls Try.prog 61 #[.int .i64 c, .slice A l.length ca] w fun e w' => e = .returned (.int .i64 (chkT c l)) ∧ Below w.heap.size w w' := by
  obtain ⟨W, hW⟩ : ∃ W, W = w.alloc (.cells #[.int .i64 c] 3) := ⟨_, rfl⟩
  have bW : Below w.heap.size w W := by subst hW; exact (Below.refl _ _).alloc (Nat.le_refl _) _
  have H1 : Hid (∀ k, Calls Try.prog 38 #[.slice (some ⟨w.heap.size, 0, none⟩) 1 k] (w.alloc (.cells #[.int .i64 c] 3)) fun e w' => e = .returned (.bool (inB c 0 1000000000)) ∧ w' = W) := fun k => by
    rw [hW]
    exact (am_new w k c).mono fun e w' h => ⟨h.1, h.2.symm⟩
  have H2 := Lib.hid (validBrackets_any l A ca B W (Nat.le_trans hB bW.size) (hr.below (bW.mono hB)) hm)
  have HB := Lib.hid bW
  have HV : Hid (chkT c l = if inB c 0 1000000000 = false then 1 else if brB l = false then 110 else 0) := rfl
  clear hr hW bW hm
  generalize chkT c l = v at HV ⊢
  cases h1 : inB c 0 1000000000 with
  | false =>
    rw [h1] at H1 HV
    go_enter Try.func61, Try.ntmps61
    go_wp2_with (go_at_call 38; refine (H1.out _).mono ?_; rintro e w' ⟨rfl, rfl⟩)
    go_ret
    exact ⟨ret_intT HV.out.symm, HB.out⟩
  | true =>
    rw [h1] at H1 HV
    cases h2 : brB l with
    | false =>
      rw [h2] at H2 HV
      go_enter Try.func61, Try.ntmps61
      go_wp2_with (first | (go_at_call 38; refine (H1.out _).mono ?_; rintro e w' ⟨rfl, rfl⟩) | (go_at_call 78; refine H2.out.mono ?_; rintro e X ⟨rfl, hX⟩; have HX := Lib.hid (HB.out.trans (hX.mono HB.out.size)); clear hX H2))
      go_ret
      exact ⟨ret_intT HV.out.symm, HX.out⟩
    | true =>
      rw [h2] at H2 HV
      go_enter Try.func61, Try.ntmps61
      go_wp2_with (first | (go_at_call 38; refine (H1.out _).mono ?_; rintro e w' ⟨rfl, rfl⟩) | (go_at_call 78; refine H2.out.mono ?_; rintro e X ⟨rfl, hX⟩; have HX := Lib.hid (HB.out.trans (hX.mono HB.out.size)); clear hX H2))
      go_ret
      exact ⟨ret_intT HV.out.symm, HX.out⟩
theorem chkT_cases (c : Int) (l : List BrZ) : (chkT c l = 1 ∧ inB c 0 1000000000 = false) ∨ (chkT c l = 110 ∧ inB c 0 1000000000 = true ∧ brB l = false) ∨ (chkT c l = 0 ∧ inB c 0 1000000000 = true ∧ brB l = true) := by
  unfold chkT
  cases h1 : inB c 0 1000000000 <;> cases h2 : brB l <;> simp
theorem inB_le {x lo hi : Int} (h : inB x lo hi = true) : lo ≤ x ∧ x ≤ hi := by
  unfold inB at h
  simpa using h
set_option maxHeartbeats 1000000 in
set_option maxRecDepth 100000 in
theorem Tax_any (l : List BrZ) (A : Option Addr) (ca B : Nat) (c : Int) (w : World) (hB : B ≤ w.heap.size) (hr : Reads w B 2 A l.length (brCells l)) (hm : l.length ≤ maxLen) :
    Calls Try.prog 31 #[.int .i64 c, .slice A l.length ca] w fun e w' => e = .returned (.tuple #[.int .i64 (taxR c l).1, .int .i64 (taxR c l).2]) ∧ Below w.heap.size w w' := by
  have H1 := Lib.hid (checkTaxed_any l A ca B c w hB hr hm)
  have H2 : Hid (BrOk l → 0 ≤ c → c ≤ 1000000000 → ∀ X, Below w.heap.size w X → Calls Try.prog 62 #[.int .i64 c, .slice A l.length ca] X fun e w' => e = .returned (.int .i64 (taxZ c l)) ∧ Below X.heap.size X w') := fun h h0 h1 X hX => tax_any l h A ca B c h0 h1 X (Nat.le_trans hB hX.size) (hr.below (hX.mono hB))
  clear hr hm
  rcases chkT_cases c l with ⟨h1, h2⟩ | ⟨h1, h2, h3⟩ | ⟨h1, h2, h3⟩
  · rw [h1] at H1
    rw [show taxR c l = (0, 1) by unfold taxR; rw [if_pos h2]]
    go_enter Try.func31, Try.ntmps31
    go_wp2_with (go_at_call 61; refine H1.out.mono ?_; rintro e X ⟨rfl, hX⟩; have HX := Lib.hid hX; clear hX H1)
    go_ret2
    exact ⟨rfl, HX.out⟩
  · rw [h1] at H1
    rw [show taxR c l = (0, 110) by unfold taxR; rw [if_neg (by simp [h2]), if_pos h3]]
    go_enter Try.func31, Try.ntmps31
    go_wp2_with (go_at_call 61; refine H1.out.mono ?_; rintro e X ⟨rfl, hX⟩; have HX := Lib.hid hX; clear hX H1)
    go_ret2
    exact ⟨rfl, HX.out⟩
  · rw [h1] at H1
    rw [show taxR c l = (taxZ c l, 0) by unfold taxR; rw [if_neg (by simp [h2]), if_neg (by simp [h3])]]
    have hc := inB_le h2
    have H3 := Lib.hid (H2.out (brB_ok h3) hc.1 hc.2)
    clear H2 h2 h3 hc h1
    go_enter Try.func31, Try.ntmps31
    go_wp2_with (first | (go_at_call 61; refine H1.out.mono ?_; rintro e X ⟨rfl, hX⟩; have HX := Lib.hid hX; clear hX H1) | (go_at_call 62; refine (H3.out _ HX.out).mono ?_; rintro e Y ⟨rfl, hY⟩; have HY := Lib.hid (HX.out.trans (hY.mono HX.out.size)); clear hY H3))
    go_ret2
    exact ⟨rfl, HY.out⟩
set_option maxHeartbeats 1000000 in
set_option maxRecDepth 100000 in
theorem Net_any (l : List BrZ) (A : Option Addr) (ca B : Nat) (c : Int) (w : World) (hB : B ≤ w.heap.size) (hr : Reads w B 2 A l.length (brCells l)) (hm : l.length ≤ maxLen) :
    Calls Try.prog 33 #[.int .i64 c, .slice A l.length ca] w fun e w' => ∃ n e', e = .returned (.tuple #[.int .i64 n, .int .i64 e']) ∧ NetR c l n e' ∧ Below w.heap.size w w' := by
  have H1 := Lib.hid (checkTaxed_any l A ca B c w hB hr hm)
  have H2 : Hid (BrOk l → ∀ X, Below w.heap.size w X → Calls Try.prog 65 #[.int .i64 c, .slice A l.length ca] X fun e w' => ∃ n e', e = .returned (.tuple #[.int .i64 n, .int .i64 e']) ∧ (∃ r, NetIs l c r ∧ ((1000000000 < r ∧ n = 0 ∧ e' = 3) ∨ (r ≤ 1000000000 ∧ n = r ∧ e' = 0))) ∧ Below X.heap.size X w') := fun h X hX => net_any l h A ca B c X (Nat.le_trans hB hX.size) (hr.below (hX.mono hB))
  clear hr hm
  rcases chkT_cases c l with ⟨h1, h2⟩ | ⟨h1, h2, h3⟩ | ⟨h1, h2, h3⟩
  · rw [h1] at H1
    have HR : Hid (NetR c l 0 1) := by show NetR _ _ _ _; unfold NetR; rw [if_pos h2]; exact ⟨rfl, rfl⟩
    clear h1 h2
    go_enter Try.func33, Try.ntmps33
    go_wp2_with (go_at_call 61; refine H1.out.mono ?_; rintro e X ⟨rfl, hX⟩; have HX := Lib.hid hX; clear hX H1)
    go_ret2
    exact ⟨0, 1, rfl, HR.out, HX.out⟩
  · rw [h1] at H1
    have HR : Hid (NetR c l 0 110) := by show NetR _ _ _ _; unfold NetR; rw [if_neg (by simp [h2]), if_pos h3]; exact ⟨rfl, rfl⟩
    clear h1 h2 h3
    go_enter Try.func33, Try.ntmps33
    go_wp2_with (go_at_call 61; refine H1.out.mono ?_; rintro e X ⟨rfl, hX⟩; have HX := Lib.hid hX; clear hX H1)
    go_ret2
    exact ⟨0, 110, rfl, HR.out, HX.out⟩
  · rw [h1] at H1
    have H3 := Lib.hid (H2.out (brB_ok h3))
    have HN : Hid (∀ n e', (∃ r, NetIs l c r ∧ ((1000000000 < r ∧ n = 0 ∧ e' = 3) ∨ (r ≤ 1000000000 ∧ n = r ∧ e' = 0))) → NetR c l n e') := fun n e' h => by unfold NetR; rw [if_neg (by simp [h2]), if_neg (by simp [h3])]; exact h
    clear H2 h2 h3 h1
    go_enter Try.func33, Try.ntmps33
    go_upto_region 4 with (go_at_call 61; refine H1.out.mono ?_; rintro e X ⟨rfl, hX⟩)
    have HX := Lib.hid hX
    clear hX H1
    go_wp2_with (go_at_call 65; refine (H3.out _ HX.out).mono ?_; rintro e Y ⟨n, e', rfl, hn, hY⟩; have HY := Lib.hid (HX.out.trans (hY.mono HX.out.size)); have HNN := Lib.hid (HN.out _ _ hn); clear hY H3 hn)
    go_ret2
    exact ⟨_, _, rfl, HNN.out, HY.out⟩
end Go.Proofs.Ytdechfjlbdbbnaa
