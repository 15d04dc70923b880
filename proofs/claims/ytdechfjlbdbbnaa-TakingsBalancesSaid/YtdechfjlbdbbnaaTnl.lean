/- The walk of TakingsBalances. Conditions: spendings that read as data. -/
import Derived.Test.YtdechfjlbdbbnaaTnk
import Derived.Test.YtdechfjlbdbbnaaTkn
namespace Go.Proofs.Ytdechfjlbdbbnaa
open Go.RowKit Go.Shelf

theorem balR_len (n : Int) (l : List SpZ) : (balR n l).1.length ≤ 1000 := by
  unfold balR
  by_cases h : chkS n l = 0
  · rw [if_pos h]
    obtain ⟨m, rfl, _, hm, _⟩ := chkS_ok h
    rw [spendN_len]; omega
  · rw [if_neg h]; simp
set_option maxHeartbeats 4000000 in
set_option maxRecDepth 100000 in
theorem balances_walk {w : World} (n : Int) (l : List SpZ) (rs : List (Option Addr × Nat)) (A : Option Addr) (ca : Nat) (hl : SpIn w w.heap.size A rs l) :
    Calls Try.prog 5 #[.int .i64 n, .slice A l.length ca] w (TrueT w) := by
  have HW : Hid (∀ X, Below w.heap.size w X → Calls Try.prog 20 #[] X fun e w' => e = .returned (.bool true) ∧ Below w.heap.size w w') := fun X hX => (works_any X).mono fun e w' h => ⟨h.1, hX.trans (h.2.mono hX.size)⟩
  have hle := balR_len n l
  have h1 := Balances_any n l A ca w.heap.size rs w (Nat.le_refl _) hl
  have h2 : ∀ X, Below w.heap.size w X → Calls Try.prog 24 #[.int .i64 n, .slice A l.length ca] X (TkTo X (balR n l).1 (balR n l).2) := fun X hX => rBalances_any n l A ca w.heap.size rs X hX.size (hl.below hX)
  generalize balR n l = R at hle h1 h2
  obtain ⟨L, e0⟩ := R
  dsimp only at hle h1 h2
  have H1 := Lib.hid h1
  have H2 := Lib.hid h2
  clear hl h1 h2
  go_enter Try.func5, Try.ntmps5
  go_upto_region 2 with (go_at_call 23; refine H1.out.mono ?_; rintro e X ⟨A3, c3, rfl, hr3, hX⟩)
  have HX := Lib.hid hX
  have HR3 := Lib.hid hr3
  clear hX hr3 H1
  go_upto_region 3 with (go_at_call 24; refine (H2.out X HX.out).mono ?_; rintro e Y ⟨A4, c4, rfl, hr4, hY⟩)
  have HY := Lib.hid (HX.out.trans (hY.mono HX.out.size))
  have HS1 := Lib.hid (tsame_eq L A3 A4 c3 c4 Y.heap.size Y.heap.size Y ((HR3.out.below hY).more hY.size) hr4 (Nat.le_refl _) (Nat.le_refl _) hle)
  clear hY hr4 H2 HR3
  go_wp2_with (first | (go_at_call 17; with_reducible refine HS1.out.mono ?_; rintro e Z ⟨rfl, hZ⟩; have HZ := Lib.hid (HY.out.trans (hZ.mono HY.out.size)); clear hZ HS1) | (go_at_call 20; refine (HW.out _ HZ.out).mono ?_; rintro e w' ⟨rfl, hb⟩; have BW := Lib.hid hb; clear hb))
  go_ret
  exact ⟨ret_boolT (by simp), BW.out⟩
end Go.Proofs.Ytdechfjlbdbbnaa
