/- The walk of InspectChecks. Conditions: a book and entries that read as data. -/
import Derived.Test.YtiajemflnmijfaaInz
namespace Go.Proofs.Ytiajemflnmijfaa
open Go.RowKit

set_option maxRecDepth 100000 in
set_option maxHeartbeats 2000000 in
theorem checks_walk {w : World} (k : BookZ) (R : BkR) (hk : BkIn w w.heap.size k R) (l : List EntZ) (A : Option Addr) (c : Nat) (hr : Reads w w.heap.size 5 A l.length (entCells l)) (hl : l.length ≤ maxLen) (hlc : l.length ≤ c) :
    Calls Try.prog 3 #[bookV k R, .slice A l.length c] w (TrueI w) := by
  obtain ⟨W, hW⟩ : ∃ W, W = w.alloc (.cells #[.slice R.A1 k.rules.length R.c1, .slice R.A2 k.ranks.length R.c2, .slice R.A3 k.insured.length R.c3] 25) := ⟨_, rfl⟩
  have bW : Below w.heap.size w W := by subst hW; exact (Below.refl _ _).alloc (Nat.le_refl _) _
  have r0 : Row W w.heap.size 25 [.slice R.A1 k.rules.length R.c1, .slice R.A2 k.ranks.length R.c2, .slice R.A3 k.insured.length R.c3] := by subst hW; exact Row.new w _ _
  obtain ⟨zb, hzb⟩ : ∃ z, z = w.heap.size := ⟨_, rfl⟩
  rw [← hzb] at r0
  have q0 : W.cell? ⟨zb, 0, none⟩ = some (.slice R.A1 k.rules.length R.c1) := r0.cell (j := 0) (by simp)
  have q1 : W.cell? ⟨zb, 1, none⟩ = some (.slice R.A2 k.ranks.length R.c2) := r0.cell (j := 1) (by simp)
  have q2 : W.cell? ⟨zb, 2, none⟩ = some (.slice R.A3 k.insured.length R.c3) := r0.cell (j := 2) (by simp)
  have lW := r0.lt
  have HBW := Lib.hid bW
  have HR0 := Lib.hid r0
  have HW : Hid (∀ X, Below w.heap.size w X → Calls Try.prog 17 #[] X fun e w' => e = .returned (.bool true) ∧ Below w.heap.size w w') := fun X hX => (works_any X).mono fun e w' h => ⟨h.1, hX.trans (h.2.mono hX.size)⟩
  have HL := Lib.hid (long_any A l.length c W)
  have H1 := Lib.hid (Check_any k R l A c w.heap.size W bW.size hl hlc (hr.below bW) (hk.below bW))
  have H2 : Hid (∀ X, Below w.heap.size w X → Calls Try.prog 19 #[bookV k R, .slice A l.length c] X fun e w' => e = .returned (.tuple #[.int .i64 (chkR k l).1, .int .i64 (chkR k l).2]) ∧ Below X.heap.size X w') := fun X hX => rCheck_any k R l A c w.heap.size X hX.size hl hlc (hr.below hX) (hk.below hX)
  generalize (chkR k l).1 = p1 at H1 H2
  generalize (chkR k l).2 = p2 at H1 H2
  generalize (decide (30 < l.length) && decide (l.length ≤ 100)) = lg at HL
  unfold bookV at *
  clear bW r0 hk hr
  go_enter Try.func3, Try.ntmps3
  go_upto_region 1 with fail
  rw [← hW, ← hzb]
  clear hW hzb
  cases lg with
  | true =>
    go_wp2_with (first | (go_at_call 16; refine HL.out.mono ?_; rintro e w' ⟨rfl, hw⟩; rw [hw]; clear hw) | (go_at_call 17; refine (HW.out _ HBW.out).mono ?_; rintro e w' ⟨rfl, hb⟩; have BW := Lib.hid hb; clear hb))
    go_ret
    exact ⟨rfl, BW.out⟩
  | false =>
    go_upto_region 3 with (go_at_call 16; refine HL.out.mono ?_; rintro e w' ⟨rfl, hw⟩; rw [hw]; clear hw)
    go_upto_region 4 with (go_at_call 18; refine H1.out.mono ?_; rintro e X ⟨rfl, hX⟩)
    have HX := Lib.hid (HBW.out.trans (hX.mono HBW.out.size))
    have s0 := HR0.out.below hX HR0.out.lt
    have c0 : X.cell? ⟨zb, 0, none⟩ = some (.slice R.A1 k.rules.length R.c1) := s0.cell (j := 0) (by simp)
    have c1 : X.cell? ⟨zb, 1, none⟩ = some (.slice R.A2 k.ranks.length R.c2) := s0.cell (j := 1) (by simp)
    have c2 : X.cell? ⟨zb, 2, none⟩ = some (.slice R.A3 k.insured.length R.c3) := s0.cell (j := 2) (by simp)
    have lX := s0.lt
    have H3 := Lib.hid (H2.out X HX.out)
    clear hX s0 H1 H2
    go_wp2_with (first | (go_at_call 19; refine H3.out.mono ?_; rintro e Y ⟨rfl, hY⟩; have HY := Lib.hid (HX.out.trans (hY.mono HX.out.size)); clear hY) | (go_at_call 17; refine (HW.out _ HY.out).mono ?_; rintro e w' ⟨rfl, hb⟩; have BW := Lib.hid hb; clear hb))
    go_ret
    exact ⟨ret_boolI (by simp), BW.out⟩
end Go.Proofs.Ytiajemflnmijfaa
