/- Contracts of validFeet and validSeats. Conditions: the arguments read as points, and as lists of points. -/
import Derived.Test.YtkmiapfkebdpbaaKo
namespace Go.Proofs.Ytkmiapfkebdpbaa
open Go.RowKit

def feetB (l : List Pt) : Bool := inB l.length 3 8 && l.all spanB && groundB l && convexP l
set_option maxRecDepth 100000 in
set_option maxHeartbeats 2000000 in
theorem validFeet_any (l : List Pt) (A : Option Addr) (c B : Nat) (w : World) (hB : B ≤ w.heap.size) (hr : Reads w B 3 A l.length (ptCells l)) (hn : l.length ≤ maxLen) :
    Calls Try.prog 93 #[.slice A l.length c] w fun e w' => e = .returned (.bool (feetB l)) ∧ Below w.heap.size w w' := by
  have b0 : Below w.heap.size w (w.alloc (.cells #[.int .i64 (l.length : Int)] 3)) := (Below.refl _ _).alloc (Nat.le_refl _) _
  have hr0 := hr.alloc hB (.cells #[.int .i64 (l.length : Int)] 3)
  go_enter Try.func93, Try.ntmps93
  go_wp2_with fail
  refine (allWithin_new [(l.length : Int)] _ (by rfl) _ _ rfl (by simp) _ _ _ _ _ rfl).mono ?_
  rintro e w' ⟨rfl, rfl⟩
  go_wp2_with fail
  case isTrue =>
    have h1 : allB [(l.length : Int)] 3 8 = true := by assumption
    have h1' : inB l.length 3 8 = true := by simpa [allB] using h1
    have h1'' : 3 ≤ l.length ∧ l.length ≤ 8 := by simp [inB] at h1'; omega
    refine (allPoints_any l A _ c B _ (by simp; omega) hr0 hn).mono ?_
    rintro e w1 ⟨rfl, hb1⟩
    have b1 := b0.trans (hb1.mono b0.size)
    have hr1 := hr.below (b1.mono hB)
    have z1 : B ≤ w1.heap.size := Nat.le_trans hB b1.size
    go_wp2_with fail
    case isTrue =>
      have h2 : l.all spanB = true := List.all_eq_true.2 (by assumption)
      refine (onGround_any l A _ c B _ z1 hr1 hn).mono ?_
      rintro e w2 ⟨rfl, hb2⟩
      have b2 := b1.trans (hb2.mono b1.size)
      have hr2 := hr.below (b2.mono hB)
      have z2 : B ≤ w2.heap.size := Nat.le_trans hB b2.size
      go_wp2_with fail
      case isTrue =>
        have h3 : groundB l = true := by assumption
        refine (convex_any l A c B _ z2 hr2 h1''.1 h1''.2 h2).mono ?_
        rintro e w3 ⟨rfl, hb3⟩
        go_wp2_with fail
        all_goals
          go_ret
          exact ⟨ret_bool (by simp [feetB, *]), b2.trans (hb3.mono b2.size)⟩
      all_goals
        have h3 : ¬ groundB l = true := by assumption
        go_ret
        exact ⟨ret_bool (by simp [feetB, h3]), b2⟩
    all_goals
      have h2' : ¬ ∀ p, p ∈ l → spanB p = true := by assumption
      have h2 : l.all spanB = false := by
        cases h : l.all spanB with
        | false => rfl
        | true => exact absurd (List.all_eq_true.1 h) h2'
      go_ret
      exact ⟨ret_bool (by unfold feetB; rw [h2]; simp), b1⟩
  all_goals
    have h1 : ¬ allB [(l.length : Int)] 3 8 = true := by assumption
    have h1' : inB l.length 3 8 = false := by simpa [allB] using h1
    go_ret
    exact ⟨ret_bool (by simp [feetB, h1']), b0⟩
end Go.Proofs.Ytkmiapfkebdpbaa
