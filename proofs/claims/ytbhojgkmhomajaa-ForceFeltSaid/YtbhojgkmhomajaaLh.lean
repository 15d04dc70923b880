/- The walk of ForceFelt. Conditions: the path reads as points. -/
import Derived.Test.YtbhojgkmhomajaaLg
import Derived.Test.YtbhojgkmhomajaaLc
namespace Go.Proofs.Ytbhojgkmhomajaa
open Go.RowKit

set_option maxRecDepth 100000 in
set_option maxHeartbeats 4000000 in
theorem felt_walk (t : List Pt) (ph bf af : Int) (A : Option Addr) (c B : Nat) (w : World) (hB : B ≤ w.heap.size) (hr : Reads w B 3 A t.length (ptCells t)) (hn : t.length ≤ maxLen) :
    Calls Try.prog 3 #[.slice A t.length c, chgV ph bf af] w (TruePost w) := by
  obtain ⟨W, hW⟩ : ∃ W, W = w.alloc (.cells #[.int .i64 ph, .int .i64 bf, .int .i64 af] 24) := ⟨_, rfl⟩
  have bW : Below w.heap.size w W := by subst hW; exact (Below.refl _ _).alloc (Nat.le_refl _) _
  have rC : Row W w.heap.size 24 [.int .i64 ph, .int .i64 bf, .int .i64 af] := by subst hW; exact Row.new w _ _
  have hrW := hr.below (bW.mono hB)
  obtain ⟨_, q0, q1, q2⟩ := Row.at_3 rC
  have z0 := rC.lt
  unfold chgV
  go_enter Try.func3, Try.ntmps3
  by_cases h70 : 70 < t.length
  · have h70' : (70 : Int) < (t.length : Int) := by omega
    go_wp2_with fail
    rw [← hW]
    clear hW
    refine (works_any _).mono ?_
    rintro e w4 ⟨rfl, hb4⟩
    go_wp2_with fail
    go_ret
    exact ⟨rfl, bW.trans (hb4.mono bW.size)⟩
  have h70' : ¬ (70 : Int) < (t.length : Int) := by omega
  go_wp2_with fail
  rw [← hW]
  clear hW
  refine (own_any t A c B W (Nat.le_trans hB bW.size) hrW (by omega)).mono ?_
  rintro e w1 ⟨hb1, A1, c1, rfl, hr1⟩
  have b1 := bW.trans (hb1.mono bW.size)
  have r1 := rC.below hb1 rC.lt
  obtain ⟨_, q0, q1, q2⟩ := Row.at_3 r1
  have z1 := r1.lt
  have hf1 := Felt_any t ph bf af A1 c1 w1.heap.size w1 (Nat.le_refl _) hr1 hn
  unfold chgV at hf1
  go_wp2_with fail
  refine hf1.mono ?_
  rintro e w2 ⟨hb2, rfl⟩
  have b2 := b1.trans (hb2.mono b1.size)
  have r2 := r1.below hb2 r1.lt
  have hr2 := hr1.below hb2
  obtain ⟨p, hp⟩ : ∃ p, p = (feltS t ph bf af).1 := ⟨_, rfl⟩
  obtain ⟨E, hE⟩ : ∃ E, E = (feltS t ph bf af).2 := ⟨_, rfl⟩
  rw [← hp, ← hE]
  have Hp := Lib.hid hp
  have HE := Lib.hid hE
  clear hp hE
  unfold ptV
  obtain ⟨X, hX⟩ : ∃ X, X = w2.alloc (.cells #[.int .i64 p.x, .int .i64 p.y, .int .i64 p.z] 28) := ⟨_, rfl⟩
  have bX2 : Below w2.heap.size w2 X := by subst hX; exact (Below.refl _ _).alloc (Nat.le_refl _) _
  have bX := b2.trans (bX2.mono b2.size)
  have rX := r2.below bX2 r2.lt
  have pX : Row X w2.heap.size 28 [.int .i64 p.x, .int .i64 p.y, .int .i64 p.z] := by subst hX; exact Row.new w2 _ _
  have hrX := (hr2.more hb2.size).below bX2
  obtain ⟨_, q0, q1, q2⟩ := Row.at_3 r2
  have z2 := r2.lt
  go_wp2_with fail
  rw [← hX]
  clear hX
  have hf2 := rFelt_any t ph bf af A c B X (by have := bX.size; omega) (hr.below (bX.mono hB)) hn
  unfold chgV at hf2
  refine hf2.mono ?_
  rintro e w3 ⟨hb3, rfl⟩
  rw [← Hp.out, ← HE.out]
  have b3 := bX.trans (hb3.mono bX.size)
  have p3 := pX.below hb3 pX.lt
  have hr3 := (hrX.more bX2.size).below hb3
  unfold ptV
  obtain ⟨Y, hY⟩ : ∃ Y, Y = w3.alloc (.cells #[.int .i64 p.x, .int .i64 p.y, .int .i64 p.z] 28) := ⟨_, rfl⟩
  have bY3 : Below w3.heap.size w3 Y := by subst hY; exact (Below.refl _ _).alloc (Nat.le_refl _) _
  have bY := b3.trans (bY3.mono b3.size)
  have pY := p3.below bY3 p3.lt
  have qY : Row Y w3.heap.size 28 [.int .i64 p.x, .int .i64 p.y, .int .i64 p.z] := by subst hY; exact Row.new w3 _ _
  have hrY := (hr3.more hb3.size).below bY3
  obtain ⟨_, u0, u1, u2⟩ := Row.at_3 p3
  have z3 := p3.lt
  go_wp2_with fail
  rw [← hY]
  clear hY
  refine (samePoints_any t t A1 A _ _ c1 c _ _ Y hrY (hr.below (bY.mono hB)) hn hn).mono ?_
  rintro e w4 ⟨rfl, hk4⟩
  rw [show decide (t = t) = true from by simp]
  have hb4 := hk4.to_below (Nat.le_refl _) (by simp)
  have b4 := bY.trans (hb4.mono bY.size)
  go_wp2_with fail
  refine (works_any _).mono ?_
  rintro e w5 ⟨rfl, hb5⟩
  go_wp2_with fail
  go_ret
  exact ⟨rfl, b4.trans (hb5.mono b4.size)⟩
end Go.Proofs.Ytbhojgkmhomajaa
