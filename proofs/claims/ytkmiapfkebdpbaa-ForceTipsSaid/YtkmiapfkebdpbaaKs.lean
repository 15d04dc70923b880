/- Contract of validRig. Conditions: the rig reads as data. -/
import Derived.Test.YtkmiapfkebdpbaaKq
namespace Go.Proofs.Ytkmiapfkebdpbaa
open Go.RowKit

structure RigR where
  A1 : Option Addr
  c1 : Nat
  rs : List (Option Addr × Nat)
  A2 : Option Addr
  c2 : Nat
def rigCells (r : RigZ) (R : RigR) : List Value := [.slice R.A1 r.seats.length R.c1, .slice R.A2 r.feet.length R.c2, .int .i64 r.frame, .int .i64 r.center.x, .int .i64 r.center.y, .int .i64 r.center.z, .int .i64 r.empty, .int .i64 r.full]
def rigV (r : RigZ) (R : RigR) : Value := .agg #[.slice R.A1 r.seats.length R.c1, .slice R.A2 r.feet.length R.c2, .int .i64 r.frame, .int .i64 r.center.x, .int .i64 r.center.y, .int .i64 r.center.z, .int .i64 r.empty, .int .i64 r.full]
structure RigIn (w : World) (B : Nat) (r : RigZ) (R : RigR) : Prop where
  s : SeatsIn w B R.A1 R.rs r.seats
  f : Reads w B 3 R.A2 r.feet.length (ptCells r.feet)
  lf : r.feet.length ≤ maxLen
theorem RigIn.below {w w' : World} {B : Nat} {r : RigZ} {R : RigR} (h : RigIn w B r R) (hb : Below B w w') : RigIn w' B r R := ⟨h.s.below hb, h.f.below hb, h.lf⟩
def rigB (r : RigZ) : Bool := decide ((r.seats.length : Int) ≤ 20) && seatsB r.seats && feetB r.feet && spanB r.center && allB [r.frame, r.empty, r.full] 0 1000000 && decide (r.empty ≤ r.full)
theorem Row.at_8 {w : World} {g : Nat} {t : TypeId} {v0 v1 v2 v3 v4 v5 v6 v7 : Value} (h : Row w g t [v0, v1, v2, v3, v4, v5, v6, v7]) : (∀ o, w.frozen? ⟨g, o, none⟩ = false) ∧ w.cell? ⟨g, 0, none⟩ = some v0 ∧ w.cell? ⟨g, 1, none⟩ = some v1 ∧ w.cell? ⟨g, 2, none⟩ = some v2 ∧ w.cell? ⟨g, 3, none⟩ = some v3 ∧ w.cell? ⟨g, 4, none⟩ = some v4 ∧ w.cell? ⟨g, 5, none⟩ = some v5 ∧ w.cell? ⟨g, 6, none⟩ = some v6 ∧ w.cell? ⟨g, 7, none⟩ = some v7 :=
  ⟨fun o => h.frozen o, h.cell (j := 0) (by simp), h.cell (j := 1) (by simp), h.cell (j := 2) (by simp), h.cell (j := 3) (by simp), h.cell (j := 4) (by simp), h.cell (j := 5) (by simp), h.cell (j := 6) (by simp), h.cell (j := 7) (by simp)⟩
theorem allPoints_one (p : Pt) (n c g : Nat) (hn : n = 1) (w : World) (hg : w.heap.size = g) :
    Calls Try.prog 79 #[.slice (some ⟨g, 0, none⟩) n c] (w.alloc (.cells #[.int .i64 p.x, .int .i64 p.y, .int .i64 p.z] 28)) fun e w' => e = .returned (.bool (spanB p)) ∧ Below w.heap.size w w' := by
  subst hg hn
  have h := Row.new w 28 #[.int .i64 p.x, .int .i64 p.y, .int .i64 p.z]
  have hb : Below w.heap.size w (w.alloc (.cells #[.int .i64 p.x, .int .i64 p.y, .int .i64 p.z] 28)) := (Below.refl _ _).alloc (Nat.le_refl _) _
  refine (allPoints_any [p] (some ⟨w.heap.size, 0, none⟩) 1 c (w.heap.size + 1) _ (by simp) (h.reads (n := 1) (size := 3) (xs := ptCells [p]) rfl (Nat.lt_succ_self _)) (by decide)).mono ?_
  rintro e w' ⟨rfl, h2⟩
  exact ⟨ret_bool (by simp), hb.trans (h2.mono hb.size)⟩

set_option maxRecDepth 100000 in
set_option maxHeartbeats 4000000 in
theorem validRig_any (r : RigZ) (R : RigR) (B : Nat) (w : World) (hB : B ≤ w.heap.size) (hR : RigIn w B r R) :
    Calls Try.prog 84 #[rigV r R] w fun e w' => e = .returned (.bool (rigB r)) ∧ Below w.heap.size w w' := by
  obtain ⟨W, hW⟩ : ∃ W, W = w.alloc (.cells (rigCells r R).toArray 57) := ⟨_, rfl⟩
  have bW : Below w.heap.size w W := by subst hW; exact (Below.refl _ _).alloc (Nat.le_refl _) _
  have rW : Row W w.heap.size 57 (rigCells r R) := by subst hW; exact Row.new w _ (rigCells r R).toArray
  have hRW := hR.below (bW.mono hB)
  have zW : B ≤ W.heap.size := Nat.le_trans hB bW.size
  have hlen := hR.s.len
  unfold rigV
  unfold rigCells at rW hW
  obtain ⟨_, q0, q1, q2, q3, q4, q5, q6, q7⟩ := Row.at_8 rW
  go_enter Try.func84, Try.ntmps84
  by_cases hl : (r.seats.length : Int) ≤ 20
  case neg =>
    have hl' : decide ((r.seats.length : Int) ≤ 20) = false := by simpa using hl
    go_wp2_with fail
    go_ret
    exact ⟨ret_bool (by unfold rigB; rw [hl']; rfl), by rw [← hW]; exact bW⟩
  have hl' : decide ((r.seats.length : Int) ≤ 20) = true := by simpa using hl
  have HL := Lib.hid hl'
  clear hl'
  go_wp2_with fail
  rw [← hW]
  clear hW
  refine (validSeats_any r.seats R.rs R.A1 R.c1 B W zW hRW.s).mono ?_
  rintro e w1 ⟨rfl, hb1⟩
  have b1 := bW.trans (hb1.mono bW.size)
  have r1 := rW.below hb1 rW.lt
  obtain ⟨_, q0, q1, q2, q3, q4, q5, q6, q7⟩ := Row.at_8 r1
  cases h1 : seatsB r.seats with
  | false =>
    go_wp2_with fail
    go_ret
    exact ⟨ret_bool (by unfold rigB; rw [HL.out, h1]; rfl), b1⟩
  | true =>
    go_wp2_with fail
    refine (validFeet_any r.feet R.A2 R.c2 B w1 (Nat.le_trans hB b1.size) (hR.f.below (b1.mono hB)) hR.lf).mono ?_
    rintro e w2 ⟨rfl, hb2⟩
    have b2 := b1.trans (hb2.mono b1.size)
    have r2 := r1.below hb2 r1.lt
    obtain ⟨_, q0, q1, q2, q3, q4, q5, q6, q7⟩ := Row.at_8 r2
    have z2 : w.heap.size < w2.heap.size := r2.lt
    cases h2 : feetB r.feet with
    | false =>
      go_wp2_with fail
      go_ret
      exact ⟨ret_bool (by unfold rigB; rw [HL.out, h1, h2]; rfl), b2⟩
    | true =>
      go_wp2_with fail
      refine (allPoints_one r.center _ _ _ rfl _ rfl).mono ?_
      rintro e w3 ⟨rfl, hb3⟩
      have b3 := b2.trans (hb3.mono b2.size)
      have r3 := r2.below hb3 r2.lt
      obtain ⟨_, q0, q1, q2, q3, q4, q5, q6, q7⟩ := Row.at_8 r3
      have z3 : w.heap.size < w3.heap.size := r3.lt
      cases h3 : spanB r.center with
      | false =>
        go_wp2_with fail
        go_ret
        exact ⟨ret_bool (by unfold rigB; rw [HL.out, h1, h2, h3]; rfl), b3⟩
      | true =>
        go_wp2_with fail
        refine (allWithin_new [r.frame, r.empty, r.full] _ (by rfl) _ _ rfl (by simp) _ _ _ _ _ rfl).mono ?_
        rintro e w4 ⟨rfl, rfl⟩
        cases h4 : allB [r.frame, r.empty, r.full] 0 1000000 with
        | false =>
          go_wp2_with fail
          go_ret
          exact ⟨ret_bool (by unfold rigB; rw [HL.out, h1, h2, h3, h4]; rfl), b3.alloc b3.size _⟩
        | true =>
          by_cases h5 : r.empty ≤ r.full
          · go_wp2_with fail
            go_ret
            exact ⟨ret_bool (by unfold rigB; rw [HL.out, h1, h2, h3, h4, decide_eq_true h5]; rfl), b3.alloc b3.size _⟩
          · go_wp2_with fail
            go_ret
            exact ⟨ret_bool (by unfold rigB; rw [HL.out, h1, h2, h3, h4, decide_eq_false (Int.not_le.2 h5)]; rfl), b3.alloc b3.size _⟩
end Go.Proofs.Ytkmiapfkebdpbaa
