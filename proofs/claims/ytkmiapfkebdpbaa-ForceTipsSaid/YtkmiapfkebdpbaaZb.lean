/- Plain functions and facts of layer 3 (force): moments of rigs, and the least of them. No program, no memory. -/
import Derived.Test.YtkmiapfkebdpbaaZa
namespace Go.Proofs.Ytkmiapfkebdpbaa
open Go.RowKit

structure RigZ where
  seats : List (List Pt)
  feet : List Pt
  center : Pt
  frame : Int
  empty : Int
  full : Int
def turnZ (a b p : Pt) : Int := (b.x - a.x) * (p.y - a.y) - (b.y - a.y) * (p.x - a.x)
def armZ (feet : List Pt) (line : Nat) (p : Pt) : Int := turnZ (ptAt feet line) (ptAt feet ((line + 1) % feet.length)) p
def seatAt (r : RigZ) (i ph : Nat) : Pt := ptAt (r.seats[i]?.getD []) ph
/-- The moment with the first k seats. -/
def momK (r : RigZ) (ld : Nat → Bool) (ph line : Nat) : Nat → Int
  | 0 => r.frame * armZ r.feet line r.center
  | k + 1 => momK r ld ph line k + (if ld k then r.full else r.empty) * armZ r.feet line (seatAt r k ph)
def momZ (r : RigZ) (ld : Nat → Bool) (ph line : Nat) : Int := momK r ld ph line r.seats.length
/-- A seat is full where that makes the moment less. -/
def worstZ (r : RigZ) (ph line : Nat) (i : Nat) : Bool := decide (armZ r.feet line (seatAt r i ph) < 0)
theorem mom_worst {r : RigZ} (h : r.empty ≤ r.full) (ld : Nat → Bool) (ph line : Nat) : ∀ k, momK r (worstZ r ph line) ph line k ≤ momK r ld ph line k := by
  intro k
  induction k with
  | zero => exact Int.le_refl _
  | succ k ih =>
    simp only [momK]
    have step : (if worstZ r ph line k = true then r.full else r.empty) * armZ r.feet line (seatAt r k ph) ≤ (if ld k = true then r.full else r.empty) * armZ r.feet line (seatAt r k ph) := by
      unfold worstZ
      simp only [decide_eq_true_eq]
      generalize armZ r.feet line (seatAt r k ph) = a
      by_cases ha : a < 0
      · rw [if_pos ha]
        split
        · exact Int.le_refl _
        · exact Int.mul_le_mul_of_nonpos_right h (by omega)
      · rw [if_neg ha]
        split
        · exact Int.mul_le_mul_of_nonneg_right h (by omega)
        · exact Int.le_refl _
    have h2 : momK r (worstZ r ph line) ph line k ≤ momK r ld ph line k := ih
    omega
theorem mom_ext {r : RigZ} {ld ld' : Nat → Bool} (ph line : Nat) : ∀ k, (∀ i, i < k → ld i = ld' i) → momK r ld ph line k = momK r ld' ph line k := by
  intro k
  induction k with
  | zero => intro _; rfl
  | succ k ih =>
    intro h
    simp only [momK]
    rw [ih (fun i hi => h i (by omega)), h k (by omega)]
/-- The first of the least ones. -/
def leastF (l : List (Int × Nat × Nat)) (a : Int × Nat × Nat) : Int × Nat × Nat := l.foldl (fun m x => if x.1 < m.1 then x else m) a
theorem leastF_le (l : List (Int × Nat × Nat)) : ∀ a, (leastF l a).1 ≤ a.1 ∧ ∀ x ∈ l, (leastF l a).1 ≤ x.1 := by
  induction l with
  | nil => intro a; exact ⟨Int.le_refl _, fun x h => by cases h⟩
  | cons y l ih =>
    intro a
    obtain ⟨h1, h2⟩ := ih (if y.1 < a.1 then y else a)
    have hs : (if y.1 < a.1 then y else a).1 ≤ a.1 ∧ (if y.1 < a.1 then y else a).1 ≤ y.1 := by split <;> omega
    refine ⟨by simp only [leastF, List.foldl_cons] at h1 ⊢; omega, fun x hx => ?_⟩
    rcases List.mem_cons.1 hx with rfl | hx
    · simp only [leastF, List.foldl_cons] at h1 ⊢; omega
    · exact h2 x hx
theorem leastF_mem (l : List (Int × Nat × Nat)) : ∀ a, leastF l a = a ∨ leastF l a ∈ l := by
  induction l with
  | nil => intro a; exact .inl rfl
  | cons y l ih =>
    intro a
    rcases ih (if y.1 < a.1 then y else a) with h | h
    · by_cases hy : y.1 < a.1
      · rw [if_pos hy] at h
        refine .inr ?_
        simp only [leastF, List.foldl_cons] at h ⊢
        rw [if_pos hy, h]
        exact List.mem_cons_self
      · rw [if_neg hy] at h
        refine .inl ?_
        simp only [leastF, List.foldl_cons] at h ⊢
        rw [if_neg hy]
        exact h
    · exact .inr (List.mem_cons_of_mem _ h)
/-- Beginning with something greater, or with the first one, is the same. -/
theorem leastF_start (y : Int × Nat × Nat) (l : List (Int × Nat × Nat)) (a : Int × Nat × Nat) (h : y.1 < a.1) : leastF (y :: l) a = leastF l y := by
  simp only [leastF, List.foldl_cons]
  rw [if_pos h]
/-- The moments of all phases and lines, in order, each with its worst loading. -/
def allW (r : RigZ) (phases : Nat) : List (Int × Nat × Nat) := (List.range phases).flatMap fun p => (List.range r.feet.length).map fun k => (momZ r (worstZ r p k) p k, p, k)
theorem mem_allW (r : RigZ) (phases : Nat) (x : Int × Nat × Nat) : x ∈ allW r phases ↔ x.2.1 < phases ∧ x.2.2 < r.feet.length ∧ x.1 = momZ r (worstZ r x.2.1 x.2.2) x.2.1 x.2.2 := by
  obtain ⟨m, p, k⟩ := x
  simp only [allW, List.mem_flatMap, List.mem_map, List.mem_range, Prod.mk.injEq]
  constructor
  · rintro ⟨p', h1, k', h2, rfl, rfl, rfl⟩
    exact ⟨h1, h2, rfl⟩
  · rintro ⟨h1, h2, h3⟩
    exact ⟨p, h1, k, h2, h3.symm, rfl, rfl⟩
/-- No loading has a lesser moment than the least one, in any phase about any line. -/
theorem least_all {r : RigZ} (h : r.empty ≤ r.full) (phases : Nat) (a : Int × Nat × Nat) (ld : Nat → Bool) (p k : Nat) (hp : p < phases) (hk : k < r.feet.length) : (leastF (allW r phases) a).1 ≤ momZ r ld p k := by
  have h1 := (leastF_le (allW r phases) a).2 (momZ r (worstZ r p k) p k, p, k) ((mem_allW _ _ _).2 ⟨hp, hk, rfl⟩)
  have h2 := mom_worst h ld p k r.seats.length
  unfold momZ at *
  exact Int.le_trans h1 h2
end Go.Proofs.Ytkmiapfkebdpbaa
