/- Plain facts of layer 3 (force): the first of the least as the specification finds it; a seat alone. No program, no memory. -/
import Derived.Test.YtcfkcpgjnkdbkaaZb
namespace Go.Proofs.Ytcfkcpgjnkdbkaa
open Go.RowKit

/-- What the specification holds behind the first ones: the least, its phase (-1: none yet), its line. -/
def rst : List (Int × Nat × Nat) → Int × Int × Int
  | [] => (0, -1, 0)
  | y :: l => ((leastF l y).1, ((leastF l y).2.1 : Int), ((leastF l y).2.2 : Int))
theorem leastF_app (l : List (Int × Nat × Nat)) (x a : Int × Nat × Nat) : leastF (l ++ [x]) a = if x.1 < (leastF l a).1 then x else leastF l a := by
  unfold leastF
  rw [List.foldl_append]
  rfl
theorem rst_snoc (l : List (Int × Nat × Nat)) (x : Int × Nat × Nat) : rst (l ++ [x]) = if (rst l).2.1 < 0 ∨ x.1 < (rst l).1 then (x.1, (x.2.1 : Int), (x.2.2 : Int)) else rst l := by
  cases l with
  | nil => simp [rst, leastF]
  | cons y l =>
    have e : rst (y :: l ++ [x]) = ((leastF (l ++ [x]) y).1, ((leastF (l ++ [x]) y).2.1 : Int), ((leastF (l ++ [x]) y).2.2 : Int)) := rfl
    have h1 : (rst (y :: l)).1 = (leastF l y).1 := rfl
    have h2 : (rst (y :: l)).2.1 = ((leastF l y).2.1 : Int) := rfl
    rw [e, leastF_app]
    by_cases h : x.1 < (leastF l y).1
    · rw [if_pos h, if_pos (.inr (by rw [h1]; exact h))]
    · rw [if_neg h, if_neg (by rw [h1, h2]; omega)]
      rfl
theorem rst_neg (l : List (Int × Nat × Nat)) : (rst l).2.1 < 0 ↔ l = [] := by
  cases l with
  | nil => simp [rst]
  | cons y l => simp [rst]
theorem rst_eq (y : Int × Nat × Nat) (l : List (Int × Nat × Nat)) (a : Int × Nat × Nat) (h : y.1 < a.1) : rst (y :: l) = ((leastF (y :: l) a).1, ((leastF (y :: l) a).2.1 : Int), ((leastF (y :: l) a).2.2 : Int)) := by
  rw [leastF_start y l a h]
  rfl
/-- The moment with one full seat. -/
theorem mom_one (r : RigZ) (i ph line : Nat) : ∀ k, momK r (fun j => decide (j = i)) ph line k = momK r (fun _ => false) ph line k + (if i < k then (r.full - r.empty) * armZ r.feet line (seatAt r i ph) else 0) := by
  intro k
  induction k with
  | zero => simp [momK]
  | succ k ih =>
    simp only [momK, ih, Bool.false_eq_true, if_false]
    generalize momK r (fun _ => false) ph line k = M
    rcases Nat.lt_trichotomy i k with h | rfl | h
    · have e : (if decide (k = i) = true then r.full else r.empty) = r.empty := if_neg (by simp; omega)
      rw [e, if_pos h, if_pos (by omega)]
      omega
    · have e : (if decide (i = i) = true then r.full else r.empty) = r.full := if_pos (by simp)
      rw [e, if_neg (Nat.lt_irrefl i), if_pos (Nat.lt_succ_self i), Int.sub_mul]
      omega
    · have e : (if decide (k = i) = true then r.full else r.empty) = r.empty := if_neg (by simp; omega)
      rw [e, if_neg (by omega), if_neg (by omega)]
      omega
theorem one_less {r : RigZ} {i ph line : Nat} (h : r.empty ≤ r.full) (hi : i < r.seats.length) : momZ r (fun j => decide (j = i)) ph line < momZ r (fun _ => false) ph line ↔ (r.empty < r.full ∧ armZ r.feet line (seatAt r i ph) < 0) := by
  unfold momZ
  rw [mom_one, if_pos hi]
  generalize momK r (fun _ => false) ph line r.seats.length = M
  generalize armZ r.feet line (seatAt r i ph) = a
  constructor
  · intro h1
    have h2 : (r.full - r.empty) * a < 0 := by omega
    have h3 : r.empty < r.full := by
      rcases Int.lt_or_eq_of_le h with h3 | h3
      · exact h3
      · rw [h3, Int.sub_self, Int.zero_mul] at h2; omega
    refine ⟨h3, ?_⟩
    rcases Int.lt_or_le a 0 with h4 | h4
    · exact h4
    · have := Int.mul_nonneg (show 0 ≤ r.full - r.empty by omega) h4
      omega
  · rintro ⟨h1, h2⟩
    have := Int.mul_neg_of_pos_of_neg (show 0 < r.full - r.empty by omega) h2
    omega
/-- A loading that is full where one seat alone makes the moment less has the least moment. -/
theorem worst_same {r : RigZ} {ph line : Nat} (h : r.empty ≤ r.full) (ld : Nat → Bool) (hl : ∀ i, i < r.seats.length → ld i = decide (momZ r (fun j => decide (j = i)) ph line < momZ r (fun _ => false) ph line)) : momZ r ld ph line = momZ r (worstZ r ph line) ph line := by
  have hk : ∀ k, k ≤ r.seats.length → momK r ld ph line k = momK r (worstZ r ph line) ph line k := by
    intro k
    induction k with
    | zero => intro _; rfl
    | succ k ih =>
      intro hk
      simp only [momK]
      rw [ih (by omega)]
      congr 1
      rw [hl k (by omega)]
      unfold worstZ
      by_cases ha : armZ r.feet line (seatAt r k ph) < 0
      · by_cases he : r.empty < r.full
        · rw [if_pos (by simpa using (one_less h (show k < r.seats.length by omega)).2 ⟨he, ha⟩), if_pos (by simpa using ha)]
        · have : r.full = r.empty := by omega
          rw [this]
          simp
      · rw [if_neg (by
          simp only [decide_eq_true_eq]
          exact fun h1 => ha ((one_less h (show k < r.seats.length by omega)).1 h1).2), if_neg (by simpa using ha)]
  exact hk _ (Nat.le_refl _)
end Go.Proofs.Ytcfkcpgjnkdbkaa
