/- Plain facts of layer 3 (force): all feet but the two of a line, gone round in two ways. No program, no memory. -/
import Derived.Test.YtkmiapfkebdpbaaZc
namespace Go.Proofs.Ytkmiapfkebdpbaa
open Go.RowKit

theorem around (n i : Nat) (hi : i < n) (P : Nat → Prop) : (∀ j, 2 ≤ j → j < n → P ((i + j) % n)) ↔ ∀ k, k < n → k ≠ i → k ≠ (i + 1) % n → P k := by
  have m1 : (i + 1) % n = if i + 1 < n then i + 1 else 0 := by
    split
    · exact Nat.mod_eq_of_lt ‹_›
    · have : i + 1 = n := by omega
      rw [this, Nat.mod_self]
  constructor
  · intro h k hk h1 h2
    rw [m1] at h2
    rcases Nat.lt_or_ge k i with hlt | hge
    · have := h (k + n - i) (by split at h2 <;> omega) (by omega)
      rwa [show i + (k + n - i) = k + n from by omega, Nat.add_mod_right, Nat.mod_eq_of_lt hk] at this
    · have := h (k - i) (by split at h2 <;> omega) (by omega)
      rwa [show i + (k - i) = k from by omega, Nat.mod_eq_of_lt hk] at this
  · intro h j hj hn
    refine h _ (Nat.mod_lt _ (by omega)) ?_ ?_
    all_goals
      rcases Nat.lt_or_ge (i + j) n with hlt | hge
      · rw [Nat.mod_eq_of_lt hlt]
        first | omega | (rw [m1]; split <;> omega)
      · rw [show i + j = (i + j - n) + n from by omega, Nat.add_mod_right, Nat.mod_eq_of_lt (by omega)]
        first | omega | (rw [m1]; split <;> omega)
/-- Every foot is inside of every line that it is not on: as the program goes through them, and as the specification does. -/
def convexP (feet : List Pt) : Bool := (List.range feet.length).all fun i => (List.range' 2 (feet.length - 2)).all fun j => decide (0 < armZ feet i (ptAt feet ((i + j) % feet.length)))
def convexR (feet : List Pt) : Bool := (List.range feet.length).all fun i => (List.range feet.length).all fun k => decide (k = i) || decide (k = (i + 1) % feet.length) || decide (0 < armZ feet i (ptAt feet k))
theorem convex_eq (feet : List Pt) : convexP feet = convexR feet := by
  rw [Bool.eq_iff_iff]
  simp only [convexP, convexR, List.all_eq_true, List.mem_range, List.mem_range'_1, Bool.or_eq_true, decide_eq_true_eq]
  constructor
  · intro h i hi k hk
    by_cases h1 : k = i
    · exact .inl (.inl h1)
    by_cases h2 : k = (i + 1) % feet.length
    · exact .inl (.inr h2)
    exact .inr ((around feet.length i hi fun k => 0 < armZ feet i (ptAt feet k)).1 (fun j hj hn => h i hi j ⟨hj, by omega⟩) k hk h1 h2)
  · intro h i hi j hj
    refine (around feet.length i hi fun k => 0 < armZ feet i (ptAt feet k)).2 (fun k hk h1 h2 => ?_) j hj.1 (by omega)
    rcases h i hi k hk with (h3 | h3) | h3
    · exact absurd h3 h1
    · exact absurd h3 h2
    · exact h3
end Go.Proofs.Ytkmiapfkebdpbaa
