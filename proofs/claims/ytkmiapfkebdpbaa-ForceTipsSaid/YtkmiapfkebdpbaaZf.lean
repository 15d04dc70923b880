/- Plain functions and facts of layer 3 (force): the loading with the fewest full seats. No program, no memory. -/
import Derived.Test.YtkmiapfkebdpbaaZe
namespace Go.Proofs.Ytkmiapfkebdpbaa
open Go.RowKit

def omin : Option Int → Option Int → Option Int
  | some a, some b => some (min a b)
  | some a, none => some a
  | none, b => b
/-- The least sum of n of the numbers; none: there are not as many. -/
def minSel : List Int → Nat → Option Int
  | _, 0 => some 0
  | [], _ + 1 => none
  | x :: l, n + 1 => omin ((minSel l n).map (x + ·)) (minSel l (n + 1))
theorem minSel_zero (l : List Int) : minSel l 0 = some 0 := by cases l <;> rfl
theorem omin_comm (a b : Option Int) : omin a b = omin b a := by
  cases a <;> cases b <;> simp [omin]
  omega
theorem omin_assoc (a b c : Option Int) : omin (omin a b) c = omin a (omin b c) := by
  cases a <;> cases b <;> cases c <;> simp [omin]
  try omega
theorem omin_map (x : Int) (a b : Option Int) : (omin a b).map (x + ·) = omin (a.map (x + ·)) (b.map (x + ·)) := by
  cases a <;> cases b <;> simp [omin]
  try omega
theorem minSel_swap (x y : Int) (l : List Int) (n : Nat) : minSel (x :: y :: l) n = minSel (y :: x :: l) n := by
  cases n with
  | zero => rfl
  | succ n =>
    cases n with
    | zero =>
      simp only [minSel, minSel_zero, Option.map_some]
      rw [← omin_assoc, omin_comm (some (x + 0)), omin_assoc]
    | succ n =>
      simp only [minSel, omin_map, Option.map_map]
      have e : (fun z => x + z) ∘ (fun z => y + z) = (fun z => y + z) ∘ (fun z => x + z) := by funext z; simp only [Function.comp_apply]; omega
      rw [e, omin_assoc, omin_assoc, ← omin_assoc ((minSel l (n + 1)).map (x + ·)), omin_comm ((minSel l (n + 1)).map (x + ·)), omin_assoc]
theorem minSel_perm {l m : List Int} (h : l.Perm m) : ∀ n, minSel l n = minSel m n := by
  induction h with
  | nil => intro n; rfl
  | cons x _ ih =>
    intro n
    cases n with
    | zero => rfl
    | succ n => simp only [minSel, ih]
  | swap x y l => intro n; exact minSel_swap y x l n
  | trans _ _ ih1 ih2 => intro n; rw [ih1, ih2]
theorem minSel_many (l : List Int) : ∀ n, l.length < n → minSel l n = none := by
  induction l with
  | nil => intro n h; cases n with
    | zero => simp at h
    | succ n => rfl
  | cons x l ih =>
    intro n h
    cases n with
    | zero => simp at h
    | succ n =>
      simp only [List.length_cons] at h
      simp [minSel, ih n (by omega), ih (n + 1) (by omega), omin]
def sumZ (l : List Int) : Int := l.foldr (· + ·) 0
theorem sum_take (l : List Int) (n : Nat) (h : n < l.length) : sumZ (l.take (n + 1)) = sumZ (l.take n) + l[n] := by
  induction l generalizing n with
  | nil => simp at h
  | cons x l ih =>
    cases n with
    | zero => simp [sumZ]
    | succ n =>
      have := ih n (by simpa using h)
      simp only [List.take_succ_cons, sumZ, List.foldr_cons, List.getElem_cons_succ] at *
      omega
/-- Of sorted numbers the first n have the least sum. -/
theorem minSel_sorted (l : List Int) (hs : l.Pairwise (· ≤ ·)) : ∀ n, n ≤ l.length → minSel l n = some (sumZ (l.take n)) := by
  induction l with
  | nil => intro n h; simp at h; subst h; rfl
  | cons x l ih =>
    intro n h
    rw [List.pairwise_cons] at hs
    cases n with
    | zero => rfl
    | succ n =>
      simp only [List.length_cons] at h
      have h1 := ih hs.2 n (by omega)
      simp only [minSel, h1, Option.map_some, List.take_succ_cons, sumZ, List.foldr_cons]
      rcases Nat.lt_or_ge n l.length with hn | hn
      · have h2 := ih hs.2 (n + 1) (by omega)
        have h3 := sum_take l n hn
        have h4 := hs.1 l[n] (List.getElem_mem hn)
        rw [h2]
        simp only [omin, Option.some.injEq]
        simp only [sumZ] at h3 ⊢
        omega
      · rw [minSel_many l (n + 1) (by omega)]
        rfl
/-- As the specification looks for it: the first loading, full seats first, with so many full seats and a sum below 0. -/
def refSel : List Int → Int → Nat → Option (List Bool)
  | [], s, n => if n = 0 ∧ s < 0 then some [] else none
  | x :: l, s, n => if l.length + 1 < n then none else
    match (if n = 0 then none else refSel l (s + x) (n - 1)) with
    | some r => some (true :: r)
    | none => (refSel l s n).map (false :: ·)
def belowZ (s : Int) (o : Option Int) : Bool := match o with | some v => decide (s + v < 0) | none => false
theorem below_omin (s : Int) (a b : Option Int) : belowZ s (omin a b) = (belowZ s a || belowZ s b) := by
  cases a <;> cases b <;> simp [omin, belowZ]
  rw [Bool.eq_iff_iff]; simp; omega
theorem below_map (s x : Int) (a : Option Int) : belowZ s (a.map (x + ·)) = belowZ (s + x) a := by
  cases a <;> simp [belowZ]
  omega
theorem refSel_some (l : List Int) : ∀ s n, (refSel l s n).isSome = belowZ s (minSel l n) := by
  induction l with
  | nil =>
    intro s n
    cases n with
    | zero => by_cases h : s < 0 <;> simp [refSel, minSel, belowZ, h]
    | succ n => simp [refSel, minSel, belowZ]
  | cons x l ih =>
    intro s n
    simp only [refSel]
    by_cases hl : l.length + 1 < n
    · rw [if_pos hl, minSel_many _ _ (by simpa using hl)]; rfl
    rw [if_neg hl]
    cases n with
    | zero =>
      have h0 := ih s 0
      rw [minSel_zero] at h0 ⊢
      simp only [if_true, Option.isSome_map]
      exact h0
    | succ n =>
      simp only [Nat.succ_ne_zero, if_false, Nat.add_sub_cancel, minSel, below_omin, below_map, ← ih]
      cases refSel l (s + x) n <;> simp
/-- As the program builds it. -/
def progSel : List Int → Int → Nat → List Bool
  | [], _, _ => []
  | x :: l, s, n => if 0 < n ∧ belowZ (s + x) (minSel l (n - 1)) = true then true :: progSel l (s + x) (n - 1) else false :: progSel l s n
theorem sel_eq (l : List Int) : ∀ s n r, refSel l s n = some r → progSel l s n = r := by
  induction l with
  | nil =>
    intro s n r h
    simp only [refSel] at h
    split at h
    · injection h
    · cases h
  | cons x l ih =>
    intro s n r h
    simp only [refSel] at h
    by_cases hl : l.length + 1 < n
    · rw [if_pos hl] at h; cases h
    rw [if_neg hl] at h
    simp only [progSel]
    cases n with
    | zero =>
      simp only [if_true] at h
      rw [if_neg (by omega)]
      cases h2 : refSel l s 0 with
      | none => rw [h2] at h; cases h
      | some q =>
        rw [h2] at h
        simp only [Option.map_some, Option.some.injEq] at h
        rw [← h, ih s 0 q h2]
    | succ n =>
      simp only [Nat.succ_ne_zero, if_false, Nat.add_sub_cancel] at h
      have hs := refSel_some l (s + x) n
      cases h2 : refSel l (s + x) n with
      | none =>
        rw [h2] at h hs
        rw [if_neg (by simp only [Nat.add_sub_cancel, ← hs]; simp)]
        cases h3 : refSel l s (n + 1) with
        | none => rw [h3] at h; cases h
        | some q =>
          rw [h3] at h
          simp only [Option.map_some, Option.some.injEq] at h
          rw [← h, ih s (n + 1) q h3]
      | some q =>
        rw [h2] at h hs
        simp only [Option.some.injEq] at h
        rw [if_pos ⟨by omega, by simp only [Nat.add_sub_cancel, ← hs]; rfl⟩, ← h]
        simp only [Nat.add_sub_cancel]
        rw [ih (s + x) n q h2]
end Go.Proofs.Ytkmiapfkebdpbaa
