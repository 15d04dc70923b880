/- Plain facts: which entries may stand behind others; the reasons for which a ride is not released. No program. -/
import Derived.Test.YtaocgkmobfocjaaInj
namespace Go.Proofs.Ytaocgkmobfocjaa
open Go.RowKit
/-- The greatest list of numbers of which something is so. -/
def numsL (p : Nat → Bool) (n : Nat) : List Int := ((List.range n).filter p).map fun (i : Nat) => (i : Int)
theorem numsL_yes {p : Nat → Bool} {k : Nat} (h : p k = true) : numsL p (k + 1) = numsL p k ++ [(k : Int)] := by simp [numsL, List.range_succ, List.filter_append, h]
theorem numsL_no {p : Nat → Bool} {k : Nat} (h : p k = false) : numsL p (k + 1) = numsL p k := by simp [numsL, List.range_succ, List.filter_append, h]
theorem numsL_len (p : Nat → Bool) (k : Nat) : (numsL p k).length ≤ k := by
  have := List.length_filter_le p (List.range k)
  simp only [numsL, List.length_map]
  simpa using this
theorem numsL_congr {p q : Nat → Bool} : ∀ {n : Nat}, (∀ i, i < n → p i = q i) → numsL p n = numsL q n := by
  intro n
  induction n with
  | zero => intro _; rfl
  | succ n ih =>
    intro h
    have a := ih fun i hi => h i (by omega)
    have b := h n (by omega)
    cases hq : q n with
    | true => rw [numsL_yes hq, numsL_yes (b.trans hq), a]
    | false => rw [numsL_no hq, numsL_no (b.trans hq), a]
theorem numsL_mem {p : Nat → Bool} {n : Nat} {z : Int} : z ∈ numsL p n ↔ ∃ i, i < n ∧ p i = true ∧ z = (i : Int) := by
  simp only [numsL, List.mem_map, List.mem_filter, List.mem_range]
  constructor
  · rintro ⟨i, ⟨h1, h2⟩, rfl⟩; exact ⟨i, h1, h2, rfl⟩
  · rintro ⟨i, h1, h2, rfl⟩; exact ⟨i, ⟨h1, h2⟩, rfl⟩
theorem lastS_nil (p : EntZ → Bool) : lastS p [] = none := rfl
theorem lastS_snoc (p : EntZ → Bool) (l : List EntZ) (x : EntZ) : lastS p (l ++ [x]) = if p x = true then some x else lastS p l := by
  unfold lastS
  rw [List.reverse_append, List.reverse_singleton, List.singleton_append, List.find?_cons]
  cases p x <;> simp
theorem lastS_some {p : EntZ → Bool} {l : List EntZ} {x : EntZ} (h : lastS p l = some x) : x ∈ l ∧ p x = true := by
  unfold lastS at h
  exact ⟨by simpa using List.mem_of_find?_eq_some h, List.find?_some h⟩
theorem lastS_none {p : EntZ → Bool} {l : List EntZ} : lastS p l = none ↔ ∀ x ∈ l, p x = false := by
  unfold lastS
  rw [List.find?_eq_none]
  simp
/-- A list from its end. -/
theorem snoc_ind {α : Type} {C : List α → Prop} (h0 : C []) (h1 : ∀ l x, C l → C (l ++ [x])) : ∀ l, C l := by
  intro l
  have h : ∀ n, ∀ l : List α, l.length = n → C l := by
    intro n
    induction n with
    | zero => intro l hl; rw [List.eq_nil_of_length_eq_zero hl]; exact h0
    | succ n ih =>
      intro l hl
      have hne : l ≠ [] := fun e => by rw [e] at hl; simp at hl
      rw [← List.dropLast_concat_getLast hne]
      exact h1 _ _ (ih _ (by rw [List.length_dropLast]; omega))
  exact h _ l rfl
/-- The day of the last entry, or 0. -/
def lastDay (l : List EntZ) : Int := ((lastS (fun _ => true) l).getD default).day
theorem lastDay_nil : lastDay [] = 0 := rfl
theorem lastDay_snoc (l : List EntZ) (x : EntZ) : lastDay (l ++ [x]) = x.day := by unfold lastDay; rw [lastS_snoc]; rfl
/-- What an entry must be by its kind. -/
def kindB (k : BookZ) (l : List EntZ) (x : EntZ) : Bool :=
  if x.kind = 1 then inB x.a 0 ((k.rules.length : Int) - 1) && signB k (k.rules.getD x.a.toNat default) x.b x.c
  else if x.kind = 2 then (inB x.a 0 ((k.insured.length : Int) - 1) && inB x.b 1 3) && decide (x.c = 0)
  else if x.kind = 3 then (openS l x.a && inB x.b 0 ((k.ranks.length : Int) - 1)) && decide (x.c = 0)
  else if x.kind = 4 then (inB x.a 0 ((k.insured.length : Int) - 1) && inB x.b 0 ((k.ranks.length : Int) - 1)) && decide (x.c = 0)
  else if x.kind = 5 then (inB x.a 0 ((k.insured.length : Int) - 1) && inB x.b 0 10000) && decide (x.c = 0)
  else if x.kind = 6 then (inB x.a 0 ((k.insured.length : Int) - 1) && decide (x.b = 0)) && decide (x.c = 0)
  else false
/-- Which entries may stand behind others. -/
def canB (k : BookZ) (l : List EntZ) (x : EntZ) : Bool := inB x.day 0 10000 && (!decide (x.day < lastDay l) && kindB k l x)
def ruleB (k : BookZ) (u : RuZ) : Bool := inB u.ride 0 ((k.insured.length : Int) - 1) && (inB u.every 1 10000 && inB u.rank 0 9)
/-- Which books are valid. -/
def bookB (k : BookZ) : Bool := (decide (k.rules.length ≤ 20) && (decide (k.ranks.length ≤ 8) && decide (k.insured.length ≤ 10))) && (k.rules.all (ruleB k) && (allB k.ranks 0 9 && allB k.insured 0 10000))
/-- The first of n entries that is not right; n if there is none. -/
def badN (k : BookZ) (l : List EntZ) : Nat → Nat
  | 0 => 0
  | n + 1 => if badN k l n < n then badN k l n else if canB k (l.take n) (l.getD n default) = true then n + 1 else n
theorem badN_le (k : BookZ) (l : List EntZ) : ∀ n, badN k l n ≤ n := by
  intro n
  induction n with
  | zero => exact Nat.le_refl _
  | succ n ih => simp only [badN]; split; · omega
                 split <;> omega
theorem badN_all {k : BookZ} {l : List EntZ} : ∀ {n : Nat}, badN k l n = n → ∀ i, i < n → canB k (l.take i) (l.getD i default) = true := by
  intro n
  induction n with
  | zero => intro _ i hi; omega
  | succ n ih =>
    intro h i hi
    simp only [badN] at h
    have hl := badN_le k l n
    split at h
    · omega
    · split at h
      · next h1 h2 =>
        rcases Nat.lt_or_ge i n with h3 | h3
        · exact ih (by omega) i h3
        · rw [show i = n by omega]; exact h2
      · omega
theorem badN_go {k : BookZ} {l : List EntZ} {n : Nat} (h : badN k l n = n) (hc : canB k (l.take n) (l.getD n default) = true) : badN k l (n + 1) = n + 1 := by
  simp only [badN]
  rw [if_neg (by omega), if_pos hc]
theorem badN_stop {k : BookZ} {l : List EntZ} {n : Nat} (h : badN k l n = n) (hc : canB k (l.take n) (l.getD n default) = false) : ∀ {m : Nat}, n < m → badN k l m = n := by
  intro m
  induction m with
  | zero => intro h; omega
  | succ m ih =>
    intro hm
    simp only [badN]
    rcases Nat.lt_or_ge n m with h1 | h1
    · rw [ih h1, if_pos h1]
    · obtain rfl : m = n := by omega
      rw [if_neg (by omega), if_neg (by rw [hc]; decide)]
/-- What is said of a book and entries: which entry makes the list wrong, and the error. -/
def chkR (k : BookZ) (l : List EntZ) : Int × Int :=
  if bookB k = false then (0, 100) else if 100 < l.length then (0, 2) else if badN k l l.length < l.length then ((badN k l l.length : Int), 101) else (0, 0)
/-- The entries up to a day. -/
def upN (l : List EntZ) (day : Int) : Nat := (l.takeWhile fun x => decide (x.day ≤ day)).length
def upL (l : List EntZ) (day : Int) : List EntZ := l.take (upN l day)
theorem upN_le (l : List EntZ) (day : Int) : upN l day ≤ l.length := (List.takeWhile_sublist _).length_le
theorem upN_in (l : List EntZ) (day : Int) : ∀ {i}, i < upN l day → (l.getD i default).day ≤ day := by
  unfold upN
  induction l with
  | nil => intro i hi; simp at hi
  | cons x l ih =>
    intro i hi
    rw [List.takeWhile_cons] at hi
    by_cases h : x.day ≤ day
    · rw [if_pos (by simpa using h)] at hi
      cases i with
      | zero => exact h
      | succ i => simpa using ih (i := i) (by simpa using hi)
    · rw [if_neg (by simpa using h)] at hi; simp at hi
theorem upN_is (l : List EntZ) (day : Int) : ∀ {n}, n ≤ l.length → (∀ i, i < n → (l.getD i default).day ≤ day) → (n < l.length → day < (l.getD n default).day) → upN l day = n := by
  unfold upN
  induction l with
  | nil => intro n hn _ _; simp at hn; simp [hn]
  | cons x l ih =>
    intro n hn h1 h2
    rw [List.takeWhile_cons]
    cases n with
    | zero =>
      have := h2 (by simp)
      simp only [List.getD_cons_zero] at this
      rw [if_neg (by simp; omega)]; rfl
    | succ n =>
      have h := h1 0 (by omega)
      simp only [List.getD_cons_zero] at h
      rw [if_pos (by simpa using h), List.length_cons]
      rw [ih (n := n) (by simpa using hn) (fun i hi => by simpa using h1 (i + 1) (by omega)) (fun hl => by simpa using h2 (by simpa using hl))]
theorem upN_out {l : List EntZ} {day : Int} (h : upN l day < l.length) : day < (l.getD (upN l day) default).day := by
  unfold upN at *
  induction l with
  | nil => simp at h
  | cons x l ih =>
    rw [List.takeWhile_cons] at h ⊢
    by_cases hx : x.day ≤ day
    · rw [if_pos (by simpa using hx)] at h ⊢
      simpa using ih (by simpa using h)
    · rw [if_neg (by simpa using hx)]
      simp; omega
/-- Until when all checks of a ride are in force. -/
def chkU (k : BookZ) (l : List EntZ) (ride : Int) : Nat → Int
  | 0 => 10000
  | i + 1 => if (k.rules.getD i default).ride = ride then min (chkU k l ride i) (infS l i (k.rules.getD i default)) else chkU k l ride i
/-- The open defects of a severity. -/
def defP (l : List EntZ) (ride sev : Int) (i : Nat) : Bool := (openS l (i : Int) && decide ((l.getD i default).a = ride)) && decide ((l.getD i default).b = sev)
def defS (l : List EntZ) (ride sev : Int) : Int := ((numsL (defP l ride sev) l.length).length : Int)
def dfvS (l : List EntZ) (ride : Int) : Bool := decide (0 < defS l ride 3) || decide (1 < defS l ride 2)
/-- The reasons for which a ride is not released. -/
def whyS (k : BookZ) (l : List EntZ) (ride : Nat) (day : Int) : List Int :=
  (((if chkU k l ride k.rules.length < day then [1] else []) ++ if dfvS l ride = true then [2] else []) ++ if tstS l ride day = false then [3] else []) ++ if insS k l ride < day then [4] else []
/-- The last day, or the error that there is none. -/
def untS (k : BookZ) (l : List EntZ) (ride : Nat) (day : Int) : Int × Int :=
  if min (chkU k l ride k.rules.length) (insS k l ride) < day ∨ dfvS l ride = true then (0, 3) else (min (chkU k l ride k.rules.length) (insS k l ride), 0)
end Go.Proofs.Ytaocgkmobfocjaa
