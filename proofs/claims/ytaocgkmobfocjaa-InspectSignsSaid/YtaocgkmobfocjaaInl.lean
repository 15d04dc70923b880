/- Plain facts: right entries; what the specification finds entry by entry. No program. -/
import Derived.Test.YtaocgkmobfocjaaInk
namespace Go.Proofs.Ytaocgkmobfocjaa
open Go.RowKit
/-- A valid book with right entries. -/
structure LogOk (k : BookZ) (l : List EntZ) : Prop where
  book : bookB k = true
  len : l.length ≤ 100
  can : ∀ i, i < l.length → canB k (l.take i) (l.getD i default) = true
theorem chkR_ok {k : BookZ} {l : List EntZ} : (chkR k l).2 = 0 ↔ LogOk k l := by
  unfold chkR
  constructor
  · intro h
    by_cases h1 : bookB k = false
    · rw [if_pos h1] at h; simp at h
    rw [if_neg h1] at h
    by_cases h2 : 100 < l.length
    · rw [if_pos h2] at h; simp at h
    rw [if_neg h2] at h
    by_cases h3 : badN k l l.length < l.length
    · rw [if_pos h3] at h; simp at h
    exact ⟨by simpa using h1, by omega, badN_all (by have := badN_le k l l.length; omega)⟩
  · rintro ⟨h1, h2, h3⟩
    have hb : ∀ n, n ≤ l.length → badN k l n = n := by
      intro n
      induction n with
      | zero => intro _; rfl
      | succ n ih => intro hn; exact badN_go (ih (by omega)) (h3 n (by omega))
    rw [if_neg (by simp [h1]), if_neg (by omega), if_neg (by rw [hb _ (Nat.le_refl _)]; omega)]
theorem chkR_zero {k : BookZ} {l : List EntZ} (h : (chkR k l).2 = 0) : chkR k l = (0, 0) := by
  unfold chkR at h ⊢
  split
  · next h1 => rw [if_pos h1] at h; simp at h
  next h1 =>
  rw [if_neg h1] at h
  split
  · next h2 => rw [if_pos h2] at h; simp at h
  next h2 =>
  rw [if_neg h2] at h
  split
  · next h3 => rw [if_pos h3] at h; simp at h
  · rfl
theorem LogOk.nil {k : BookZ} (h : bookB k = true) : LogOk k [] := ⟨h, by simp, fun i hi => by simp at hi⟩
theorem logOk_snoc {k : BookZ} {l : List EntZ} {x : EntZ} : LogOk k (l ++ [x]) ↔ LogOk k l ∧ canB k l x = true ∧ l.length < 100 := by
  constructor
  · rintro ⟨h1, h2, h3⟩
    rw [List.length_append, List.length_singleton] at h2
    refine ⟨⟨h1, by omega, fun i hi => ?_⟩, ?_, by omega⟩
    · have := h3 i (by simp; omega)
      rw [List.take_append_of_le_length (by omega)] at this
      rw [List.getD_eq_getElem?_getD, List.getElem?_append_left hi] at this
      rwa [List.getD_eq_getElem?_getD]
    · have := h3 l.length (by simp)
      rw [List.take_append_of_le_length (by omega), List.take_length] at this
      rw [List.getD_eq_getElem?_getD, List.getElem?_append_right (by omega)] at this
      simpa using this
  · rintro ⟨⟨h1, h2, h3⟩, h4, h5⟩
    refine ⟨h1, by simp; omega, fun i hi => ?_⟩
    simp only [List.length_append, List.length_singleton] at hi
    rcases Nat.lt_or_ge i l.length with h | h
    · rw [List.take_append_of_le_length (by omega), List.getD_eq_getElem?_getD, List.getElem?_append_left h, ← List.getD_eq_getElem?_getD]
      exact h3 i h
    · obtain rfl : i = l.length := by omega
      rw [List.take_append_of_le_length (by omega), List.take_length, List.getD_eq_getElem?_getD, List.getElem?_append_right (by omega)]
      simpa using h4
theorem LogOk.take {k : BookZ} {l : List EntZ} (h : LogOk k l) (n : Nat) : LogOk k (l.take n) := by
  refine ⟨h.book, by have := h.len; simp; omega, fun i hi => ?_⟩
  simp only [List.length_take] at hi
  have := h.can i (by omega)
  rw [List.take_take, show min i n = i by omega]
  rw [List.getD_eq_getElem?_getD, List.getElem?_take, if_pos (by omega), ← List.getD_eq_getElem?_getD]
  exact this
theorem inBI {x lo hi : Int} : inB x lo hi = true ↔ lo ≤ x ∧ x ≤ hi := by unfold inB; simp
theorem canB_iff {k : BookZ} {l : List EntZ} {x : EntZ} : canB k l x = true ↔ (0 ≤ x.day ∧ x.day ≤ 10000) ∧ lastDay l ≤ x.day ∧ kindB k l x = true := by
  unfold canB
  rw [Bool.and_eq_true, inBI, Bool.and_eq_true]
  simp
theorem LogOk.last {k : BookZ} : ∀ {l : List EntZ}, LogOk k l → (∀ x ∈ l, 0 ≤ x.day ∧ x.day ≤ lastDay l) ∧ 0 ≤ lastDay l ∧ lastDay l ≤ 10000 := by
  intro l
  induction l using snoc_ind with
  | h0 => intro _; exact ⟨fun x hx => by simp at hx, by decide, by decide⟩
  | h1 l x ih =>
    intro h
    obtain ⟨h1, h2, _⟩ := logOk_snoc.1 h
    obtain ⟨a, b, c⟩ := ih h1
    obtain ⟨d, e, _⟩ := canB_iff.1 h2
    rw [lastDay_snoc]
    refine ⟨fun y hy => ?_, d.1, d.2⟩
    rcases List.mem_append.1 hy with hy | hy
    · have := a y hy; omega
    · rw [List.mem_singleton.1 hy]; omega
theorem LogOk.day {k : BookZ} {l : List EntZ} (h : LogOk k l) {x : EntZ} (hx : x ∈ l) : 0 ≤ x.day ∧ x.day ≤ 10000 := by
  have a := h.last.1 x hx
  have b := h.last.2.2
  omega
/-- The day of the last check of a rule behind all accidents, or -1. -/
def frcF (rule ride : Int) (t : Int) (x : EntZ) : Int := if x.kind = 6 ∧ x.a = ride then -1 else if x.kind = 1 ∧ x.a = rule then x.day else t
def frcL (l : List EntZ) (rule ride : Int) : Int := l.foldl (frcF rule ride) (-1)
theorem frcL_is (l : List EntZ) (rule ride : Int) : frcL l rule ride = match lastS (forceB rule ride) l with | none => -1 | some x => if x.kind = 6 then -1 else x.day := by
  induction l using snoc_ind with
  | h0 => rfl
  | h1 l x ih =>
    unfold frcL at ih ⊢
    rw [List.foldl_append, ih, lastS_snoc]
    simp only [List.foldl_cons, List.foldl_nil, frcF]
    by_cases h6 : x.kind = 6 ∧ x.a = ride
    · rw [if_pos h6, if_pos (by simp [forceB, h6.1, h6.2])]
      simp [h6.1]
    · rw [if_neg h6]
      by_cases h1 : x.kind = 1 ∧ x.a = rule
      · rw [if_pos h1, if_pos (by simp [forceB, h1.1, h1.2])]
        simp [h1.1]
      · rw [if_neg h1, if_neg]
        simp only [forceB, Bool.or_eq_true, Bool.and_eq_true, decide_eq_true_eq]
        intro h
        rcases h with h | h
        · exact h1 h
        · exact h6 h
/-- Whether a check is in force. -/
def frcS (l : List EntZ) (rule : Nat) (u : RuZ) (day : Int) : Bool := decide (0 ≤ frcL l rule u.ride) && decide (wrap64 (day - frcL l rule u.ride) < u.every)
theorem infS_bd {k : BookZ} {l : List EntZ} (h : LogOk k l) {i : Nat} {u : RuZ} (hu : 1 ≤ u.every ∧ u.every ≤ 10000) : -1 ≤ infS l i u ∧ infS l i u ≤ 20000 := by
  unfold infS
  split
  · omega
  · next hn =>
    cases hs : lastS (forceB i u.ride) l with
    | none => rw [hs] at hn; simp at hn
    | some x =>
      have hx := h.day (lastS_some hs).1
      simp only [Option.getD_some]
      unfold wrap64; omega
theorem frc_inf {k : BookZ} {l : List EntZ} (h : LogOk k l) {i : Nat} {u : RuZ} (hu : 1 ≤ u.every ∧ u.every ≤ 10000) {day : Int} (hd : 0 ≤ day ∧ day ≤ 10000) : frcS l i u day = !decide (infS l i u < day) := by
  unfold frcS infS
  have e0 := frcL_is l (i : Int) u.ride
  cases hs : lastS (forceB (i : Int) u.ride) l with
  | none =>
    rw [hs] at e0
    simp only at e0
    rw [e0, if_pos (.inl rfl)]
    have : (-1 : Int) < day := by omega
    simp [this]
  | some x =>
    have hx := h.day (lastS_some hs).1
    rw [hs] at e0
    simp only at e0
    simp only [Option.isSome_some, Option.getD_some]
    by_cases h6 : x.kind = 6
    · rw [if_pos h6] at e0
      rw [e0, if_pos (.inr h6)]
      have : (-1 : Int) < day := by omega
      simp [this]
    · rw [if_neg h6] at e0
      rw [e0, if_neg (by simp [h6])]
      have e1 : wrap64 (wrap64 (x.day + u.every) - 1) = x.day + u.every - 1 := by unfold wrap64; omega
      have e2 : wrap64 (day - x.day) = day - x.day := by unfold wrap64; omega
      rw [e1, e2, Bool.eq_iff_iff]
      simp
      omega
/-- How many open defects of a severity are among the first. -/
def manN (l : List EntZ) (ride sev : Int) : Nat → Int
  | 0 => 0
  | i + 1 => manN l ride sev i + if (l.getD i default).a = ride ∧ (l.getD i default).kind = 2 ∧ openS l i = true ∧ (l.getD i default).b = sev then 1 else 0
theorem openS_kind {l : List EntZ} {i : Nat} (h : openS l (i : Int) = true) : i < l.length ∧ (l.getD i default).kind = 2 := by
  unfold openS at h
  simp only [Bool.and_eq_true, inBI, decide_eq_true_eq, Int.toNat_natCast] at h
  exact ⟨by omega, h.2.1⟩
theorem manN_is (l : List EntZ) (ride sev : Int) : ∀ n, manN l ride sev n = ((numsL (defP l ride sev) n).length : Int) := by
  intro n
  induction n with
  | zero => rfl
  | succ n ih =>
    simp only [manN]
    cases hp : defP l ride sev n with
    | true =>
      rw [numsL_yes hp, List.length_append, ih]
      unfold defP at hp
      simp only [Bool.and_eq_true, decide_eq_true_eq] at hp
      rw [if_pos ⟨hp.1.2, (openS_kind hp.1.1).2, hp.1.1, hp.2⟩]
      simp
    | false =>
      rw [numsL_no hp, ih, if_neg]
      · omega
      · rintro ⟨h1, _, h3, h4⟩
        unfold defP at hp
        rw [h3, decide_eq_true h1, decide_eq_true h4] at hp
        cases hp
/-- Whether a ride was tested on a day, entry by entry. -/
def tstF (ride day : Int) (t : Bool) (x : EntZ) : Bool := if x.a = ride then if x.kind = 4 then t || decide (x.day = day) else if x.kind = 6 then false else t else t
def tstL (l : List EntZ) (ride day : Int) : Bool := l.foldl (tstF ride day) false
def insF (ride : Int) (t : Int) (x : EntZ) : Int := if x.a = ride then if x.kind = 5 then x.b else t else t
def insL (k : BookZ) (l : List EntZ) (ride : Nat) : Int := l.foldl (insF ride) (k.insured.getD ride 0)
theorem insL_is (k : BookZ) (l : List EntZ) (ride : Nat) : insL k l ride = insS k l ride := by
  induction l using snoc_ind with
  | h0 => rfl
  | h1 l x ih =>
    unfold insL insS at *
    rw [List.foldl_append, ih, lastS_snoc]
    simp only [List.foldl_cons, List.foldl_nil, insF]
    have e1 : x.a = (ride : Int) → x.kind = 5 → renB (ride : Int) x = true := fun h1 h2 => by simp [renB, h1, h2]
    have e2 : ¬ (x.a = (ride : Int) ∧ x.kind = 5) → renB (ride : Int) x = false := fun h => by
      simp only [renB, Bool.and_eq_false_iff, decide_eq_false_iff_not]
      by_cases h2 : x.kind = 5
      · exact .inr fun h1 => h ⟨h1, h2⟩
      · exact .inl h2
    by_cases h1 : x.a = ride
    · by_cases h2 : x.kind = 5
      · rw [if_pos h1, if_pos h2, e1 h1 h2]; simp
      · rw [if_pos h1, if_neg h2, e2 (fun h => h2 h.2)]; simp
    · rw [if_neg h1, e2 (fun h => h1 h.1)]; simp
theorem tst_is {k : BookZ} {ride day : Int} : ∀ {l : List EntZ}, LogOk k l → (∀ x ∈ l, x.day ≤ day) → tstL l ride day = tstS l ride day ∧ (tstL l ride day = true → lastDay l = day) := by
  intro l
  induction l using snoc_ind with
  | h0 => intro _ _; exact ⟨rfl, fun h => by simp [tstL] at h⟩
  | h1 l x ih =>
    intro h hd
    obtain ⟨h1, h2, _⟩ := logOk_snoc.1 h
    obtain ⟨a, b⟩ := ih h1 fun y hy => hd y (List.mem_append_left _ hy)
    obtain ⟨_, e, _⟩ := canB_iff.1 h2
    have hx := hd x (by simp)
    unfold tstL tstS at *
    rw [List.foldl_append, lastS_snoc, lastDay_snoc]
    simp only [List.foldl_cons, List.foldl_nil]
    generalize List.foldl (tstF ride day) false l = T at a b ⊢
    unfold tstF
    by_cases h3 : x.a = ride
    · rw [if_pos h3]
      by_cases h4 : x.kind = 4
      · rw [if_pos h4, if_pos (by simp [testB, h3, h4])]
        simp only [Option.isSome_some, Option.getD_some, h4, decide_true, Bool.and_self, Bool.true_and]
        cases ht : T with
        | false => simp
        | true =>
          have := b ht
          have e2 : x.day = day := by omega
          simp [e2]
      · rw [if_neg h4]
        by_cases h6 : x.kind = 6
        · rw [if_pos h6, if_pos (by simp [testB, h3, h6])]
          simp [h6]
        · rw [if_neg h6, if_neg (by simp [testB, h4, h6])]
          exact ⟨a, fun ht => by have := b ht; omega⟩
    · rw [if_neg h3, if_neg (by simp [testB, h3])]
      exact ⟨a, fun ht => by have := b ht; omega⟩
end Go.Proofs.Ytaocgkmobfocjaa
