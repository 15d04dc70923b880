/- Contracts of follow: what it answers to each fair and each list of deals, whatever is told of each deal. Conditions: the arguments read as data; the function that is told may change one block of its own. -/
import Derived.Test.YtpcceankhgjjmaaWk
namespace Go.Proofs.Ytpcceankhgjjmaa
open Go.RowKit

def dealCells (l : List Deal) : List Value := l.flatMap fun d => [.int .i64 d.at_, .int .i64 d.kind, .int .i64 d.a, .int .i64 d.b, .int .i64 d.n]
def getd (l : List Deal) (k : Nat) : Deal := l[k]?.getD ⟨0, 0, 0, 0, 0⟩
theorem dealCells_length (l : List Deal) : (dealCells l).length = l.length * 5 := by
  induction l with
  | nil => rfl
  | cons x t ih => simp only [dealCells, List.flatMap_cons, List.length_append, List.length_cons, List.length_nil] at *; omega
theorem dealCells_at (l : List Deal) : ∀ k, k < l.length → (dealCells l)[k * 5]? = some (.int .i64 (getd l k).at_) ∧ (dealCells l)[k * 5 + 1]? = some (.int .i64 (getd l k).kind) ∧ (dealCells l)[k * 5 + 2]? = some (.int .i64 (getd l k).a) ∧ (dealCells l)[k * 5 + 3]? = some (.int .i64 (getd l k).b) ∧ (dealCells l)[k * 5 + 4]? = some (.int .i64 (getd l k).n) := by
  induction l with
  | nil => intro k h; simp at h
  | cons x t ih =>
    intro k h
    cases k with
    | zero => simp [dealCells, getd]
    | succ k =>
      have h' := ih k (by simpa using h)
      have e : ∀ j, (k + 1) * 5 + j = k * 5 + j + 5 := by intro j; omega
      have e0 : (k + 1) * 5 = k * 5 + 5 := by omega
      rw [e0]
      simp only [dealCells, List.flatMap_cons, getd, List.getElem?_cons_succ] at *
      refine ⟨?_, ?_, ?_, ?_, ?_⟩
      all_goals rw [List.getElem?_append_right (by simp)]
      · simpa using h'.1
      · simpa [show k * 5 + 5 + 1 - 5 = k * 5 + 1 from by omega] using h'.2.1
      · simpa [show k * 5 + 5 + 2 - 5 = k * 5 + 2 from by omega] using h'.2.2.1
      · simpa [show k * 5 + 5 + 3 - 5 = k * 5 + 3 from by omega] using h'.2.2.2.1
      · simpa [show k * 5 + 5 + 4 - 5 = k * 5 + 4 from by omega] using h'.2.2.2.2
theorem Reads.at5 {w : World} {B n : Nat} {A : Option Addr} {l : List Deal} (h : Reads w B 5 A n (dealCells l)) {k : Nat} (hk : k < n) :
    ∃ b o, A = some ⟨b, o, none⟩ ∧ b < B ∧ w.cell? ⟨b, o + k * 5, none⟩ = some (.int .i64 (getd l k).at_) ∧ w.cell? ⟨b, o + k * 5 + 1, none⟩ = some (.int .i64 (getd l k).kind) ∧ w.cell? ⟨b, o + k * 5 + 2, none⟩ = some (.int .i64 (getd l k).a) ∧
      w.cell? ⟨b, o + k * 5 + 3, none⟩ = some (.int .i64 (getd l k).b) ∧ w.cell? ⟨b, o + k * 5 + 4, none⟩ = some (.int .i64 (getd l k).n) := by
  obtain ⟨b, o, e, hb, hc⟩ := h.2 (by omega)
  have hl : l.length = n := by have := h.1; rw [dealCells_length] at this; omega
  obtain ⟨h0, h1, h2, h3, h4⟩ := dealCells_at l k (by omega)
  exact ⟨b, o, e, hb, hc _ _ h0, hc _ _ h1, hc _ _ h2, hc _ _ h3, hc _ _ h4⟩

/-- The walk through deals, one by one: how the fair stands and the last time, behind the first k of them; none: one of them is wrong. -/
def runS (F : Fair) : List Deal → Count → Int → Option (Count × Int)
  | [], C, t => some (C, t)
  | d :: l, C, t => if inB d.at_ t 1440 then (match stepS F C d with | none => none | some C' => runS F l C' d.at_) else none
/-- The number of the first deal that is wrong. -/
def badS (F : Fair) : List Deal → Count → Int → Nat
  | [], _, _ => 0
  | d :: l, C, t => if inB d.at_ t 1440 then (match stepS F C d with | none => 0 | some C' => badS F l C' d.at_ + 1) else 0
def goS (F : Fair) (l : List Deal) (k : Nat) : Option (Count × Int) := runS F (l.take k) (beginS F) 0

theorem runS_append (F : Fair) (l m : List Deal) : ∀ C t, runS F (l ++ m) C t = (match runS F l C t with | none => none | some (C', t') => runS F m C' t') := by
  induction l with
  | nil => intro C t; rfl
  | cons d l ih =>
    intro C t
    simp only [List.cons_append, runS]
    split
    · split
      · rfl
      · exact ih _ _
    · rfl
theorem goS_succ (F : Fair) (l : List Deal) (k : Nat) (hk : k < l.length) (C : Count) (t : Int) (h : goS F l k = some (C, t)) :
    goS F l (k + 1) = if inB (getd l k).at_ t 1440 then (match stepS F C (getd l k) with | none => none | some C' => some (C', (getd l k).at_)) else none := by
  unfold goS at *
  rw [List.take_succ_eq_append_getElem hk, runS_append, h]
  simp only [runS, getd, List.getElem?_eq_getElem hk, Option.getD_some]
theorem badS_append (F : Fair) (l m : List Deal) : ∀ C t C' t', runS F l C t = some (C', t') → badS F (l ++ m) C t = l.length + badS F m C' t' := by
  induction l with
  | nil => intro C t C' t' h; simp [runS] at h; obtain ⟨rfl, rfl⟩ := h; simp
  | cons d l ih =>
    intro C t C' t' h
    simp only [List.cons_append, runS, badS] at *
    by_cases h1 : inB d.at_ t 1440 = true
    · rw [if_pos h1] at h ⊢
      cases h2 : stepS F C d with
      | none => rw [h2] at h; cases h
      | some C1 => rw [h2] at h; simp only [ih _ _ _ _ h, List.length_cons]; omega
    · rw [if_neg h1] at h; cases h
/-- Where the deal k is wrong and those before it are right. -/
theorem bad_at (F : Fair) (l : List Deal) (k : Nat) (hk : k < l.length) (C : Count) (t : Int) (h : goS F l k = some (C, t)) (hn : goS F l (k + 1) = none) : goS F l l.length = none ∧ badS F l (beginS F) 0 = k := by
  have hs := goS_succ F l k hk C t h
  rw [hn] at hs
  unfold goS at *
  have e : l = l.take k ++ (getd l k :: l.drop (k + 1)) := by
    rw [show getd l k = l[k] by simp [getd, List.getElem?_eq_getElem hk], ← List.drop_eq_getElem_cons hk, List.take_append_drop]
  have hbad : runS F (getd l k :: l.drop (k + 1)) C t = none ∧ badS F (getd l k :: l.drop (k + 1)) C t = 0 := by
    simp only [runS, badS]
    by_cases h1 : inB (getd l k).at_ t 1440 = true
    · rw [if_pos h1] at hs ⊢
      cases h2 : stepS F C (getd l k) with
      | none => simp [h1]
      | some C1 => rw [h2] at hs; cases hs
    · simp [h1]
  constructor
  · rw [List.take_length]
    conv => lhs; rw [e]
    rw [runS_append, h]
    exact hbad.1
  · conv => lhs; rw [e]
    rw [badS_append _ _ _ _ _ _ _ h, hbad.2, List.length_take]
    omega
end Go.Proofs.Ytpcceankhgjjmaa
