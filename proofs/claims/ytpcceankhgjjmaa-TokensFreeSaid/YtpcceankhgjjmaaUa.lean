/- Plain facts of Until: beginnings of right deals are right. No program, no memory. -/
import Derived.Test.YtpcceankhgjjmaaFa
namespace Go.Proofs.Ytpcceankhgjjmaa
open Go.RowKit

/-- How many deals at the beginning happen up to a time. -/
def untilN (l : List Deal) (a : Int) : Nat := (l.takeWhile fun d => decide (d.at_ ≤ a)).length
theorem untilN_eq (a : Int) (l : List Deal) : ∀ k, k ≤ l.length → (∀ j, j < k → (getd l j).at_ ≤ a) → (k = l.length ∨ a < (getd l k).at_) → untilN l a = k := by
  induction l with
  | nil => intro k hk _ _; simp at hk; subst hk; rfl
  | cons d l ih =>
    intro k hk h1 h2
    cases k with
    | zero =>
      have : ¬ d.at_ ≤ a := by
        rcases h2 with h2 | h2
        · simp at h2
        · simp only [getd, List.getElem?_cons_zero, Option.getD_some] at h2; omega
      simp [untilN, this]
    | succ k =>
      have h0 : d.at_ ≤ a := by have := h1 0 (by omega); simpa [getd] using this
      have := ih k (by simpa using hk) (fun j hj => by have := h1 (j + 1) (by omega); simpa [getd] using this) (by
        rcases h2 with h2 | h2
        · left; simpa using h2
        · right; simpa [getd] using h2)
      simp only [untilN, List.takeWhile_cons, h0, decide_true, if_true, List.length_cons] at this ⊢
      omega
theorem untilN_le (l : List Deal) (a : Int) : untilN l a ≤ l.length := by
  induction l with
  | nil => simp [untilN]
  | cons d l ih =>
    simp only [untilN, List.takeWhile_cons]
    split
    · simp only [List.length_cons]; unfold untilN at ih; omega
    · simp
/-- Every beginning of right deals is right. -/
theorem begin_ok {F : Fair} {l : List Deal} (h : errS F l = 0) (k : Nat) : errS F (l.take k) = 0 := by
  have w := went h
  have hl : (l.take k).length ≤ l.length := by rw [List.length_take]; omega
  have hr := w.run
  rw [← List.take_append_drop k l, runS_append, List.take_append_drop] at hr
  have hv := w.val
  have h2 : ¬ 200 < (l.take k).length := by have := w.few; omega
  cases hg : runS F (l.take k) (beginS F) 0 with
  | none => rw [hg] at hr; cases hr
  | some x => simp only [errS, hv, Bool.true_eq_false, if_false, if_neg h2, goS, List.take_length, hg]
theorem Reads.drew {w : World} {B size n : Nat} {A : Option Addr} {xs : List Value} (h : Reads w B size A n xs) : Reads w.drew B size A n xs := h.keep fun _ _ => rfl
theorem Reads.far {w : World} {B size n : Nat} {A : Option Addr} {xs : List Value} (h : Reads w B size A n xs) {p : Addr} (hp : ∀ b o, A = some ⟨b, o, none⟩ → p.block ≠ b) (u : Value) : Reads (w.setCell p u) B size A n xs :=
  ⟨h.1, fun hn => by
    obtain ⟨b, o, e, hb, hc⟩ := h.2 hn
    exact ⟨b, o, e, hb, fun j u hu => (World.cell?_setCell_other _ _ _ _ (fun e2 => hp b o e (by subst e2; rfl))).trans (hc j u hu)⟩⟩
theorem CountIn.far {w : World} {B N : Nat} {C : Count} {K : CRefs} (h : CountIn w B C K) (hf : CFresh N K) {p : Addr} (hp : p.block < N) (u : Value) : CountIn (w.setCell p u) B C K :=
  ⟨h.s1.far (fun b o e => by have := hf b o (.inl e); omega) u, h.s2.far (fun b o e => by have := hf b o (.inr (.inl e)); omega) u, h.s3.far (fun b o e => by have := hf b o (.inr (.inr (.inl e))); omega) u, h.s4.far (fun b o e => by have := hf b o (.inr (.inr (.inr e))); omega) u, h.l1, h.l2, h.l3, h.l4⟩
/-- What Until answers. -/
def untilC (F : Fair) (l : List Deal) (a : Int) : Count := if errS F l = 0 then playS F (l.take (untilN l a)) else ⟨[], [], [], [], 0⟩
end Go.Proofs.Ytpcceankhgjjmaa
