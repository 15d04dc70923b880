/- Plain: what a Found or a Mended behind right entries changes. -/
import Derived.Test.YtaocgkmobfocjaaIak
namespace Go.Proofs.Ytaocgkmobfocjaa
open Go.RowKit

theorem fm_open {l : List EntZ} {x : EntZ} {i : Nat} (hi : i < l.length) : openS (l ++ [x]) (i : Int) = (openS l (i : Int) && !mendB (i : Int) x) := by
  rw [openS_nat, openS_nat]
  have e2 : (l ++ [x]).getD i default = l.getD i default := by simp only [List.getD_eq_getElem?_getD, List.getElem?_append_left hi]
  have e1 : inB (i : Int) 0 (((l ++ [x]).length : Int) - 1) = true := by rw [inBI, List.length_append]; simp; omega
  have e3 : inB (i : Int) 0 ((l.length : Int) - 1) = true := by rw [inBI]; omega
  rw [lastS_snoc, e2, e1, e3]
  cases hm : mendB (i : Int) x with
  | true => simp
  | false => simp
theorem fm_same {k : BookZ} {l : List EntZ} {x : EntZ} (hx : x.kind = 2 ∨ x.kind = 3) (r : Nat) (d : Int) : chkU k (l ++ [x]) r k.rules.length = chkU k l r k.rules.length ∧ tstS (l ++ [x]) r d = tstS l r d ∧ insS k (l ++ [x]) r = insS k l r := by
  have k1 : decide (x.kind = 1) = false := decide_eq_false (by omega)
  have k4 : decide (x.kind = 4) = false := decide_eq_false (by omega)
  have k5 : decide (x.kind = 5) = false := decide_eq_false (by omega)
  have k6 : decide (x.kind = 6) = false := decide_eq_false (by omega)
  refine ⟨?_, ?_, ?_⟩
  · have key : ∀ n, chkU k (l ++ [x]) r n = chkU k l r n := by
      intro n
      induction n with
      | zero => rfl
      | succ n ih =>
        have e : infS (l ++ [x]) n (k.rules.getD n default) = infS l n (k.rules.getD n default) := by
          have e0 : lastS (forceB (n : Int) (k.rules.getD n default).ride) (l ++ [x]) = lastS (forceB (n : Int) (k.rules.getD n default).ride) l := by rw [lastS_snoc, if_neg (by unfold forceB; rw [k1, k6]; simp)]
          unfold infS
          rw [e0]
        simp only [chkU]
        rw [ih, e]
    exact key _
  · have e0 : lastS (testB (r : Int)) (l ++ [x]) = lastS (testB (r : Int)) l := by rw [lastS_snoc, if_neg (by unfold testB; rw [k4, k6]; simp)]
    unfold tstS
    rw [e0]
  · have e : lastS (renB (r : Int)) (l ++ [x]) = lastS (renB (r : Int)) l := by rw [lastS_snoc, if_neg (by unfold renB; rw [k5]; simp)]
    unfold insS
    rw [e]
theorem numsL_mono {p q : Nat → Bool} : ∀ n, (∀ i, i < n → p i = true → q i = true) → (numsL p n).length ≤ (numsL q n).length := by
  intro n
  induction n with
  | zero => intro _; exact Nat.le_refl _
  | succ n ih =>
    intro h
    have h1 := ih fun i hi => h i (by omega)
    cases hp : p n with
    | false =>
      rw [numsL_no hp]
      cases hq : q n with
      | false => rw [numsL_no hq]; exact h1
      | true => rw [numsL_yes hq, List.length_append]; omega
    | true =>
      rw [numsL_yes hp, numsL_yes (h n (by omega) hp), List.length_append, List.length_append]
      simpa using h1
theorem fm_getD {l : List EntZ} {x : EntZ} {i : Nat} (hi : i < l.length) : (l ++ [x]).getD i default = l.getD i default := by simp only [List.getD_eq_getElem?_getD, List.getElem?_append_left hi]
theorem found_def {l : List EntZ} {x : EntZ} (hx : x.kind = 2) {r : Int} (h : dfvS (l ++ [x]) r = false) : dfvS l r = false := by
  have key : ∀ s, defS l r s ≤ defS (l ++ [x]) r s := fun s => by
    unfold defS
    rw [List.length_append, List.length_singleton]
    have h1 : (numsL (defP l r s) l.length).length ≤ (numsL (defP (l ++ [x]) r s) l.length).length := numsL_mono _ fun i hi hp => by
      unfold defP at hp ⊢
      rw [fm_open hi, fm_getD hi]
      have : mendB (i : Int) x = false := by simp [mendB, hx]
      rw [this]; simpa using hp
    have h2 : (numsL (defP (l ++ [x]) r s) l.length).length ≤ (numsL (defP (l ++ [x]) r s) (l.length + 1)).length := by
      cases hq : defP (l ++ [x]) r s l.length with
      | false => rw [numsL_no hq]; omega
      | true => rw [numsL_yes hq, List.length_append]; omega
    omega
  unfold dfvS at h ⊢
  rw [Bool.or_eq_false_iff] at h ⊢
  have h1 := key 3
  have h2 := key 2
  have h3 := of_decide_eq_false h.1
  have h4 := of_decide_eq_false h.2
  exact ⟨decide_eq_false (by omega), decide_eq_false (by omega)⟩
theorem mended_def {l : List EntZ} {x : EntZ} (hx : x.kind = 3) {r : Int} (h : dfvS l r = false) : dfvS (l ++ [x]) r = false := by
  have key : ∀ s, defS (l ++ [x]) r s ≤ defS l r s := fun s => by
    unfold defS
    rw [List.length_append, List.length_singleton]
    have hq : defP (l ++ [x]) r s l.length = false := by
      unfold defP
      have : openS (l ++ [x]) (l.length : Int) = false := Bool.eq_false_iff.2 fun h => by
        have h2 := (openS_kind h).2
        have e : (l ++ [x]).getD l.length default = x := by simp
        rw [e] at h2; omega
      rw [this]; rfl
    rw [numsL_no hq]
    have h1 : (numsL (defP (l ++ [x]) r s) l.length).length ≤ (numsL (defP l r s) l.length).length := numsL_mono _ fun i hi hp => by
      unfold defP at hp ⊢
      rw [fm_open hi, fm_getD hi] at hp
      simp only [Bool.and_eq_true] at hp ⊢
      exact ⟨⟨hp.1.1.1, hp.1.2⟩, hp.2⟩
    omega
  unfold dfvS at h ⊢
  rw [Bool.or_eq_false_iff] at h ⊢
  have h1 := key 3
  have h2 := key 2
  have h3 := of_decide_eq_false h.1
  have h4 := of_decide_eq_false h.2
  exact ⟨decide_eq_false (by omega), decide_eq_false (by omega)⟩
theorem why_nil {k : BookZ} {l : List EntZ} {r : Nat} {d : Int} : (whyS k l r d).length = 0 ↔ ¬ chkU k l r k.rules.length < d ∧ dfvS l r = false ∧ tstS l r d = true ∧ ¬ insS k l r < d := by
  unfold whyS
  simp only [List.length_append]
  by_cases h1 : chkU k l r k.rules.length < d <;> cases h2 : dfvS l r <;> cases h3 : tstS l r d <;> by_cases h4 : insS k l r < d <;> simp [h1, h4]
theorem found_rel {k : BookZ} {l : List EntZ} {x : EntZ} (hx : x.kind = 2) {d : Int} {r : Nat} (h : (r : Int) ∈ relS k (l ++ [x]) d) : (r : Int) ∈ relS k l d := by
  unfold relS at h ⊢
  rw [numsL_mem] at h ⊢
  obtain ⟨i, hi, hp, he⟩ := h
  refine ⟨i, hi, ?_, he⟩
  unfold relP at hp ⊢
  have h0 := why_nil.1 (of_decide_eq_true hp)
  obtain ⟨s1, s2, s3⟩ := fm_same (k := k) (l := l) (.inl hx) i d
  rw [s1, s2, s3] at h0
  exact decide_eq_true (why_nil.2 ⟨h0.1, found_def hx h0.2.1, h0.2.2⟩)
theorem mended_rel {k : BookZ} {l : List EntZ} {x : EntZ} (hx : x.kind = 3) {d : Int} {r : Nat} (h : (r : Int) ∈ relS k l d) : (r : Int) ∈ relS k (l ++ [x]) d := by
  unfold relS at h ⊢
  rw [numsL_mem] at h ⊢
  obtain ⟨i, hi, hp, he⟩ := h
  refine ⟨i, hi, ?_, he⟩
  unfold relP at hp ⊢
  have h0 := why_nil.1 (of_decide_eq_true hp)
  obtain ⟨s1, s2, s3⟩ := fm_same (k := k) (l := l) (.inr hx) i d
  refine decide_eq_true (why_nil.2 ?_)
  rw [s1, s2, s3]
  exact ⟨h0.1, mended_def hx h0.2.1, h0.2.2⟩
theorem more_days {k : BookZ} {l : List EntZ} {x : EntZ} (h : LogOk k (l ++ [x])) : LogOk k l ∧ (0 ≤ x.day ∧ x.day ≤ 10000) ∧ ∀ d, x.day ≤ d → upL l d = l ∧ upL (l ++ [x]) d = l ++ [x] := by
  have h1 := logOk_snoc.1 h
  have h2 := canB_iff.1 h1.2.1
  have h3 : ∀ y ∈ l, y.day ≤ x.day := fun y hy => Int.le_trans (h1.1.last.1 y hy).2 h2.2.1
  refine ⟨h1.1, h2.1, fun d hd => ⟨up_all fun y hy => Int.le_trans (h3 y hy) hd, up_all fun y hy => ?_⟩⟩
  rcases List.mem_append.1 hy with hy | hy
  · exact Int.le_trans (h3 y hy) hd
  · rw [List.mem_singleton.1 hy]; exact hd
end Go.Proofs.Ytaocgkmobfocjaa
