/- Plain: what lies behind a ride that is released (entries up to the day). Conditions: right entries. -/
import Derived.Test.YtaocgkmobfocjaaIal
import Derived.Test.YtaocgkmobfocjaaIad
namespace Go.Proofs.Ytaocgkmobfocjaa
open Go.RowKit

/-- Where the last entry lies. -/
theorem lastS_at {p : EntZ → Bool} {x : EntZ} : ∀ {l : List EntZ}, lastS p l = some x → ∃ i, i < l.length ∧ l.getD i default = x ∧ p x = true ∧ ∀ j, i < j → j < l.length → p (l.getD j default) = false := by
  intro l
  induction l using snoc_ind with
  | h0 => intro h; cases h
  | h1 l y ih =>
    intro h
    rw [lastS_snoc] at h
    by_cases hy : p y = true
    · rw [if_pos hy] at h
      injection h with h
      subst h
      refine ⟨l.length, by simp, by simp, hy, fun j h1 h2 => ?_⟩
      rw [List.length_append, List.length_singleton] at h2
      omega
    · rw [if_neg hy] at h
      obtain ⟨i, h1, h2, h3, h4⟩ := ih h
      refine ⟨i, by rw [List.length_append]; omega, by rw [fm_getD h1]; exact h2, h3, fun j h5 h6 => ?_⟩
      rw [List.length_append, List.length_singleton] at h6
      rcases Nat.lt_or_ge j l.length with q | q
      · rw [fm_getD q]; exact h4 j h5 q
      · obtain rfl : j = l.length := by omega
        have e : (l ++ [y]).getD l.length default = y := by simp
        rw [e]
        exact Bool.eq_false_iff.2 hy
theorem numsL_up {p : Nat → Bool} : ∀ n, (numsL p n).Pairwise (· < ·) := by
  intro n
  induction n with
  | zero => exact List.Pairwise.nil
  | succ n ih =>
    cases hp : p n with
    | false => rw [numsL_no hp]; exact ih
    | true =>
      rw [numsL_yes hp, List.pairwise_append]
      refine ⟨ih, List.pairwise_singleton _ _, fun x hx y hy => ?_⟩
      rw [List.mem_singleton.1 hy]
      obtain ⟨i, hi, -, he⟩ := numsL_mem.1 hx
      omega
/-- The numbers of a list go up, and are below a bound. -/
theorem numsL_step {p : Nat → Bool} {n i : Nat} (h : i + 1 < (numsL p n).length) : (numsL p n)[i]'(by omega) < (numsL p n)[i + 1] := List.pairwise_iff_getElem.1 (numsL_up n) i (i + 1) (by omega) h (by omega)
theorem numsL_in {p : Nat → Bool} {n i : Nat} (h : i < (numsL p n).length) : 0 ≤ (numsL p n)[i] ∧ (numsL p n)[i] < (n : Int) := by
  obtain ⟨j, hj, -, he⟩ := numsL_mem.1 (List.getElem_mem h)
  omega
theorem rel_tested {k : BookZ} {l : List EntZ} {r : Nat} {d : Int} (h : (whyS k l r d).length = 0) : ∃ i, i < l.length ∧ (l.getD i default).kind = 4 ∧ (l.getD i default).a = (r : Int) ∧ (l.getD i default).day = d ∧ ∀ j, i < j → j < l.length → ¬ ((l.getD j default).kind = 6 ∧ (l.getD j default).a = (r : Int)) := by
  have h3 := (why_nil.1 h).2.2.1
  unfold tstS at h3
  cases hl : lastS (testB (r : Int)) l with
  | none => rw [hl] at h3; simp at h3
  | some x =>
    rw [hl] at h3
    simp only [Option.isSome_some, Option.getD_some, Bool.true_and, Bool.and_eq_true, decide_eq_true_eq] at h3
    obtain ⟨i, h1, h2, hp, h4⟩ := lastS_at hl
    unfold testB at hp
    rw [Bool.and_eq_true] at hp
    refine ⟨i, h1, by rw [h2]; exact h3.1, by rw [h2]; exact of_decide_eq_true hp.2, by rw [h2]; exact h3.2, fun j h5 h6 h7 => ?_⟩
    have := h4 j h5 h6
    unfold testB at this
    rw [h7.1, h7.2] at this
    simp at this
theorem chkU_le {k : BookZ} {l : List EntZ} {r : Int} : ∀ n, ∀ i, i < n → (k.rules.getD i default).ride = r → chkU k l r n ≤ infS l i (k.rules.getD i default) := by
  intro n
  induction n with
  | zero => intro i hi; omega
  | succ n ih =>
    intro i hi hr
    simp only [chkU]
    by_cases q : i = n
    · subst q
      rw [if_pos hr]
      omega
    · have := ih i (by omega) hr
      split <;> omega
theorem inf_checked {k : BookZ} {l : List EntZ} (hk : LogOk k l) {i : Nat} {u : RuZ} (hu : 1 ≤ u.every ∧ u.every ≤ 10000) {d : Int} (hd : 0 ≤ d) (h : ¬ infS l i u < d) : ∃ j, j < l.length ∧ (l.getD j default).kind = 1 ∧ (l.getD j default).a = (i : Int) ∧ d - (l.getD j default).day < u.every ∧ ∀ m, j < m → m < l.length → ¬ ((l.getD m default).kind = 6 ∧ (l.getD m default).a = u.ride) := by
  unfold infS at h
  cases hl : lastS (forceB (i : Int) u.ride) l with
  | none => rw [hl, if_pos (.inl rfl)] at h; omega
  | some x =>
    rw [hl] at h
    by_cases h6 : x.kind = 6
    · rw [if_pos (.inr h6)] at h; omega
    · rw [if_neg (by simp [h6])] at h
      obtain ⟨j, h1, h2, hp, h4⟩ := lastS_at hl
      have hx : 0 ≤ x.day ∧ x.day ≤ 10000 := hk.day (by
        rw [← h2, ent_getD h1]; exact List.getElem_mem h1)
      have e1 : wrap64 (x.day + u.every) = x.day + u.every := (i64w _).symm.trans (IntWalk.i64_in _ (by omega))
      have e2 : wrap64 (x.day + u.every - 1) = x.day + u.every - 1 := (i64w _).symm.trans (IntWalk.i64_in _ (by omega))
      simp only [Option.getD_some] at h
      rw [e1, e2] at h
      unfold forceB at hp
      rw [Bool.or_eq_true, Bool.and_eq_true, Bool.and_eq_true] at hp
      rcases hp with hp | hp
      · refine ⟨j, h1, by rw [h2]; exact of_decide_eq_true hp.1, by rw [h2]; exact of_decide_eq_true hp.2, by rw [h2]; omega, fun m h5 h7 h8 => ?_⟩
        have := h4 m h5 h7
        unfold forceB at this
        rw [h8.1, h8.2] at this
        simp at this
      · exact absurd (of_decide_eq_true hp.1) h6
theorem rel_checked {k : BookZ} {l : List EntZ} (hk : LogOk k l) {r : Nat} {d : Int} (hd : 0 ≤ d) (h : (whyS k l r d).length = 0) {i : Nat} (hi : i < k.rules.length) (hr : (k.rules.getD i default).ride = (r : Int)) : ∃ j, j < l.length ∧ (l.getD j default).kind = 1 ∧ (l.getD j default).a = (i : Int) ∧ d - (l.getD j default).day < (k.rules.getD i default).every ∧ ∀ m, j < m → m < l.length → ¬ ((l.getD m default).kind = 6 ∧ (l.getD m default).a = (r : Int)) := by
  have h1 := (why_nil.1 h).1
  have h2 := chkU_le (k := k) (l := l) (r := (r : Int)) _ i hi hr
  have h3 := inf_checked hk (book_rule hk.book hi).2.1 hd (i := i) (by omega)
  rw [hr] at h3
  exact h3
theorem rel_open {k : BookZ} {l : List EntZ} {r : Nat} {d : Int} (h : (whyS k l r d).length = 0) {i : Nat} (ho : openS l (i : Int) = true) : i < l.length ∧ (l.getD i default).kind = 2 ∧ ¬ ((l.getD i default).a = (r : Int) ∧ (l.getD i default).b = 3) := by
  have h1 := openS_kind ho
  refine ⟨h1.1, h1.2, fun hq => ?_⟩
  have h2 := (why_nil.1 h).2.1
  unfold dfvS at h2
  rw [Bool.or_eq_false_iff] at h2
  have h3 := of_decide_eq_false h2.1
  unfold defS at h3
  have hm : (i : Int) ∈ numsL (defP l (r : Int) 3) l.length := numsL_mem.2 ⟨i, h1.1, by unfold defP; rw [ho, decide_eq_true hq.1, decide_eq_true hq.2]; rfl, rfl⟩
  have := List.length_pos_of_mem hm
  omega
end Go.Proofs.Ytaocgkmobfocjaa
