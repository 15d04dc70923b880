/- Plain facts: the reasons, and until when a ride is released, are those of the specification. The example. No program. -/
import Derived.Test.YtaocgkmobfocjaaInl
namespace Go.Proofs.Ytaocgkmobfocjaa
open Go.RowKit
theorem ifc {α : Type} {p q : Prop} [Decidable p] [Decidable q] (h : p ↔ q) (a b : α) : (if p then a else b) = if q then a else b := by
  by_cases hp : p
  · rw [if_pos hp, if_pos (h.1 hp)]
  · rw [if_neg hp, if_neg (fun hq => hp (h.2 hq))]
theorem openS_nat (l : List EntZ) (i : Nat) : openS l (i : Int) = (inB (i : Int) 0 ((l.length : Int) - 1) && (decide ((l.getD i default).kind = 2) && !(lastS (mendB (i : Int)) l).isSome)) := rfl
theorem book_rule {k : BookZ} (h : bookB k = true) {i : Nat} (hi : i < k.rules.length) : (0 ≤ (k.rules.getD i default).ride ∧ (k.rules.getD i default).ride ≤ (k.insured.length : Int) - 1) ∧ (1 ≤ (k.rules.getD i default).every ∧ (k.rules.getD i default).every ≤ 10000) ∧ 0 ≤ (k.rules.getD i default).rank ∧ (k.rules.getD i default).rank ≤ 9 := by
  unfold bookB at h
  simp only [Bool.and_eq_true, List.all_eq_true] at h
  have := h.2.1 _ (List.getElem_mem hi)
  unfold ruleB at this
  simp only [Bool.and_eq_true, inBI] at this
  rw [List.getD_eq_getElem?_getD, List.getElem?_eq_getElem hi]
  exact this
theorem book_lens {k : BookZ} (h : bookB k = true) : k.rules.length ≤ 20 ∧ k.ranks.length ≤ 8 ∧ k.insured.length ≤ 10 := by
  unfold bookB at h
  simp only [Bool.and_eq_true, decide_eq_true_eq] at h
  exact ⟨h.1.1, h.1.2.1, h.1.2.2⟩
theorem book_ins {k : BookZ} (h : bookB k = true) {i : Nat} (hi : i < k.insured.length) : 0 ≤ k.insured.getD i 0 ∧ k.insured.getD i 0 ≤ 10000 := by
  unfold bookB allB at h
  simp only [Bool.and_eq_true, List.all_eq_true] at h
  have := h.2.2.2 _ (List.getElem_mem hi)
  rw [List.getD_eq_getElem?_getD, List.getElem?_eq_getElem hi]
  exact inBI.1 this
theorem chkU_bd {k : BookZ} {l : List EntZ} (h : LogOk k l) (ride : Int) : ∀ {n : Nat}, n ≤ k.rules.length → -1 ≤ chkU k l ride n ∧ chkU k l ride n ≤ 10000 := by
  intro n
  induction n with
  | zero => intro _; show -1 ≤ (10000 : Int) ∧ (10000 : Int) ≤ 10000; omega
  | succ n ih =>
    intro hn
    have a := ih (by omega)
    have b := infS_bd h (i := n) (u := k.rules.getD n default) (book_rule h.book (by omega)).2.1
    simp only [chkU]
    split <;> omega
/-- Whether all checks of a ride are in force. -/
def chkB (k : BookZ) (l : List EntZ) (ride day : Int) : Nat → Bool
  | 0 => true
  | i + 1 => chkB k l ride day i && (decide ((k.rules.getD i default).ride ≠ ride) || frcS l i (k.rules.getD i default) day)
theorem chk_is {k : BookZ} {l : List EntZ} (h : LogOk k l) {ride day : Int} (hd : 0 ≤ day ∧ day ≤ 10000) : ∀ {n : Nat}, n ≤ k.rules.length → chkB k l ride day n = !decide (chkU k l ride n < day) := by
  intro n
  induction n with
  | zero => intro _; simp only [chkB, chkU]; have : ¬ (10000 : Int) < day := by omega
            simp [this]
  | succ n ih =>
    intro hn
    simp only [chkB]
    rw [ih (by omega), frc_inf h (book_rule h.book (by omega)).2.1 hd]
    have e1 : chkU k l ride (n + 1) = if (k.rules.getD n default).ride = ride then min (chkU k l ride n) (infS l n (k.rules.getD n default)) else chkU k l ride n := rfl
    by_cases hr : (k.rules.getD n default).ride = ride
    · rw [if_pos hr] at e1
      rw [e1, show decide ((k.rules.getD n default).ride ≠ ride) = false from decide_eq_false (fun q => q hr), Bool.eq_iff_iff]
      generalize infS l n (k.rules.getD n default) = z
      generalize chkU k l ride n = y
      simp
      omega
    · rw [if_neg hr] at e1
      rw [e1, decide_eq_true hr]
      simp
/-- The reasons, as the specification finds them. -/
def reaS (k : BookZ) (l : List EntZ) (ride : Nat) (day : Int) : List Int :=
  (((if chkB k l ride day k.rules.length = false then [1] else []) ++ if 0 < manN l ride 3 l.length ∨ 1 < manN l ride 2 l.length then [2] else []) ++ if tstL l ride day = false then [3] else []) ++ if insL k l ride < day then [4] else []
theorem dfv_is (l : List EntZ) (ride : Int) : dfvS l ride = true ↔ 0 < manN l ride 3 l.length ∨ 1 < manN l ride 2 l.length := by
  unfold dfvS defS
  rw [manN_is, manN_is, Bool.or_eq_true]
  simp
theorem rea_why {k : BookZ} {l : List EntZ} (h : LogOk k l) {ride : Nat} {day : Int} (hd : 0 ≤ day ∧ day ≤ 10000) (hx : ∀ x ∈ l, x.day ≤ day) : reaS k l ride day = whyS k l ride day := by
  unfold reaS whyS
  rw [chk_is h hd (Nat.le_refl _), insL_is, (tst_is h hx).1]
  have e1 : (!decide (chkU k l ride k.rules.length < day)) = false ↔ chkU k l ride k.rules.length < day := by simp
  rw [ifc e1, ifc (dfv_is l (ride : Int))]
/-- The entry of a test. -/
def tstE (ride : Nat) (d : Int) : EntZ := ⟨d, 4, ride, 0, 0⟩
theorem openS_snoc4 {l : List EntZ} {x : EntZ} (h4 : x.kind ≠ 2 ∧ x.kind ≠ 3) (i : Nat) : openS (l ++ [x]) (i : Int) = openS l (i : Int) := by
  rw [openS_nat, openS_nat]
  have hm : mendB (i : Int) x = false := by simp [mendB, h4.2]
  rw [lastS_snoc, if_neg (by rw [hm]; decide)]
  rw [List.length_append, List.length_singleton]
  rcases Nat.lt_trichotomy i l.length with hi | hi | hi
  · have e1 : inB (i : Int) 0 (((l.length + 1 : Nat) : Int) - 1) = true := by rw [inBI]; omega
    have e2 : inB (i : Int) 0 ((l.length : Int) - 1) = true := by rw [inBI]; omega
    have e3 : (l ++ [x]).getD i default = l.getD i default := by rw [List.getD_eq_getElem?_getD, List.getElem?_append_left hi, ← List.getD_eq_getElem?_getD]
    rw [e1, e2, e3]
  · have e2 : inB (i : Int) 0 ((l.length : Int) - 1) = false := by rw [← Bool.not_eq_true, inBI]; omega
    rw [e2]
    have e3 : (l ++ [x]).getD i default = x := by rw [List.getD_eq_getElem?_getD, List.getElem?_append_right (by omega), hi]; simp
    rw [e3]
    simp [h4.1]
  · have e1 : inB (i : Int) 0 (((l.length + 1 : Nat) : Int) - 1) = false := by rw [← Bool.not_eq_true, inBI]; omega
    have e2 : inB (i : Int) 0 ((l.length : Int) - 1) = false := by rw [← Bool.not_eq_true, inBI]; omega
    rw [e1, e2]; rfl
theorem getD_snoc {l : List EntZ} {x : EntZ} {i : Nat} (hi : i < l.length) : (l ++ [x]).getD i default = l.getD i default := by
  rw [List.getD_eq_getElem?_getD, List.getElem?_append_left hi, ← List.getD_eq_getElem?_getD]
theorem manN_snoc {l : List EntZ} {x : EntZ} (h4 : x.kind ≠ 2 ∧ x.kind ≠ 3) (ride sev : Int) : ∀ {n}, n ≤ l.length → manN (l ++ [x]) ride sev n = manN l ride sev n := by
  intro n
  induction n with
  | zero => intro _; rfl
  | succ n ih =>
    intro hn
    simp only [manN]
    rw [ih (by omega), getD_snoc (by omega), openS_snoc4 h4]
theorem manN_all {l : List EntZ} {x : EntZ} (h4 : x.kind ≠ 2 ∧ x.kind ≠ 3) (ride sev : Int) : manN (l ++ [x]) ride sev (l ++ [x]).length = manN l ride sev l.length := by
  rw [List.length_append, List.length_singleton]
  simp only [manN]
  rw [manN_snoc h4 ride sev (Nat.le_refl _), openS_snoc4 h4, if_neg]
  · omega
  · rintro ⟨_, _, h, _⟩
    have := (openS_kind h).1
    omega
theorem frcS_test {l : List EntZ} {x : EntZ} (h4 : x.kind ≠ 1 ∧ x.kind ≠ 6) (i : Nat) (u : RuZ) (day : Int) : frcS (l ++ [x]) i u day = frcS l i u day := by
  have e : frcL (l ++ [x]) i u.ride = frcL l i u.ride := by
    unfold frcL
    rw [List.foldl_append]
    simp only [List.foldl_cons, List.foldl_nil]
    unfold frcF
    rw [if_neg (fun h => h4.2 h.1), if_neg (fun h => h4.1 h.1)]
  unfold frcS
  rw [e]
theorem chkB_test {k : BookZ} {l : List EntZ} {x : EntZ} (h4 : x.kind ≠ 1 ∧ x.kind ≠ 6) (ride day : Int) : ∀ n, chkB k (l ++ [x]) ride day n = chkB k l ride day n := by
  intro n
  induction n with
  | zero => rfl
  | succ n ih => simp only [chkB]; rw [ih, frcS_test h4]
/-- The reasons if there is a test. -/
def reaT (k : BookZ) (l : List EntZ) (ride : Nat) (d : Int) : List Int :=
  ((if chkU k l ride k.rules.length < d then [1] else []) ++ if dfvS l ride = true then [2] else []) ++ if insS k l ride < d then [4] else []
theorem rea_test {k : BookZ} {l : List EntZ} (h : LogOk k l) {ride : Nat} {d : Int} (hd : 0 ≤ d ∧ d ≤ 10000) : reaS k (l ++ [tstE ride d]) ride d = reaT k l ride d := by
  unfold reaS reaT
  rw [chkB_test (by simp [tstE]), chk_is h hd (Nat.le_refl _), manN_all (by simp [tstE]), manN_all (by simp [tstE])]
  have e0 : tstL (l ++ [tstE ride d]) ride d = true := by
    unfold tstL
    rw [List.foldl_append]
    simp [tstF, tstE]
  have e4 : insL k (l ++ [tstE ride d]) ride = insS k l ride := by
    rw [← insL_is]
    unfold insL
    rw [List.foldl_append]
    simp [insF, tstE]
  rw [e0, e4]
  have e1 : (!decide (chkU k l ride k.rules.length < d)) = false ↔ chkU k l ride k.rules.length < d := by simp
  rw [ifc e1, if_neg (show ¬ true = false by decide), ifc (dfv_is l (ride : Int)), List.append_nil]
theorem reaT_nil {k : BookZ} {l : List EntZ} {ride : Nat} {d : Int} : reaT k l ride d = [] ↔ d ≤ min (chkU k l ride k.rules.length) (insS k l ride) ∧ dfvS l ride = false := by
  unfold reaT
  by_cases h1 : chkU k l ride k.rules.length < d <;> by_cases h2 : dfvS l ride = true <;> by_cases h3 : insS k l ride < d <;> simp [h1, h2, h3] <;> omega
/-- Where the days end on which a ride is released with the tests of each day. -/
theorem unt_loop {k : BookZ} {l : List EntZ} (h : LogOk k l) {ride : Nat} {day d : Int} (hd : day ≤ d) (h0 : 0 ≤ day) (hall : ∀ x, day ≤ x → x < d → reaT k l ride x = []) (hend : d = 10001 ∨ reaT k l ride d ≠ []) :
    untS k l ride day = if d = day then (0, 3) else (d - 1, 0) := by
  have hb := chkU_bd h (ride : Int) (Nat.le_refl k.rules.length)
  unfold untS
  by_cases he : d = day
  · subst he
    rw [if_pos rfl, if_pos]
    rcases hend with h1 | h1
    · omega
    · rw [Ne, reaT_nil] at h1
      by_cases h2 : dfvS l ride = true
      · exact .inr h2
      · refine .inl ?_
        rcases Int.lt_or_le (min (chkU k l ride k.rules.length) (insS k l ride)) d with h3 | h3
        · exact h3
        · exact absurd ⟨h3, by simpa using h2⟩ h1
  · rw [if_neg he]
    have h1 := reaT_nil.1 (hall day (Int.le_refl _) (by omega))
    have h2 := reaT_nil.1 (hall (d - 1) (by omega) (by omega))
    rw [if_neg]
    · rcases hend with h3 | h3
      · have : min (chkU k l ride k.rules.length) (insS k l ride) = d - 1 := by omega
        rw [this]
      · rw [Ne, reaT_nil] at h3
        have h4 : ¬ d ≤ min (chkU k l ride k.rules.length) (insS k l ride) := fun h4 => h3 ⟨h4, h1.2⟩
        have : min (chkU k l ride k.rules.length) (insS k l ride) = d - 1 := by omega
        rw [this]
    · rintro (h3 | h3)
      · omega
      · rw [h1.2] at h3; cases h3
/-- The example's book and entries. -/
def exB : BookZ := ⟨[⟨0, 30, 2, false⟩, ⟨0, 7, 1, true⟩], [2, 1, 1], [100, 50]⟩
def exL : List EntZ := [⟨1, 1, 0, 0, -1⟩, ⟨1, 1, 1, 1, 2⟩, ⟨3, 2, 0, 2, 0⟩, ⟨4, 4, 0, 1, 0⟩, ⟨5, 3, 2, 0, 0⟩]
theorem ex_ok : LogOk exB exL := chkR_ok.1 (by decide +kernel)
theorem ex_whys : numsL (fun r => (whyS exB (upL exL 4) r 4).isEmpty) 2 = [0] := by decide +kernel
theorem ex_unt : untS exB (upL exL 4) 0 4 = (7, 0) := by decide +kernel
theorem ex_up : upL exL 4 = exL.take 4 := by decide +kernel
end Go.Proofs.Ytaocgkmobfocjaa
