/- Plain functions and facts of layer 3 (force): the worst that is felt, the fastest speed. No program, no memory. -/
import Derived.Test.YtkmiapfkebdpbaaZd
namespace Go.Proofs.Ytkmiapfkebdpbaa
open Go.RowKit

structure Wst where
  side : Int
  low : Int
  high : Int
def wstep (t : List Pt) (w : Wst) (c : Chg) : Wst := ⟨max w.side (sideZ (feltZ t c)), min w.low (feltZ t c).z, max w.high (feltZ t c).z⟩
/-- As the program finds it: from beyond all that is felt. -/
def worstP (t : List Pt) (l : List Chg) : Wst := l.foldl (wstep t) ⟨0, 9223372036854775807, -9223372036854775808⟩
/-- As the specification finds it: the first one sets low and high. -/
def worstR (t : List Pt) : List Chg → Wst
  | [] => ⟨0, 0, 0⟩
  | c :: l => l.foldl (wstep t) (wstep t ⟨0, (feltZ t c).z, (feltZ t c).z⟩ c)
theorem worst_eq (t : List Pt) (l : List Chg) (hne : l ≠ []) (hb : ∀ c ∈ l, -9223372036854775808 ≤ (feltZ t c).z ∧ (feltZ t c).z ≤ 9223372036854775807) : worstP t l = worstR t l := by
  cases l with
  | nil => exact absurd rfl hne
  | cons c l =>
    simp only [worstP, worstR, List.foldl_cons]
    have h := hb c List.mem_cons_self
    have e : wstep t ⟨0, 9223372036854775807, -9223372036854775808⟩ c = wstep t ⟨0, (feltZ t c).z, (feltZ t c).z⟩ c := by
      simp only [wstep, Wst.mk.injEq, true_and]
      omega
    rw [e]
theorem wfold_all (t : List Pt) (l : List Chg) : ∀ w : Wst, (l.foldl (wstep t) w).side ≥ w.side ∧ (l.foldl (wstep t) w).low ≤ w.low ∧ (l.foldl (wstep t) w).high ≥ w.high ∧
    (∀ c ∈ l, sideZ (feltZ t c) ≤ (l.foldl (wstep t) w).side ∧ (l.foldl (wstep t) w).low ≤ (feltZ t c).z ∧ (feltZ t c).z ≤ (l.foldl (wstep t) w).high) := by
  induction l with
  | nil => intro w; exact ⟨Int.le_refl _, Int.le_refl _, Int.le_refl _, fun c h => by cases h⟩
  | cons y l ih =>
    intro w
    obtain ⟨h1, h2, h3, h4⟩ := ih (wstep t w y)
    simp only [List.foldl_cons]
    have s1 : (wstep t w y).side ≥ w.side ∧ sideZ (feltZ t y) ≤ (wstep t w y).side := by simp only [wstep]; omega
    have s2 : (wstep t w y).low ≤ w.low ∧ (wstep t w y).low ≤ (feltZ t y).z := by simp only [wstep]; omega
    have s3 : (wstep t w y).high ≥ w.high ∧ (feltZ t y).z ≤ (wstep t w y).high := by simp only [wstep]; omega
    refine ⟨by omega, by omega, by omega, fun c hc => ?_⟩
    rcases List.mem_cons.1 hc with rfl | hc
    · omega
    · exact h4 c hc
theorem wfold_is (t : List Pt) (l : List Chg) : ∀ w : Wst, ((l.foldl (wstep t) w).side = w.side ∨ ∃ c ∈ l, (l.foldl (wstep t) w).side = sideZ (feltZ t c)) ∧
    ((l.foldl (wstep t) w).low = w.low ∨ ∃ c ∈ l, (l.foldl (wstep t) w).low = (feltZ t c).z) ∧ ((l.foldl (wstep t) w).high = w.high ∨ ∃ c ∈ l, (l.foldl (wstep t) w).high = (feltZ t c).z) := by
  induction l with
  | nil => intro w; exact ⟨.inl rfl, .inl rfl, .inl rfl⟩
  | cons y l ih =>
    intro w
    obtain ⟨h1, h2, h3⟩ := ih (wstep t w y)
    simp only [List.foldl_cons]
    refine ⟨?_, ?_, ?_⟩
    · rcases h1 with h | ⟨c, hc, h⟩
      · rcases Int.le_total w.side (sideZ (feltZ t y)) with hl | hl
        · exact .inr ⟨y, List.mem_cons_self, by rw [h]; simp only [wstep]; omega⟩
        · exact .inl (by rw [h]; simp only [wstep]; omega)
      · exact .inr ⟨c, List.mem_cons_of_mem _ hc, h⟩
    · rcases h2 with h | ⟨c, hc, h⟩
      · rcases Int.le_total w.low (feltZ t y).z with hl | hl
        · exact .inl (by rw [h]; simp only [wstep]; omega)
        · exact .inr ⟨y, List.mem_cons_self, by rw [h]; simp only [wstep]; omega⟩
      · exact .inr ⟨c, List.mem_cons_of_mem _ hc, h⟩
    · rcases h3 with h | ⟨c, hc, h⟩
      · rcases Int.le_total w.high (feltZ t y).z with hl | hl
        · exact .inr ⟨y, List.mem_cons_self, by rw [h]; simp only [wstep]; omega⟩
        · exact .inl (by rw [h]; simp only [wstep]; omega)
      · exact .inr ⟨c, List.mem_cons_of_mem _ hc, h⟩
theorem chgs_ne (n top step : Nat) (hn : 0 < n) : chgs n top step ≠ [] := fun h => by
  have : (⟨0, 0, 0⟩ : Chg) ∈ chgs n top step := by rw [mem_chgs]; dsimp only; omega
  rw [h] at this
  cases this
/-- The limits are about the worst that is felt. -/
theorem worst_keeps (t : List Pt) (top step : Nat) (x : Lim) (hn : 0 < t.length) (hx : 0 ≤ x.side * x.side) (hb : ∀ c ∈ chgs t.length top step, -9223372036854775808 ≤ (feltZ t c).z ∧ (feltZ t c).z ≤ 9223372036854775807) :
    (keepsZ t top step x).2 = true ↔ (worstP t (chgs t.length top step)).side ≤ x.side * x.side ∧ x.low ≤ (worstP t (chgs t.length top step)).low ∧ (worstP t (chgs t.length top step)).high ≤ x.high := by
  rw [keepsZ_true]
  have hne := chgs_ne t.length top step hn
  obtain ⟨_, _, _, h4⟩ := wfold_all t (chgs t.length top step) ⟨0, 9223372036854775807, -9223372036854775808⟩
  obtain ⟨i1, i2, i3⟩ := wfold_is t (chgs t.length top step) ⟨0, 9223372036854775807, -9223372036854775808⟩
  unfold worstP
  generalize (chgs t.length top step).foldl (wstep t) ⟨0, 9223372036854775807, -9223372036854775808⟩ = w at *
  constructor
  · intro h
    have hk : ∀ c ∈ chgs t.length top step, sideZ (feltZ t c) ≤ x.side * x.side ∧ x.low ≤ (feltZ t c).z ∧ (feltZ t c).z ≤ x.high := fun c hc => by
      have := h c hc
      simp only [keptB, Bool.and_eq_true, decide_eq_true_eq] at this
      exact ⟨this.1.1, this.1.2, this.2⟩
    refine ⟨?_, ?_, ?_⟩
    · rcases i1 with h1 | ⟨c, hc, h1⟩
      · rw [h1]; exact hx
      · have := (hk c hc).1; omega
    · rcases i2 with h1 | ⟨c, hc, h1⟩
      · obtain ⟨c, l, hcl⟩ : ∃ c l, chgs t.length top step = c :: l := by
          cases hch : chgs t.length top step with
          | nil => exact absurd hch hne
          | cons c l => exact ⟨c, l, rfl⟩
        have hm : c ∈ chgs t.length top step := by rw [hcl]; exact List.mem_cons_self
        have q1 := h4 c hm; have q2 := hb c hm; have q3 := hk c hm
        dsimp only at h1
        omega
      · have := (hk c hc).2.1; omega
    · rcases i3 with h1 | ⟨c, hc, h1⟩
      · obtain ⟨c, l, hcl⟩ : ∃ c l, chgs t.length top step = c :: l := by
          cases hch : chgs t.length top step with
          | nil => exact absurd hch hne
          | cons c l => exact ⟨c, l, rfl⟩
        have hm : c ∈ chgs t.length top step := by rw [hcl]; exact List.mem_cons_self
        have q1 := h4 c hm; have q2 := hb c hm; have q3 := hk c hm
        dsimp only at h1
        omega
      · have := (hk c hc).2.2; omega
  · rintro ⟨g1, g2, g3⟩ c hc
    obtain ⟨q1, q2, q3⟩ := h4 c hc
    simp only [keptB, Bool.and_eq_true, decide_eq_true_eq]
    omega
/-- The greatest speed, from k down, with which a limit is kept; 0: none. -/
def fastZ (t : List Pt) (step : Nat) (x : Lim) : Nat → Nat
  | 0 => 0
  | k + 1 => if (keepsZ t (k + 1) step x).2 = true then k + 1 else fastZ t step x k
theorem fastZ_le (t : List Pt) (step : Nat) (x : Lim) : ∀ k, fastZ t step x k ≤ k := by
  intro k
  induction k with
  | zero => exact Nat.le_refl _
  | succ k ih => simp only [fastZ]; split <;> omega
theorem fastZ_keeps (t : List Pt) (step : Nat) (x : Lim) : ∀ k, 0 < fastZ t step x k → (keepsZ t (fastZ t step x k) step x).2 = true := by
  intro k
  induction k with
  | zero => intro h; simp [fastZ] at h
  | succ k ih =>
    simp only [fastZ]
    split
    · intro _; assumption
    · exact ih
theorem fastZ_more (t : List Pt) (step : Nat) (x : Lim) : ∀ k j, fastZ t step x k < j → j ≤ k → (keepsZ t j step x).2 = false := by
  intro k
  induction k with
  | zero => intro j h1 h2; omega
  | succ k ih =>
    intro j h1 h2
    simp only [fastZ] at h1
    split at h1
    · omega
    · rename_i hk
      rcases Nat.lt_or_ge k j with h | h
      · have : j = k + 1 := by omega
        subst this
        simpa using hk
      · exact ih j h1 h
end Go.Proofs.Ytkmiapfkebdpbaa
