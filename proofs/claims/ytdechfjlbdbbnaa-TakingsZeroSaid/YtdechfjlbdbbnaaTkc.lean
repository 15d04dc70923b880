/- Plain facts: brackets, the tax of an amount, the least amount of which so much is left. No program. -/
import Derived.Test.YtdechfjlbdbbnaaSpec
namespace Go.Proofs.Ytdechfjlbdbbnaa

structure BrZ where
  frm : Int
  pct : Int
deriving Inhabited, DecidableEq
def brAt (l : List BrZ) (i : Nat) : BrZ := l[i]?.getD ⟨0, 0⟩
def brOne (l : List BrZ) (i : Nat) : Bool := inB (brAt l i).frm 0 1000000000 && inB (brAt l i).pct 0 100 && (decide (i = 0) || decide ((brAt l (i - 1)).frm < (brAt l i).frm))
def brAll (l : List BrZ) : Nat → Bool
  | 0 => true
  | k + 1 => brAll l k && brOne l k
/-- Valid brackets. -/
def brB (l : List BrZ) : Bool := inB l.length 1 8 && decide ((brAt l 0).frm = 0) && brAll l l.length
/-- How much of an amount lies in a bracket. -/
def clipT (c : Int) (l : List BrZ) (i : Nat) : Int := max 0 ((if i + 1 < l.length then min c (brAt l (i + 1)).frm else c) - (brAt l i).frm)
def sumC (c : Int) (l : List BrZ) : Nat → Int
  | 0 => 0
  | k + 1 => sumC c l k + clipT c l k
def sumT (c : Int) (l : List BrZ) : Nat → Int
  | 0 => 0
  | k + 1 => sumT c l k + clipT c l k * (brAt l k).pct
def taxZ (c : Int) (l : List BrZ) : Int := sumT c l l.length / 100

structure BrOk (l : List BrZ) : Prop where
  l1 : 1 ≤ l.length
  l8 : l.length ≤ 8
  zero : (brAt l 0).frm = 0
  frm : ∀ i, i < l.length → 0 ≤ (brAt l i).frm ∧ (brAt l i).frm ≤ 1000000000
  pct : ∀ i, i < l.length → 0 ≤ (brAt l i).pct ∧ (brAt l i).pct ≤ 100
  up : ∀ i, i + 1 < l.length → (brAt l i).frm < (brAt l (i + 1)).frm

theorem brAll_at {l : List BrZ} : ∀ {k : Nat}, brAll l k = true → ∀ i, i < k → brOne l i = true := by
  intro k
  induction k with
  | zero => intro _ i hi; omega
  | succ k ih =>
    intro h i hi
    simp only [brAll, Bool.and_eq_true] at h
    by_cases e : i = k
    · subst e; exact h.2
    · exact ih h.1 i (by omega)
theorem brAll_out {l : List BrZ} {k : Nat} (h : brOne l k = false) : ∀ m, k < m → brAll l m = false := by
  intro m hm
  cases hc : brAll l m with
  | false => rfl
  | true => rw [brAll_at hc k hm] at h; cases h
theorem brB_ok {l : List BrZ} (h : brB l = true) : BrOk l := by
  unfold brB inB at h
  simp only [Bool.and_eq_true, decide_eq_true_eq] at h
  obtain ⟨⟨⟨h1, h2⟩, h3⟩, h4⟩ := h
  have a := brAll_at h4
  refine ⟨by omega, by omega, h3, fun i hi => ?_, fun i hi => ?_, fun i hi => ?_⟩
  · have := a i hi; unfold brOne inB at this; simp only [Bool.and_eq_true, decide_eq_true_eq] at this; exact this.1.1
  · have := a i hi; unfold brOne inB at this; simp only [Bool.and_eq_true, decide_eq_true_eq] at this; exact this.1.2
  · have := a (i + 1) hi; unfold brOne inB at this; simp only [Bool.and_eq_true, decide_eq_true_eq, Bool.or_eq_true, Nat.add_sub_cancel] at this
    rcases this.2 with h | h
    · omega
    · exact h

theorem clip_mono {c d : Int} (hcd : c ≤ d) (l : List BrZ) (i : Nat) : clipT c l i ≤ clipT d l i := by
  unfold clipT
  split <;> omega
section
variable {l : List BrZ} (h : BrOk l)
include h
theorem sumC_eq {c : Int} (hc : 0 ≤ c) : ∀ k, k ≤ l.length → sumC c l k = if k < l.length then min c (brAt l k).frm else c := by
  intro k
  induction k with
  | zero =>
    intro _
    rw [if_pos (by have := h.l1; omega), h.zero]
    simp only [sumC]; omega
  | succ k ih =>
    intro hk
    have hu := fun hh => h.up k hh
    simp only [sumC]
    rw [ih (by omega), if_pos (by omega)]
    unfold clipT
    by_cases e : k + 1 < l.length
    · rw [if_pos e]
      have := hu e
      omega
    · rw [if_neg e]; omega
theorem sum_grow {c d : Int} (hcd : c ≤ d) : ∀ k, k ≤ l.length → 0 ≤ sumT d l k - sumT c l k ∧ sumT d l k - sumT c l k ≤ 100 * (sumC d l k - sumC c l k) := by
  intro k
  induction k with
  | zero => intro _; simp [sumT, sumC]
  | succ k ih =>
    intro hk
    obtain ⟨i1, i2⟩ := ih (by omega)
    have hm := clip_mono hcd l k
    have hp := h.pct k (by omega)
    simp only [sumT, sumC]
    have a : 0 ≤ (clipT d l k - clipT c l k) * (brAt l k).pct := Int.mul_nonneg (by omega) hp.1
    have b : (clipT d l k - clipT c l k) * (brAt l k).pct ≤ (clipT d l k - clipT c l k) * 100 := Int.mul_le_mul_of_nonneg_left hp.2 (by omega)
    rw [Int.sub_mul] at a b
    omega
theorem sumT_zero : ∀ k, k ≤ l.length → sumT 0 l k = 0 := by
  intro k
  induction k with
  | zero => intro _; rfl
  | succ k ih =>
    intro hk
    have e : clipT 0 l k = 0 := by
      have := (h.frm k (by omega)).1
      unfold clipT
      split
      · have := (h.frm (k + 1) (by omega)).1; omega
      · omega
    simp only [sumT]
    rw [ih (by omega), e]; omega
theorem sumT_bd {c : Int} (h0 : 0 ≤ c) (h1 : c ≤ 1000000000) : ∀ k, k ≤ l.length → 0 ≤ sumT c l k ∧ sumT c l k ≤ 100 * (k * 1000000000) := by
  intro k
  induction k with
  | zero => intro _; simp [sumT]
  | succ k ih =>
    intro hk
    obtain ⟨i1, i2⟩ := ih (by omega)
    have hp := h.pct k (by omega)
    have hc : 0 ≤ clipT c l k ∧ clipT c l k ≤ 1000000000 := by
      have := (h.frm k (by omega)).1
      unfold clipT; split <;> omega
    have a : 0 ≤ clipT c l k * (brAt l k).pct := Int.mul_nonneg hc.1 hp.1
    have b : clipT c l k * (brAt l k).pct ≤ 1000000000 * 100 := Int.mul_le_mul hc.2 hp.2 hp.1 (by decide)
    simp only [sumT]
    omega
theorem tax_both {c d : Int} (hc : 0 ≤ c) (hcd : c ≤ d) : taxZ c l ≤ taxZ d l ∧ taxZ d l - taxZ c l ≤ d - c := by
  have g := sum_grow h hcd l.length (Nat.le_refl _)
  rw [sumC_eq h hc l.length (Nat.le_refl _), sumC_eq h (c := d) (by omega) l.length (Nat.le_refl _), if_neg (by omega), if_neg (by omega)] at g
  unfold taxZ
  omega
theorem tax_le {c : Int} (hc : 0 ≤ c) : 0 ≤ taxZ c l ∧ taxZ c l ≤ c := by
  have e : taxZ 0 l = 0 := by unfold taxZ; rw [sumT_zero h _ (Nat.le_refl _)]; rfl
  have := tax_both h (c := 0) (d := c) (by omega) hc
  omega
end

/-- r is the least amount of which so much is left (or one more than all amounts). -/
def NetIs (l : List BrZ) (want r : Int) : Prop := 0 ≤ r ∧ r ≤ 1000000001 ∧ (r ≤ 1000000000 → want ≤ r - taxZ r l) ∧ (0 < r → (r - 1) - taxZ (r - 1) l < want)
theorem NetIs.uniq {l : List BrZ} (h : BrOk l) {want r s : Int} (hr : NetIs l want r) (hs : NetIs l want s) : r = s := by
  have key : ∀ {a b : Int}, NetIs l want a → NetIs l want b → ¬ a < b := by
    intro a b ha hb hab
    have h1 := ha.2.2.1 (by have := hb.2.1; omega)
    have h2 := hb.2.2.2 (by have := ha.1; omega)
    have := tax_both h ha.1 (show a ≤ b - 1 by omega)
    omega
  have a := key hr hs
  have b := key hs hr
  omega
/-- What Net returns. -/
def NetR (want : Int) (l : List BrZ) (n e : Int) : Prop :=
  if inB want 0 1000000000 = false then n = 0 ∧ e = 1 else if brB l = false then n = 0 ∧ e = 110 else
  ∃ r, NetIs l want r ∧ ((1000000000 < r ∧ n = 0 ∧ e = 3) ∨ (r ≤ 1000000000 ∧ n = r ∧ e = 0))
theorem NetR.uniq {l : List BrZ} {want n e m f : Int} (a : NetR want l n e) (b : NetR want l m f) : n = m ∧ e = f := by
  unfold NetR at a b
  by_cases h1 : inB want 0 1000000000 = false
  · rw [if_pos h1] at a b; omega
  rw [if_neg h1] at a b
  by_cases h2 : brB l = false
  · rw [if_pos h2] at a b; omega
  rw [if_neg h2] at a b
  obtain ⟨r, ha, hra⟩ := a
  obtain ⟨s, hb, hrb⟩ := b
  have := ha.uniq (brB_ok (by simpa using h2)) hb
  omega
/-- What Tax returns. -/
def taxR (c : Int) (l : List BrZ) : Int × Int := if inB c 0 1000000000 = false then (0, 1) else if brB l = false then (0, 110) else (taxZ c l, 0)
/-- At the chapter's example. -/
def exBr : List BrZ := [⟨0, 10⟩, ⟨1000, 20⟩]
theorem ex_net {n e : Int} (h : NetR 2500 exBr n e) : n = 2999 ∧ e = 0 := by
  have hb : brB exBr = true := by decide +kernel
  have h2 : NetR 2500 exBr 2999 0 := by
    unfold NetR
    rw [if_neg (by decide +kernel), if_neg (by rw [hb]; decide)]
    refine ⟨2999, ⟨by decide, by decide, fun _ => ?_, fun _ => ?_⟩, .inr ⟨by decide, rfl, rfl⟩⟩
    · have : taxZ 2999 exBr = 499 := by decide +kernel
      rw [this]; decide
    · have : taxZ (2999 - 1) exBr = 499 := by decide +kernel
      rw [this]; decide
  exact h.uniq h2
end Go.Proofs.Ytdechfjlbdbbnaa
