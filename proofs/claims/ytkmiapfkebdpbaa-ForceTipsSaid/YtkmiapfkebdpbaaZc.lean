/- Plain functions and facts of layer 3 (force): runs and stops of a motor. No program, no memory. -/
import Derived.Test.YtkmiapfkebdpbaaZb
namespace Go.Proofs.Ytkmiapfkebdpbaa
open Go.RowKit

/-- What a rider feels at a phase that may lie before the first one or behind the last one. -/
def feltI (t : List Pt) (ph bf af : Int) : Pt :=
  let a := ptAt t ((ph + af) % (t.length : Int)).toNat
  let b := ptAt t (ph % (t.length : Int)).toNat
  let d := ptAt t ((ph - bf) % (t.length : Int)).toNat
  ⟨a.x - 2 * b.x + d.x, a.y - 2 * b.y + d.y, a.z - 2 * b.z + d.z + 1000⟩
theorem feltI_nat (t : List Pt) (c : Chg) (hp : c.ph < t.length) : feltI t c.ph c.bf c.af = feltZ t c := by
  have e1 : (((c.ph : Int) + (c.af : Int)) % (t.length : Int)).toNat = (c.ph + c.af) % t.length := by
    rw [← Int.natCast_add, ← Int.natCast_emod, Int.toNat_natCast]
  have e2 : ((c.ph : Int) % (t.length : Int)).toNat = c.ph := by
    rw [← Int.natCast_emod, Int.toNat_natCast, Nat.mod_eq_of_lt hp]
  unfold feltI feltZ
  rw [e1, e2]
theorem feltI_mod (t : List Pt) (ph bf af : Int) : feltI t (ph % (t.length : Int)) bf af = feltI t ph bf af := by
  unfold feltI
  rw [Int.emod_add_emod, Int.emod_emod, Int.emod_sub_emod]
/-- What a rider feels at each change of a run that goes on from a phase and a speed. -/
def runI (t : List Pt) : List Int → Int → Int → List Pt
  | [], _, _ => []
  | s :: l, ph, bf => feltI t ph bf s :: runI t l (ph + s) s
theorem runI_length (t : List Pt) (l : List Int) : ∀ ph bf, (runI t l ph bf).length = l.length := by
  induction l with
  | nil => intro ph bf; rfl
  | cons s l ih => intro ph bf; simp [runI, ih]
/-- The phase may be taken round the path at any time. -/
theorem runI_mod (t : List Pt) (l : List Int) : ∀ ph bf, runI t l (ph % (t.length : Int)) bf = runI t l ph bf := by
  induction l with
  | nil => intro ph bf; rfl
  | cons s l ih =>
    intro ph bf
    simp only [runI, feltI_mod]
    rw [← ih (ph % (t.length : Int) + s), ← ih (ph + s), Int.emod_add_emod]
/-- Whether a motor can have a speed behind another one. -/
def canB (top ease bf s : Int) : Bool := decide (0 ≤ s) && decide (s ≤ top) && decide (bf - ease ≤ s) && decide (s ≤ bf + ease)
/-- The number of the first speed that the motor cannot have. -/
def badN (top ease : Int) : List Int → Int → Option Nat
  | [], _ => none
  | s :: l, bf => if canB top ease bf s then (badN top ease l s).map (· + 1) else some 0
/-- If a limit is kept at all changes, no run that is possible leaves it. -/
theorem run_kept {t : List Pt} {top ease : Nat} {x : Lim} (ht : 0 < t.length) (h : (keepsZ t top ease x).2 = true) (l : List Int) : ∀ ph bf : Int, 0 ≤ bf → bf ≤ top → badN top ease l bf = none → ∀ p ∈ runI t l ph bf, keptB x p = true := by
  rw [keepsZ_true] at h
  induction l with
  | nil => intro ph bf _ _ _ p hp; cases hp
  | cons s l ih =>
    intro ph bf h0 h1 hb p hp
    simp only [badN] at hb
    by_cases hc : canB top ease bf s = true
    · rw [if_pos hc] at hb
      have hb' : badN top ease l s = none := by simpa using hb
      simp only [canB, Bool.and_eq_true, decide_eq_true_eq] at hc
      rcases List.mem_cons.1 hp with rfl | hp
      · have hpos : 0 ≤ ph % (t.length : Int) := Int.emod_nonneg _ (by omega)
        have hlt : ph % (t.length : Int) < t.length := Int.emod_lt_of_pos _ (by omega)
        have e := feltI_nat t ⟨(ph % (t.length : Int)).toNat, bf.toNat, s.toNat⟩ (by dsimp only; omega)
        dsimp only at e
        rw [Int.toNat_of_nonneg hpos, Int.toNat_of_nonneg h0, Int.toNat_of_nonneg hc.1.1.1, feltI_mod] at e
        rw [e]
        exact h _ (by rw [mem_chgs]; dsimp only; omega)
      · exact ih (ph + s) s (by omega) (by omega) hb' p hp
    · rw [if_neg hc] at hb; cases hb
/-- The speeds with which a motor stops. -/
def stopL (ease : Nat) : Nat → Nat → List Nat
  | 0, _ => []
  | f + 1, s => if 0 < s then (s - ease) :: stopL ease f (s - ease) else []
theorem stopL_last (ease : Nat) (he : 0 < ease) : ∀ f s, s ≤ f → ∀ i, i < (stopL ease f s).length → (stopL ease f s)[i]? = some (s - (i + 1) * ease) ∧ i * ease < s := by
  intro f
  induction f with
  | zero => intro s hs i hi; simp [stopL] at hi
  | succ f ih =>
    intro s hs i hi
    simp only [stopL] at hi ⊢
    by_cases h : 0 < s
    · rw [if_pos h] at hi ⊢
      cases i with
      | zero => simp; omega
      | succ i =>
        obtain ⟨h1, h2⟩ := ih (s - ease) (by omega) i (by simpa using hi)
        have e : (i + 1 + 1) * ease = (i + 1) * ease + ease := Nat.succ_mul _ _
        have e2 : (i + 1) * ease = i * ease + ease := Nat.succ_mul _ _
        rw [List.getElem?_cons_succ, h1]
        refine ⟨?_, by omega⟩
        congr 1
        omega
    · rw [if_neg h] at hi; simp at hi
end Go.Proofs.Ytkmiapfkebdpbaa
