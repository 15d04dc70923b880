/- Plain facts: what cheapest computes for the chapter's example. No program, no memory. -/
import Derived.Test.YtpcceankhgjjmaaWs
namespace Go.Proofs.Ytpcceankhgjjmaa
open Go.RowKit

def exB : List Bundle := [⟨1, 200⟩, ⟨6, 1000⟩]
def fEx (t : Nat) : Way := ⟨true, ((1000 * (t / 6) + 200 * (t % 6) : Nat) : Int), if t % 6 = 0 ∧ 0 < t then 1 else 0⟩
theorem ways_ex (most : Nat) (hm : most ≤ 2000) : ∀ k, k ≤ most → ∀ t, t ≤ k → getw (waysK exB most k) t = fEx t := by
  intro k
  induction k with
  | zero => intro _ t ht; obtain rfl : t = 0 := by omega
            rw [waysK_zero]; rfl
  | succ k ih =>
    intro hk t ht
    have ih' := ih (by omega)
    rcases Nat.lt_or_ge t (k + 1) with h | h
    · rw [waysK, rowB_ne _ _ (by omega)]; exact ih' t (by omega)
    · obtain rfl : t = k + 1 := by omega
      have hlen : k + 1 < (waysK exB most k).length := by rw [waysK_length]; omega
      have hhi : getw (waysK exB most k) (k + 1) = ⟨false, 0, 0⟩ := waysK_hi _ _ _ _ (by omega)
      have h0 : getw (tryB (waysK exB most k) (k + 1) 0 ⟨1, 200⟩) (k + 1) = ⟨true, (fEx k).price + 200, 0⟩ := by
        rw [tryB_at _ _ _ _ hlen, hhi]
        have e : getw (waysK exB most k) (k + 1 - (1 : Int).toNat) = fEx k := by
          rw [show k + 1 - (1 : Int).toNat = k from by simp]; exact ih' k (Nat.le_refl _)
        rw [e]
        have hlt : ¬ ((k + 1 : Nat) : Int) < 1 := by omega
        have hw : wrap64 ((fEx k).price + 200) = (fEx k).price + 200 := by apply wrap64_id <;> (simp only [fEx]; omega)
        simp only [hlt, hw]
        simp [fEx]
      have e2 : waysK exB most (k + 1) = tryB (tryB (waysK exB most k) (k + 1) 0 ⟨1, 200⟩) (k + 1) 1 ⟨6, 1000⟩ := rfl
      rw [e2, tryB_at _ _ _ _ (by rw [tryB_length]; exact hlen), h0]
      by_cases h6 : ((k + 1 : Nat) : Int) < 6
      · simp only [h6, decide_true, Bool.true_or, if_true]
        simp only [fEx, Way.mk.injEq, true_and]
        refine ⟨by omega, ?_⟩
        rw [if_neg (by omega)]
      · have e : getw (tryB (waysK exB most k) (k + 1) 0 ⟨1, 200⟩) (k + 1 - (6 : Int).toNat) = fEx (k + 1 - 6) := by
          rw [show (6 : Int).toNat = 6 from rfl, tryB_ne _ _ _ _ _ (by omega)]; exact ih' _ (by omega)
        rw [e]
        have hw : wrap64 ((fEx (k + 1 - 6)).price + 1000) = (fEx (k + 1 - 6)).price + 1000 := by apply wrap64_id <;> (simp only [fEx]; omega)
        have hc : (fEx (k + 1 - 6)).can = true := rfl
        simp only [h6, hw, hc, decide_false, Bool.not_true, Bool.or_self, Bool.false_eq_true, if_false, Bool.false_or, decide_eq_true_eq]
        split
        · rename_i hx
          simp only [fEx] at hx
          simp only [fEx, Way.mk.injEq, true_and]
          refine ⟨by omega, ?_⟩
          rw [if_pos (by omega)]; rfl
        · rename_i hx
          simp only [fEx] at hx
          simp only [fEx, Way.mk.injEq, true_and]
          refine ⟨by omega, ?_⟩
          rw [if_neg (by omega)]
theorem cheapS_eq (l : List Bundle) (n : Nat) : cheapS l n = (traceB l (waysK l (n + 999) (n + 999)) (bestK (waysK l (n + 999) (n + 999)) n 1000 + 1) (bestK (waysK l (n + 999) (n + 999)) n 1000) (List.replicate l.length 0), (getw (waysK l (n + 999) (n + 999)) (bestK (waysK l (n + 999) (n + 999)) n 1000)).price) := rfl
set_option maxRecDepth 100000 in
theorem cheap_ex : cheapS exB 7 = ([1, 1], 1200) := by
  have hw : ∀ t, t ≤ 1006 → getw (waysK exB 1006 1006) t = fEx t := ways_ex 1006 (by omega) 1006 (Nat.le_refl _)
  have hb : ∀ k, k ≤ 1000 → bestK (waysK exB 1006 1006) 7 k = 7 := by
    intro k
    induction k with
    | zero => intro _; rfl
    | succ k ih =>
      intro hk
      simp only [bestK, ih (by omega), hw 7 (by omega), hw (7 + k) (by omega)]
      refine if_neg ?_
      intro h
      have p0 : (fEx 7).can = true := rfl
      have p1 : (fEx 7).price = 1200 := rfl
      have p2 : 1200 ≤ (fEx (7 + k)).price := by
        show (1200 : Int) ≤ ((1000 * ((7 + k) / 6) + 200 * ((7 + k) % 6) : Nat) : Int)
        omega
      simp only [p0, p1, Bool.not_true, Bool.false_or, Bool.and_eq_true, decide_eq_true_eq] at h
      omega
  have hb1 := hb 1000 (Nat.le_refl _)
  have h7 := hw 7 (by omega)
  have h6 := hw 6 (by omega)
  rw [cheapS_eq, show 7 + 999 = 1006 from rfl, hb1, h7]
  clear hw hb hb1
  generalize waysK exB 1006 1006 = ws at *
  have s1 : traceB exB ws 8 7 [0, 0] = traceB exB ws 7 6 [1, 0] := by
    show (if (0 : Int) < 7 then traceB exB ws 7 (7 - (getb exB (getw ws 7).bundle).tokens) (addi [0, 0] (getw ws 7).bundle 1) else [0, 0]) = _
    have a1 : (7 : Int) - (getb exB (fEx 7).bundle).tokens = 6 := by decide +kernel
    have a2 : addi [0, 0] (fEx 7).bundle 1 = [1, 0] := by decide +kernel
    rw [if_pos (by decide), h7, a1, a2]
  have s2 : traceB exB ws 7 6 [1, 0] = traceB exB ws 6 0 [1, 1] := by
    show (if (0 : Int) < 6 then traceB exB ws 6 (6 - (getb exB (getw ws 6).bundle).tokens) (addi [1, 0] (getw ws 6).bundle 1) else [1, 0]) = _
    have a1 : (6 : Int) - (getb exB (fEx 6).bundle).tokens = 0 := by decide +kernel
    have a2 : addi [1, 0] (fEx 6).bundle 1 = [1, 1] := by decide +kernel
    rw [if_pos (by decide), h6, a1, a2]
  have s3 : traceB exB ws 6 0 [1, 1] = [1, 1] := rfl
  exact Prod.ext (s1.trans (s2.trans s3)) rfl
end Go.Proofs.Ytpcceankhgjjmaa
