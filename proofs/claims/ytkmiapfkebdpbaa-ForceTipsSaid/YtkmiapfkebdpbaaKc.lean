/- The changes of a motor in their order, as an iterator goes through them. Plain facts. -/
import Derived.Test.YtkmiapfkebdpbaaKa
namespace Go.Proofs.Ytkmiapfkebdpbaa
open Go.RowKit

def cntN (top step v : Nat) : Nat := min top (v + step) + 1 - (v - step)
def wsL (p v lo j : Nat) : List Chg := (List.range' lo j).map fun w => ⟨p, v, w⟩
def vsL (top step p k : Nat) : List Chg := (List.range k).flatMap fun v => wsL p v (v - step) (cntN top step v)
def phL (top step k : Nat) : List Chg := (List.range k).flatMap fun p => vsL top step p (top + 1)
theorem chgs_ph (n top step : Nat) : chgs n top step = phL top step n := by
  unfold chgs phL vsL wsL
  simp only [next_eq, nextP, cntN]
theorem wsL_succ (p v lo j : Nat) : wsL p v lo (j + 1) = wsL p v lo j ++ [⟨p, v, lo + j⟩] := by
  simp [wsL, List.range'_concat]
theorem vsL_succ (top step p k : Nat) : vsL top step p (k + 1) = vsL top step p k ++ wsL p k (k - step) (cntN top step k) := by
  simp [vsL, List.range_succ]
theorem phL_succ (top step k : Nat) : phL top step (k + 1) = phL top step k ++ vsL top step k (top + 1) := by
  simp [phL, List.range_succ]
theorem range_flat_pre {α : Type} (f : Nat → List α) {a b : Nat} (h : a ≤ b) : (List.range a).flatMap f <+: (List.range b).flatMap f := by
  induction b with
  | zero => obtain rfl : a = 0 := by omega
            exact List.prefix_refl _
  | succ b ih =>
    rcases Nat.lt_or_ge a (b + 1) with h1 | h1
    · rw [List.range_succ, List.flatMap_append]
      exact (ih (by omega)).trans (List.prefix_append _ _)
    · obtain rfl : a = b + 1 := by omega
      exact List.prefix_refl _
theorem wsL_pre (p v lo : Nat) {j k : Nat} (h : j ≤ k) : wsL p v lo j <+: wsL p v lo k := by
  unfold wsL
  obtain ⟨d, rfl⟩ := Nat.le.dest h
  rw [← List.range'_append_1, List.map_append]
  exact List.prefix_append _ _
/-- What has come up to a change, that one with it, begins the list of all. -/
theorem chg_pre {n top step p v j : Nat} (hp : p < n) (hv : v < top + 1) (hj : j ≤ cntN top step v) : (phL top step p ++ vsL top step p v ++ wsL p v (v - step) j) <+: phL top step n := by
  refine List.IsPrefix.trans ?_ (range_flat_pre (fun p => vsL top step p (top + 1)) (show p + 1 ≤ n from hp))
  have e := phL_succ top step p
  unfold phL at e
  rw [e, List.append_assoc]
  refine (List.prefix_append_right_inj _).2 ?_
  refine List.IsPrefix.trans ?_ (range_flat_pre (fun v => wsL p v (v - step) (cntN top step v)) (show v + 1 ≤ top + 1 from hv))
  have e' := vsL_succ top step p v
  unfold vsL at e'
  rw [e']
  exact (List.prefix_append_right_inj _).2 (wsL_pre p v (v - step) hj)
theorem chg_lt {n top step p v j : Nat} (hp : p < n) (hv : v < top + 1) (hj : j < cntN top step v) : (phL top step p ++ vsL top step p v ++ wsL p v (v - step) j).length < (phL top step n).length := by
  have h := (chg_pre (j := j + 1) hp hv hj).length_le
  rw [wsL_succ] at h
  simp only [List.length_append, List.length_cons, List.length_nil] at h ⊢
  omega
end Go.Proofs.Ytkmiapfkebdpbaa
