/- Plain facts of TokensBegin: what Audit finds of a count that differs in one place. No program, no memory. -/
import Derived.Test.YtjijjeboemonfaaUe
import Derived.Test.YtjijjeboemonfaaUa
namespace Go.Proofs.Ytjijjeboemonfaa
open Go.RowKit

theorem numsI_none (p : Nat → Bool) (n : Nat) (h : ∀ k, k < n → p k = false) : numsI p n = [] := by
  induction n with
  | zero => rfl
  | succ n ih => rw [numsI_no p n (h n (by omega)), ih fun k hk => h k (by omega)]
theorem numsI_one (p : Nat → Bool) (n i : Nat) (hi : i < n) (h1 : p i = true) (h : ∀ k, k < n → k ≠ i → p k = false) : numsI p n = [(i : Int)] := by
  induction n with
  | zero => omega
  | succ n ih =>
    rcases Nat.lt_or_ge i n with hlt | hge
    · rw [numsI_no p n (h n (by omega) (by omega)), ih hlt fun k hk => h k (by omega)]
    · obtain rfl : i = n := by omega
      rw [numsI_yes p i h1, numsI_none p i fun k hk => h k (by omega) (by omega)]; rfl
def otT (C : Count) (i : Nat) : Count := { C with cash := C.cash.set i (wrap64 (geti C.cash i + 1)) }
def otP (C : Count) (i : Nat) : Count := { C with purses := C.purses.set i ⟨(getp C.purses i).tokens, wrap64 ((getp C.purses i).til - 1)⟩ }
def otB (C : Count) (i : Nat) : Count := { C with boxes := C.boxes.set i (wrap64 (geti C.boxes i - 1)) }
theorem wrap_up (x : Int) : wrap64 (x + 1) ≠ x := by unfold wrap64; omega
theorem wrap_down (x : Int) : wrap64 (x - 1) ≠ x := by unfold wrap64; omega
theorem geti_set (l : List Int) (i k : Nat) (x : Int) (h : i < l.length) : geti (l.set i x) k = if k = i then x else geti l k := by
  simp only [geti, Int.toNat_natCast, List.getElem?_set]
  by_cases e : i = k
  · subst e; simp [h]
  · have : ¬ k = i := fun h => e h.symm
    simp [e, this]
theorem getp_set (l : List Purse) (i k : Nat) (x : Purse) (h : i < l.length) : getp (l.set i x) k = if k = i then x else getp l k := by
  simp only [getp, Int.toNat_natCast, List.getElem?_set]
  by_cases e : i = k
  · subst e; simp [h]
  · have : ¬ k = i := fun h => e h.symm
    simp [e, this]
/-- Audit's answer over any count that right deals have left. -/
def audC (C D : Count) : List Int × List Int × List Int × Int :=
  if lensB C D then (numsI (auT C D) C.stock.length, numsI (auP C D) C.purses.length, numsI (auB C D) C.boxes.length, 0) else ([], [], [], 1)
theorem aud_of {F : Fair} {l : List Deal} (h : errS F l = 0) (D : Count) : audS F l D = audC (playS F l) D := by rw [audS, if_pos h]; rfl
theorem aud_same (C : Count) : audC C C = ([], [], [], 0) := by
  have e1 : lensB C C = true := by simp [lensB]
  rw [audC, e1, if_pos rfl, numsI_none _ _ (fun k _ => by simp [auT]), numsI_none _ _ (fun k _ => by simp [auP]), numsI_none _ _ (fun k _ => by simp [auB])]
theorem aud_T (C : Count) (n2 : C.cash.length = C.stock.length) (i : Nat) (hi : i < C.cash.length) : audC C (otT C i) = ([(i : Int)], [], [], 0) := by
  have e1 : lensB C (otT C i) = true := by simp [lensB, otT]
  have hne := wrap_up (geti C.cash i)
  have ht : ∀ k : Nat, auT C (otT C i) k = decide (k = i) := fun k => by
    simp only [auT, otT, geti_set _ _ _ _ hi, bne_self_eq_false, Bool.false_or]
    by_cases e : k = i
    · subst e; simp [Ne.symm hne]
    · simp [e]
  rw [audC, e1, if_pos rfl, numsI_one _ _ i (by omega) (by rw [ht]; simp) (fun k _ hk => by rw [ht]; simp [hk]), numsI_none _ _ (fun k _ => by simp [auP, otT]), numsI_none _ _ (fun k _ => by simp [auB, otT])]
theorem aud_P (C : Count) (i : Nat) (hi : i < C.purses.length) : audC C (otP C i) = ([], [(i : Int)], [], 0) := by
  have e1 : lensB C (otP C i) = true := by simp [lensB, otP]
  have hne := wrap_down (getp C.purses i).til
  have ht : ∀ k : Nat, auP C (otP C i) k = decide (k = i) := fun k => by
    simp only [auP, otP, getp_set _ _ _ _ hi]
    by_cases e : k = i
    · subst e; simp [Ne.symm hne]
    · simp [e]
  rw [audC, e1, if_pos rfl, numsI_one (auP C (otP C i)) _ i hi (by rw [ht]; simp) (fun k _ hk => by rw [ht]; simp [hk]), numsI_none _ _ (fun k _ => by simp [auT, otP]), numsI_none _ _ (fun k _ => by simp [auB, otP])]
theorem aud_B (C : Count) (i : Nat) (hi : i < C.boxes.length) : audC C (otB C i) = ([], [], [(i : Int)], 0) := by
  have e1 : lensB C (otB C i) = true := by simp [lensB, otB]
  have hne := wrap_down (geti C.boxes i)
  have ht : ∀ k : Nat, auB C (otB C i) k = decide (k = i) := fun k => by
    simp only [auB, otB, geti_set _ _ _ _ hi]
    by_cases e : k = i
    · subst e; simp [Ne.symm hne]
    · simp [e]
  rw [audC, e1, if_pos rfl, numsI_one (auB C (otB C i)) _ i hi (by rw [ht]; simp) (fun k _ hk => by rw [ht]; simp [hk]), numsI_none _ _ (fun k _ => by simp [auT, otB]), numsI_none _ _ (fun k _ => by simp [auP, otB])]
/-- The number of the beginning: from 0 to the number of deals. -/
theorem rest_bd (a : Int) (n : Nat) (hn : n ≤ 40) : 0 ≤ (a.tmod (n + 1) + n + 1).tmod (n + 1) ∧ (a.tmod (n + 1) + n + 1).tmod (n + 1) ≤ n := by
  have h1 := Int.lt_tmod_of_pos a (show (0 : Int) < (n : Int) + 1 by omega)
  have h2 := Int.tmod_lt_of_pos a (show (0 : Int) < (n : Int) + 1 by omega)
  have h3 := Int.tmod_lt_of_pos (a.tmod (n + 1) + n + 1) (show (0 : Int) < (n : Int) + 1 by omega)
  have h4 := Int.tmod_nonneg ((n : Int) + 1) (show 0 ≤ a.tmod (n + 1) + n + 1 by omega)
  exact ⟨h4, by omega⟩
end Go.Proofs.Ytjijjeboemonfaa
