/- Audit over a copy that has been changed in one place. Conditions: the arguments read as data. -/
import Derived.Test.YtjijjeboemonfaaBa
import Derived.Test.YtjijjeboemonfaaUf
import Derived.Test.YtjijjeboemonfaaUb
namespace Go.Proofs.Ytjijjeboemonfaa
open Go.RowKit

theorem Reads.put1 {w : World} {B n b o : Nat} {l : List Int} (h : Reads w B 1 (some ⟨b, o, none⟩) n (intCells l)) (k : Nat) (hk : k < n) (x : Int) : Reads (w.setCell ⟨b, o + k, none⟩ (.int .i64 x)) B 1 (some ⟨b, o, none⟩) n (intCells (l.set k x)) := by
  refine ⟨by rw [intCells_length, List.length_set, ← intCells_length]; exact h.1, fun hn => ?_⟩
  obtain ⟨b', o', e, hb, hc⟩ := h.2 hn
  injection e with e; injection e with e1 e2; subst e1; subst e2
  have hl : (intCells l).length = n := by have := h.1; omega
  refine ⟨b, o, rfl, hb, fun j u hu => ?_⟩
  rw [← intCells_set, List.getElem?_set] at hu
  by_cases e : k = j
  · subst e
    rw [if_pos rfl, if_pos (by omega)] at hu
    injection hu with hu; subst hu
    exact World.cell?_setCell_same _ _ _ (hc k _ (List.getElem?_eq_getElem (by omega)))
  · rw [if_neg e] at hu
    exact (World.cell?_setCell_other _ _ _ _ (fun e2 => by injection e2 with _ e2; omega)).trans (hc j u hu)
theorem Reads.put2 {w : World} {B n b o : Nat} {l : List Purse} (h : Reads w B 2 (some ⟨b, o, none⟩) n (purseCells l)) (k : Nat) (hk : k < n) (x : Int) : Reads (w.setCell ⟨b, o + k * 2 + 1, none⟩ (.int .i64 x)) B 2 (some ⟨b, o, none⟩) n (purseCells (l.set k ⟨(getp l k).tokens, x⟩)) := by
  have hln : l.length = n := by have := h.1; rw [purseCells_length] at this; omega
  refine ⟨by rw [purseCells_length, List.length_set, hln], fun hn => ?_⟩
  obtain ⟨b', o', e, hb, hc⟩ := h.2 hn
  injection e with e; injection e with e1 e2; subst e1; subst e2
  have hl : (purseCells l).length = n * 2 := h.1
  refine ⟨b, o, rfl, hb, fun j u hu => ?_⟩
  rw [← purseCells_set2 l k (by omega), List.getElem?_set] at hu
  by_cases e : k * 2 + 1 = j
  · subst e
    rw [if_pos rfl, if_pos (by omega)] at hu
    injection hu with hu; subst hu
    have := World.cell?_setCell_same (a := ⟨b, o + k * 2 + 1, none⟩) w (.int .i64 x) (hc (k * 2 + 1) _ (List.getElem?_eq_getElem (by omega)))
    exact this
  · rw [if_neg e] at hu
    exact (World.cell?_setCell_other _ _ _ _ (fun e2 => by injection e2 with _ e2; omega)).trans (hc j u hu)
/-- What Audit leaves where one till, purse or box differs. -/
def OnePost (w : World) (n1 n2 n3 : Nat) (i : Nat) (e : Ending) (w' : World) : Prop :=
  Below w.heap.size w w' ∧ ∃ A1 c1 A2 c2 A3 c3, e = .returned (.tuple #[.slice A1 n1 c1, .slice A2 n2 c2, .slice A3 n3 c3, .int .i64 0]) ∧ (n1 = 1 → Reads w' w'.heap.size 1 A1 n1 (intCells [(i : Int)])) ∧ (n2 = 1 → Reads w' w'.heap.size 1 A2 n2 (intCells [(i : Int)])) ∧ (n3 = 1 → Reads w' w'.heap.size 1 A3 n3 (intCells [(i : Int)]))
section
variable {F : Fair} {R : Refs} {l : List Deal} {A : Option Addr} {c B N : Nat} {X : World} {C : Count} {K : CRefs}
theorem count_T (i : Nat) : countV (otT C i) K = countV C K := by simp [countV, otT]
theorem count_P (i : Nat) : countV (otP C i) K = countV C K := by simp [countV, otP]
theorem count_B (i : Nat) : countV (otB C i) K = countV C K := by simp [countV, otB]
theorem own_T (h : Own4 X N C K) {b o : Nat} (e : K.A2 = some ⟨b, o, none⟩) (i : Nat) (hi : i < C.cash.length) : CountIn (X.setCell ⟨b, o + i, none⟩ (.int .i64 (wrap64 (geti C.cash i + 1)))) X.heap.size (otT C i) K := by
  obtain ⟨A1, c1, A2, c2, A3, c3, A4, c4⟩ := K
  obtain ⟨⟨s1, s2, s3, s4, l1, l2, l3, l4⟩, _, _, _, _, N1, N2, N3, g0, g1, g2, g3, h1, h2, h3, h4⟩ := h
  dsimp only at *
  subst e
  have hb := h2 b o rfl
  have hp := s2.put1 i hi (wrap64 (geti C.cash i + 1))
  refine ⟨s1.far (fun b' o' e => by have := h1 b' o' e; dsimp only; omega) _, ?_, s3.far (fun b' o' e => by have := h3 b' o' e; dsimp only; omega) _, s4.far (fun b' o' e => by have := h4 b' o' e; dsimp only; omega) _, l1, by simpa [otT] using l2, l3, l4⟩
  simpa [otT] using hp
theorem own_P (h : Own4 X N C K) {b o : Nat} (e : K.A3 = some ⟨b, o, none⟩) (i : Nat) (hi : i < C.purses.length) : CountIn (X.setCell ⟨b, o + i * 2 + 1, none⟩ (.int .i64 (wrap64 ((getp C.purses i).til - 1)))) X.heap.size (otP C i) K := by
  obtain ⟨A1, c1, A2, c2, A3, c3, A4, c4⟩ := K
  obtain ⟨⟨s1, s2, s3, s4, l1, l2, l3, l4⟩, _, _, _, _, N1, N2, N3, g0, g1, g2, g3, h1, h2, h3, h4⟩ := h
  dsimp only at *
  subst e
  have hb := h3 b o rfl
  have hp := s3.put2 i hi (wrap64 ((getp C.purses i).til - 1))
  refine ⟨s1.far (fun b' o' e => by have := h1 b' o' e; dsimp only; omega) _, s2.far (fun b' o' e => by have := h2 b' o' e; dsimp only; omega) _, ?_, s4.far (fun b' o' e => by have := h4 b' o' e; dsimp only; omega) _, l1, l2, by simpa [otP] using l3, l4⟩
  simpa [otP] using hp
theorem own_B (h : Own4 X N C K) {b o : Nat} (e : K.A4 = some ⟨b, o, none⟩) (i : Nat) (hi : i < C.boxes.length) : CountIn (X.setCell ⟨b, o + i, none⟩ (.int .i64 (wrap64 (geti C.boxes i - 1)))) X.heap.size (otB C i) K := by
  obtain ⟨A1, c1, A2, c2, A3, c3, A4, c4⟩ := K
  obtain ⟨⟨s1, s2, s3, s4, l1, l2, l3, l4⟩, _, _, _, _, N1, N2, N3, g0, g1, g2, g3, h1, h2, h3, h4⟩ := h
  dsimp only at *
  subst e
  have hb := h4 b o rfl
  have hp := s4.put1 i hi (wrap64 (geti C.boxes i - 1))
  refine ⟨s1.far (fun b' o' e => by have := h1 b' o' e; dsimp only; omega) _, s2.far (fun b' o' e => by have := h2 b' o' e; dsimp only; omega) _, s3.far (fun b' o' e => by have := h3 b' o' e; dsimp only; omega) _, ?_, l1, l2, l3, by simpa [otB] using l4⟩
  simpa [otB] using hp

variable (h0 : errS F l = 0) (hB : B ≤ X.heap.size) (hF : FairIn X B F R) (hl : Reads X B 5 A l.length (dealCells l)) (hn : l.length ≤ maxLen)
include h0 hB hF hl hn
theorem audit_C (hD : CountIn X X.heap.size (playS F l) K) : Calls Try.prog 27 #[fairV F R, .slice A l.length c, countV (playS F l) K] X (OnePost X 0 0 0 0) := by
  have hs := aud_of h0 (playS F l)
  rw [aud_same] at hs
  refine (Audit_any F R l (playS F l) K A c X.heap.size X (Nat.le_refl _) (hF.more hB) (hl.more hB) hn hD).mono fun e w' ⟨hb, A1, c1, A2, c2, A3, c3, he, r1, r2, r3⟩ => ?_
  rw [hs] at he r1 r2 r3
  exact ⟨hb, A1, c1, A2, c2, A3, c3, he, (fun h => by cases h), (fun h => by cases h), (fun h => by cases h)⟩
theorem audit_T (i : Nat) (hi : i < (playS F l).cash.length) (hD : CountIn X X.heap.size (otT (playS F l) i) K) : Calls Try.prog 27 #[fairV F R, .slice A l.length c, countV (playS F l) K] X (OnePost X 1 0 0 i) := by
  have hs := aud_of h0 (otT (playS F l) i)
  have hw := went h0
  rw [aud_T _ (by rw [hw.inv.n2, hw.inv.n1]) i hi] at hs
  rw [← count_T i]
  refine (Audit_any F R l (otT (playS F l) i) K A c X.heap.size X (Nat.le_refl _) (hF.more hB) (hl.more hB) hn hD).mono fun e w' ⟨hb, A1, c1, A2, c2, A3, c3, he, r1, r2, r3⟩ => ?_
  rw [hs] at he r1 r2 r3
  exact ⟨hb, A1, c1, A2, c2, A3, c3, he, (fun _ => r1), (fun h => by cases h), (fun h => by cases h)⟩
theorem audit_P (i : Nat) (hi : i < (playS F l).purses.length) (hD : CountIn X X.heap.size (otP (playS F l) i) K) : Calls Try.prog 27 #[fairV F R, .slice A l.length c, countV (playS F l) K] X (OnePost X 0 1 0 i) := by
  have hs := aud_of h0 (otP (playS F l) i)
  rw [aud_P _ i hi] at hs
  rw [← count_P i]
  refine (Audit_any F R l (otP (playS F l) i) K A c X.heap.size X (Nat.le_refl _) (hF.more hB) (hl.more hB) hn hD).mono fun e w' ⟨hb, A1, c1, A2, c2, A3, c3, he, r1, r2, r3⟩ => ?_
  rw [hs] at he r1 r2 r3
  exact ⟨hb, A1, c1, A2, c2, A3, c3, he, (fun h => by cases h), (fun _ => r2), (fun h => by cases h)⟩
theorem audit_B (i : Nat) (hi : i < (playS F l).boxes.length) (hD : CountIn X X.heap.size (otB (playS F l) i) K) : Calls Try.prog 27 #[fairV F R, .slice A l.length c, countV (playS F l) K] X (OnePost X 0 0 1 i) := by
  have hs := aud_of h0 (otB (playS F l) i)
  rw [aud_B _ i hi] at hs
  rw [← count_B i]
  refine (Audit_any F R l (otB (playS F l) i) K A c X.heap.size X (Nat.le_refl _) (hF.more hB) (hl.more hB) hn hD).mono fun e w' ⟨hb, A1, c1, A2, c2, A3, c3, he, r1, r2, r3⟩ => ?_
  rw [hs] at he r1 r2 r3
  exact ⟨hb, A1, c1, A2, c2, A3, c3, he, (fun h => by cases h), (fun h => by cases h), (fun _ => r3)⟩
end
end Go.Proofs.Ytjijjeboemonfaa
