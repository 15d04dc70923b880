/- Contract of queue's sortedVisits. Conditions: the evening lies in memory, its visits' numbers are small. -/
import Derived.Test.YtphhabknlcfelaaEk
import Derived.Shelf.SlSortCmp.NoneTotal
namespace Go.Proofs.Ytphhabknlcfelaa
open Go.RowKit

/-- Sorted visits in memory. -/
def VisTo (B : Nat) (w : World) (l : List VisZ) (u : Value) (w' : World) : Prop := ∃ A c, u = .slice A l.length c ∧ ∃ L : List VisZ, L.Perm l ∧ L.Pairwise leV ∧ Below B w w' ∧ Reads w' w'.heap.size 6 A l.length (L.flatMap visL)
theorem sort_none (A : Option Addr) (c : Nat) (fv : Value) (w : World) : Calls Try.prog 64 #[.slice A 0 c, fv] w fun e w' => e = .returned (.tuple #[]) ∧ w' = w :=
  AnyF.slices_SortFunc_none Ytphhabknlcfelaa.laysSort A c fv w
set_option maxHeartbeats 1000000 in
theorem sortedVisits_any {E : EvE} {w : World} {s : EvS} (h : EvAt E w s) (hs : ∀ v ∈ s.visits, SmallV v) (hl : s.visits.length ≤ 100000) :
    Calls Try.prog 47 #[.pointer (some ⟨E.v, 0, none⟩)] w fun e w' => ∃ u, e = .returned u ∧ VisTo E.base w s.visits u w' := by
  obtain ⟨qs, uv, h⟩ := h
  have v4 := h.vc.2.2.1
  have l1 := h.vc.2.2.2
  have hbas := h.bas
  have hvis := h.vis
  have hty := h.ev.ty
  have hev := h.ev
  obtain ⟨l, hll⟩ : ∃ l, l = s.visits := ⟨_, rfl⟩
  rw [← hll] at hs hl hvis ⊢
  rcases Nat.eq_zero_or_pos l.length with h0 | h0
  · obtain ⟨A, c, rfl⟩ := own_slice hvis
    have hl0 : l = [] := List.eq_nil_of_length_eq_zero h0
    have HC := Lib.hid (sort_none A c (.func (.func 65) #[] #[]) w)
    rw [h0] at v4
    have HL := Lib.hid hl0
    clear h hvis hs hll hty hev hl0
    go_enter Try.func47, Try.ntmps47
    go_wp2_with (go_at_call 64; refine HC.out.mono ?_; rintro e w' ⟨rfl, rfl⟩)
    go_ret
    rw [HL.out]
    exact ⟨_, rfl, A, c, rfl, [], List.Perm.refl _, List.Pairwise.nil, Below.refl _ _, ⟨by simp, fun h => absurd h (by simp)⟩⟩
  · obtain ⟨g, cap, rfl, hgb, hlt⟩ := World.ownsRow.form hvis h0
    have hrow := (Row.of_own hvis).1
    have HC := Lib.hid (sort_any l hs hl E.base g cap w hgb hbas.2.2.2 hrow)
    have hne : E.v ≠ g := hty.ne hrow.ty (by decide)
    have HE : Hid (∀ X : World, (∀ k, k ≠ g → k < w.heap.size → X.heap[k]? = w.heap[k]?) → X.cell? ⟨E.v, 4, none⟩ = some (.slice (some ⟨g, 0, none⟩) l.length cap) ∧ E.v < X.heap.size) := fun X hX => by
      have hr := hev.keep (hX _ hne l1)
      exact ⟨hr.cell (j := 4) (by simp [evL]), hr.lt⟩
    clear h hvis hs hll hty hev hrow hne
    go_enter Try.func47, Try.ntmps47
    go_upto_region 2 with (go_at_call 64; refine HC.out.mono ?_; rintro e w' ⟨rfl, L, p1, p2, p3, p4, p5⟩)
    obtain ⟨x4, x1⟩ := HE.out w' p4
    have HP := Lib.hid p3
    have HR := Lib.hid p5
    clear p3 p4 p5 v4 l1
    go_wp2_with fail
    go_ret
    exact ⟨_, rfl, _, cap, rfl, L, p1, p2, HP.out, HR.out⟩
end Go.Proofs.Ytphhabknlcfelaa
