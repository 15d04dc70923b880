/- How spendings that came in open. Plain facts on readings. -/
import Derived.Test.YtdechfjlbdbbnaaTkm
import Derived.Test.YtdechfjlbdbbnaaTnf
namespace Go.Proofs.Ytdechfjlbdbbnaa
open Go.Joins Go.ChangeShapes Go.WideShapes Go.ChangeAt Go.RowKit Go.Deep

section
variable {H : Type} {enc : TypeId × Value → H} {w : World} {base : Nat} {held : Bool}
theorem lt_threeT {P : Nat → Prop} (h0 : P 0) (h1 : P 1) (h2 : P 2) (b : Nat) (hb : b < 3) : P b := by
  rcases (by omega : b = 0 ∨ b = 1 ∨ b = 2) with rfl | rfl | rfl <;> assumption
/-- The spendings that came in. -/
theorem open_spent {fuel : Nat} {v : Value} {x : DataW H × List MemPlace} (h : DataW.trod enc Try.prog w base (fun _ => true) held fuel 34 [v] = some x) :
    ∃ A c rs l, v = .slice A (List.length l) c ∧ SpIn w w.heap.size A rs l := by
  rcases open_slice_fields Try.underlying34 Try.underlying54 (by kernel_rfl) (by kernel_rfl) h with hcs | ⟨a, len, cap, hcs, hl, hm, hi⟩
  · injection hcs with h1 _
    exact ⟨none, 0, [], [], h1, ⟨Nat.zero_le _, fun h => absurd h (by simp), fun i hi => absurd hi (by simp), fun i hi => absurd hi (by simp)⟩⟩
  · injection hcs with hv _
    obtain ⟨L, hll, hq⟩ := exists_list (α := SpZ × (Option Addr × Nat)) (fun i b => (∀ j, j < 3 → w.cell? (a.add (i * 3 + j)) = some (spV b.2 b.1 j)) ∧ Reads w w.heap.size 1 b.2.1 b.1.fr.length (b.1.fr.map (Value.int .i64)) ∧ b.1.fr.length ≤ maxLen) len (fun i hil => by
      obtain ⟨n, hf⟩ := hi i hil
      obtain ⟨u0, y0, c0, t0⟩ := hf 0 _ rfl
      obtain ⟨u1, y1, c1, t1⟩ := hf 1 _ rfl
      obtain ⟨u2, y2, c2, t2⟩ := hf 2 _ rfl
      obtain ⟨k0, e0, _, _⟩ := DataW.trod_int Try.underlying3 t0
      obtain ⟨k1, e1, _, _⟩ := DataW.trod_int Try.underlying3 t1
      obtain ⟨A3, c3', zs, rfl, hr, hzl⟩ := open_ints_row Try.underlying22 Try.underlying3 (by kernel_rfl) (fun _ => rfl) t2
      injection e0 with e0 _
      injection e1 with e1 _
      subst e0; subst e1
      exact ⟨(⟨k0, k1, zs⟩, (A3, c3')), fun j hj => lt_threeT (P := fun j => w.cell? (a.add (i * 3 + j)) = some (spV (A3, c3') ⟨k0, k1, zs⟩ j)) c0 c1 c2 j hj, hr, hzl⟩)
    have gl : ∀ i (hi : i < L.length), spAt (L.map (·.1)) i = L[i].1 := fun i hi => by unfold spAt; rw [List.getD_eq_getElem?_getD, List.getElem?_map, List.getElem?_eq_getElem hi]; rfl
    have gr : ∀ i (hi : i < L.length), (L.map (·.2)).getD i default = L[i].2 := fun i hi => by rw [List.getD_eq_getElem?_getD, List.getElem?_map, List.getElem?_eq_getElem hi]; rfl
    have hlm : (L.map (·.1)).length = len := by rw [List.length_map, hll]
    refine ⟨some a, cap, L.map (·.2), L.map (·.1), by rw [hlm]; exact hv, by rw [hlm]; omega, fun h0 => ?_, fun i hi => ?_, fun i hi => ?_⟩
    · have h00 := (hq 0 (by omega)).1 0 (by omega)
      obtain ⟨b, o, rfl⟩ := addr_plain h00
      have hb : b < w.heap.size := by
        rw [Addr.add_lit] at h00
        exact lt_of_cell h00
      refine ⟨b, o, rfl, hb, fun i hi => ?_⟩
      have hi' : i < L.length := by omega
      have hc := (hq i hi').1
      rw [gl i hi', gr i hi']
      have g : ∀ j, j < 3 → w.cell? ⟨b, o + i * 3 + j, none⟩ = some (spV L[i].2 L[i].1 j) := fun j hj => by
        have := hc j hj
        rw [Addr.add_lit, ← Nat.add_assoc] at this
        exact this
      exact ⟨g 0 (by omega), g 1 (by omega), g 2 (by omega)⟩
    · have hi' : i < L.length := by omega
      rw [gl i hi', gr i hi']
      exact (hq i hi').2.1
    · have hi' : i < L.length := by omega
      rw [gl i hi']
      exact (hq i hi').2.2
end
end Go.Proofs.Ytdechfjlbdbbnaa
