/- How a rig and a loading that came in open. Plain facts on readings. -/
import Derived.Test.YtkmiapfkebdpbaaLi
import Derived.Test.YtkmiapfkebdpbaaKs
namespace Go.Proofs.Ytkmiapfkebdpbaa
open Go.Joins Go.ChangeShapes Go.WideShapes Go.ChangeAt Go.RowKit Go.Deep

section
variable {H : Type} {enc : TypeId × Value → H} {P : Program} {w : World} {base : Nat} {spare : Nat → Bool} {held : Bool}
/-- A slice whose elements take a cell each. -/
theorem open_ones {t e : TypeId} {fuel : Nat} {v : Value} {x : DataW H × List MemPlace} (ht : P.underlying t = some (.slice e)) (hC : P.cellsOf e = 1) (h : DataW.trod enc P w base spare held fuel t [v] = some x) :
    ∃ (A : Option Addr) (len c : Nat), v = .slice A len c ∧ len ≤ maxLen ∧ (0 < len → ∃ b o, A = some ⟨b, o, none⟩ ∧ b < w.heap.size) ∧
      ∀ b o, A = some ⟨b, o, none⟩ → ∀ i, i < len → ∃ (u : Value) (n : Nat) (y : DataW H × List MemPlace), w.cell? ⟨b, o + i, none⟩ = some u ∧ DataW.trod enc P w base spare held n e [u] = some y := by
  rcases open_slice ht h with h0 | ⟨a, len, cap, m, n, D, Pl, hcs, hb, hl, hm, hmm, hx, hi⟩
  · injection h0.1 with hv _
    exact ⟨none, 0, 0, hv, Nat.zero_le _, fun h => absurd h (by omega), fun b o e => by cases e⟩
  · injection hcs with hv _
    have hcell : ∀ i, i < len → ∃ (u : Value) (y : DataW H × List MemPlace), w.cell? (a.add i) = some u ∧ DataW.trod enc P w base spare held n e [u] = some y := fun i hil => by
      have him : i < m := by rw [hmm]; split <;> omega
      obtain ⟨cs', hc, ht'⟩ := hi i him
      rw [hC, Nat.mul_one] at hc
      obtain ⟨_, hcl, hat⟩ := World.cells?_some hc
      obtain ⟨u, rfl⟩ : ∃ u, cs' = [u] := by
        match cs', hcl with
        | [u], _ => exact ⟨u, rfl⟩
      have h0 := hat 0 (by omega)
      refine ⟨u, _, ?_, ht'⟩
      rw [Go.Deep.add_add, Nat.add_zero] at h0
      simpa using h0
    refine ⟨some a, len, cap, hv, by omega, fun h0 => ?_, fun b o e i hil => ?_⟩
    · obtain ⟨u, _, hu, _⟩ := hcell 0 h0
      obtain ⟨b, o, sp⟩ := a
      have hsp : sp = none := by simpa [Addr.add] using World.cell?_spot hu
      subst hsp
      exact ⟨b, o, rfl, lt_of_cell (show w.cell? ⟨b, o, none⟩ = some u by simpa [Addr.add] using hu)⟩
    · injection e with e
      subst e
      obtain ⟨u, y, hu, hy⟩ := hcell i hil
      rw [Addr.add_lit] at hu
      exact ⟨u, n, y, hu, hy⟩
theorem open_bools {t e : TypeId} {fuel : Nat} {v : Value} {x : DataW H × List MemPlace} (ht : P.underlying t = some (.slice e)) (hC : P.cellsOf e = 1) (he : P.underlying e = some .bool) (h : DataW.trod enc P w base spare held fuel t [v] = some x) :
    ∃ A c l, v = .slice A (List.length l) c ∧ Reads w w.heap.size 1 A l.length (l.map Value.bool) ∧ l.length ≤ maxLen := by
  obtain ⟨A, len, c, rfl, hlen, hA, hc⟩ := open_ones ht hC h
  rcases Nat.eq_zero_or_pos len with h0 | h0
  · subst h0
    exact ⟨A, c, [], rfl, ⟨by simp, fun h => absurd h (by simp)⟩, Nat.zero_le _⟩
  · obtain ⟨b, o, rfl, hb⟩ := hA h0
    obtain ⟨l, hll, hq⟩ := exists_list (α := Bool) (fun i z => w.cell? ⟨b, o + i, none⟩ = some (.bool z)) len (fun i hi => by
      obtain ⟨u, n, y, hu, hy⟩ := hc b o rfl i hi
      obtain ⟨fb, e1, _⟩ := DataW.trod_bool he hy
      injection e1 with e1 _
      subst e1
      exact ⟨fb, hu⟩)
    subst hll
    refine ⟨_, c, l, rfl, ⟨by simp, fun _ => ⟨b, o, rfl, hb, fun j u hj => ?_⟩⟩, hlen⟩
    obtain ⟨hj1, hj2⟩ := List.getElem?_eq_some_iff.1 hj
    simp only [List.length_map] at hj1
    rw [hq j hj1, ← hj2]
    simp
theorem open_paths {t e g : TypeId} {f0 f1 f2 : Field} {fuel : Nat} {v : Value} {x : DataW H × List MemPlace} (ht : P.underlying t = some (.slice e)) (hCe : P.cellsOf e = 1) (he : P.underlying e = some (.slice g)) (hg : P.underlying g = some (.struct #[f0, f1, f2])) (hone : oneCellFields P #[f0, f1, f2] = true) (hC : P.cellsOf g = 3)
    (h0 : P.underlying f0.type = some (.int .i64)) (h1 : P.underlying f1.type = some (.int .i64)) (h2 : P.underlying f2.type = some (.int .i64)) (h : DataW.trod enc P w base spare held fuel t [v] = some x) :
    ∃ A c rs ss, v = .slice A (List.length ss) c ∧ SeatsIn w w.heap.size A rs ss := by
  obtain ⟨A, len, c, rfl, hlen, hA, hc⟩ := open_ones ht hCe h
  rcases Nat.eq_zero_or_pos len with hz | hz
  · subst hz
    exact ⟨A, c, [], [], rfl, ⟨Nat.zero_le _, fun h => absurd h (by simp), fun i hi => absurd hi (by simp), fun i hi => absurd hi (by simp)⟩⟩
  · obtain ⟨b, o, rfl, hb⟩ := hA hz
    obtain ⟨L, hll, hq⟩ := exists_list (α := (Option Addr × Nat) × List Pt) (fun i z => w.cell? ⟨b, o + i, none⟩ = some (.slice z.1.1 z.2.length z.1.2) ∧ Reads w w.heap.size 3 z.1.1 z.2.length (ptCells z.2) ∧ z.2.length ≤ maxLen) len (fun i hi => by
      obtain ⟨u, n, y, hu, hy⟩ := hc b o rfl i hi
      obtain ⟨A', c', l, rfl, hl, hm⟩ := open_pts he hg hone hC h0 h1 h2 hy
      exact ⟨((A', c'), l), hu, hl, hm⟩)
    subst hll
    have hp : ∀ i (hi : i < L.length), pathAt (L.map (·.2)) i = L[i].2 := fun i hi => by simp [pathAt, hi]
    have hr : ∀ i (hi : i < L.length), refAt (L.map (·.1)) i = L[i].1 := fun i hi => by simp [refAt, hi]
    refine ⟨_, c, L.map (·.1), L.map (·.2), by rw [List.length_map], ⟨by simpa using hlen, fun _ => ⟨b, o, rfl, hb, fun i hi => ?_⟩, fun i hi => ?_, fun i hi => ?_⟩⟩
    all_goals
      simp only [List.length_map] at hi
      rw [hp i hi]
    · rw [hr i hi]; exact (hq i hi).1
    · rw [hr i hi]; exact (hq i hi).2.1
    · exact (hq i hi).2.2
end
set_option maxRecDepth 100000 in
theorem open_rig {H : Type} {enc : TypeId × Value → H} {w : World} {r : Reach} {b0 : Nat} {v : Value} {d : DataW H} {p : List MemPlace} (hv : Value.okWide Try.prog w r b0 57 v)
    (h : DataW.Trod enc Try.prog w 0 (fun _ => true) true 57 v d p) : ∃ r R, v = rigV r R ∧ RigIn w w.heap.size r R := by
  obtain ⟨cs, rfl, hsz⟩ := okWide_struct Try.underlying57 hv
  have hC : Try.prog.cellsOf 57 = 8 := by kernel_rfl
  have hP : Try.prog.cellsOf 28 = 3 := by kernel_rfl
  have hS : Try.prog.cellsOf 55 = 1 := by kernel_rfl
  have hF : Try.prog.cellsOf 22 = 1 := by kernel_rfl
  have hI : Try.prog.cellsOf 3 = 1 := by kernel_rfl
  obtain ⟨l⟩ := cs
  match l, hsz.trans hC with
  | [c0, c1, c2, c3, c4, c5, c6, c7], _ =>
    obtain ⟨fuel, hf⟩ := h
    obtain ⟨xs, n, _, hx, _, hlen, hg⟩ := DataW.trod_struct Try.underlying57 hf
    match xs, hlen with
    | [y0, y1, y2, y3, y4, y5], _ =>
      have g0 : DataW.trod enc Try.prog w 0 (fun _ => true) true n 55 [c0] = some y0 := by simpa [Value.cells, hS] using hg 0 _ rfl
      have g1 : DataW.trod enc Try.prog w 0 (fun _ => true) true n 22 [c1] = some y1 := by simpa [Value.cells, hF] using hg 1 _ rfl
      have g2 : DataW.trod enc Try.prog w 0 (fun _ => true) true n 3 [c2] = some y2 := by simpa [Value.cells, hI] using hg 2 _ rfl
      have g3 : DataW.trod enc Try.prog w 0 (fun _ => true) true n 28 [c3, c4, c5] = some y3 := by simpa [Value.cells, hP] using hg 3 _ rfl
      have g4 : DataW.trod enc Try.prog w 0 (fun _ => true) true n 3 [c6] = some y4 := by simpa [Value.cells, hI] using hg 4 _ rfl
      have g5 : DataW.trod enc Try.prog w 0 (fun _ => true) true n 3 [c7] = some y5 := by simpa [Value.cells, hI] using hg 5 _ rfl
      obtain ⟨A1, k1, rs, ss, rfl, hs⟩ := open_paths Try.underlying55 hF Try.underlying22 Try.underlying28 (by kernel_rfl) hP Try.underlying3 Try.underlying3 Try.underlying3 g0
      obtain ⟨A2, k2, feet, rfl, hfeet, hfl⟩ := open_pts Try.underlying22 Try.underlying28 (by kernel_rfl) hP Try.underlying3 Try.underlying3 Try.underlying3 g1
      obtain ⟨fr, e2, _, _⟩ := DataW.trod_int Try.underlying3 g2
      obtain ⟨q0, q1, q2, rfl, rfl, rfl⟩ := trod_ints3 Try.underlying28 (by kernel_rfl) Try.underlying3 Try.underlying3 Try.underlying3 g3
      obtain ⟨em, e4, _, _⟩ := DataW.trod_int Try.underlying3 g4
      obtain ⟨fu, e5, _, _⟩ := DataW.trod_int Try.underlying3 g5
      injection e2 with e2 _
      injection e4 with e4 _
      injection e5 with e5 _
      subst e2; subst e4; subst e5
      exact ⟨⟨ss, feet, ⟨q0, q1, q2⟩, fr, em, fu⟩, ⟨A1, k1, rs, A2, k2⟩, rfl, hs, hfeet, hfl⟩
def loadV (A : Option Addr) (n c : Nat) (ph line : Int) : Value := .agg #[.slice A n c, .int .i64 ph, .int .i64 line]
set_option maxRecDepth 100000 in
theorem open_load {H : Type} {enc : TypeId × Value → H} {w : World} {r : Reach} {b0 : Nat} {v : Value} {d : DataW H} {p : List MemPlace} (hv : Value.okWide Try.prog w r b0 66 v)
    (h : DataW.Trod enc Try.prog w 0 (fun _ => true) true 66 v d p) : ∃ A c l ph line, v = loadV A (List.length l) c ph line ∧ Reads w w.heap.size 1 A l.length (l.map Value.bool) ∧ l.length ≤ maxLen := by
  obtain ⟨v0, v1, v2, y0, y1, y2, n, rfl, h0, h1, h2⟩ := open_agg3 Try.underlying66 (by kernel_rfl) (by kernel_rfl) hv h
  obtain ⟨A, c, l, rfl, hl, hm⟩ := open_bools Try.underlying64 (by kernel_rfl) Try.underlying4 h0
  obtain ⟨k1, e1, _, _⟩ := DataW.trod_int Try.underlying3 h1
  obtain ⟨k2, e2, _, _⟩ := DataW.trod_int Try.underlying3 h2
  injection e1 with e1 _
  injection e2 with e2 _
  subst e1; subst e2
  exact ⟨A, c, l, k1, k2, rfl, hl, hm⟩
end Go.Proofs.Ytkmiapfkebdpbaa
