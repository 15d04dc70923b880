/- How the arguments of a law of queue open: an evening, groups. Plain facts on readings. -/
import Derived.Test.YtijbhcdnbaaobaaEe
import Derived.ProofKit
import Derived.OpenShut
import Derived.ChangeOld
import Derived.Lib.SmallJoins
import Derived.Deep.Slices
import Derived.Deep.Fields
import Derived.ChangeSame
namespace Go.Proofs.Ytijbhcdnbaaobaa
open Go.Joins Go.ChangeShapes Go.WideShapes Go.ChangeAt Go.RowKit Go.Deep

theorem Try.own : ownKnob Try.prog.godebug = none := by kernel_rfl
theorem Try.laidOut : laidOutB Try.prog = true := by kernel_rfl
theorem exists_list {α : Type} (Q : Nat → α → Prop) : ∀ n, (∀ i, i < n → ∃ a, Q i a) → ∃ l : List α, l.length = n ∧ ∀ i (h : i < l.length), Q i l[i] := by
  intro n
  induction n with
  | zero => intro _; exact ⟨[], rfl, fun i h => by simp at h⟩
  | succ n ih =>
    intro h
    obtain ⟨l, hl, hq⟩ := ih fun i hi => h i (by omega)
    obtain ⟨a, ha⟩ := h n (by omega)
    refine ⟨l ++ [a], by simp [hl], fun i hi => ?_⟩
    rcases Nat.lt_or_ge i l.length with h1 | h1
    · rw [List.getElem_append_left h1]; exact hq i h1
    · obtain rfl : i = n := by simp at hi; omega
      rw [List.getElem_append_right (by omega)]
      simpa [hl] using ha
theorem lt_of_cell {w : World} {b o : Nat} {v : Value} (h : w.cell? ⟨b, o, none⟩ = some v) : b < w.heap.size := by
  rcases Nat.lt_or_ge b w.heap.size with h1 | h1
  · exact h1
  · simp [World.cell?, Array.getElem?_eq_none h1] at h

section
variable {H : Type} {enc : TypeId × Value → H} {P : Program} {w : World} {base : Nat} {spare : Nat → Bool} {held : Bool}
theorem reads_of {size n : Nat} {a : Addr} {xs : List Value} (hx : xs.length = n * size) (hs : 0 < size) (hc : ∀ j u, xs[j]? = some u → w.cell? (a.add j) = some u) : Reads w w.heap.size size (some a) n xs := by
  refine ⟨hx, fun hn => ?_⟩
  obtain ⟨b, o, sp⟩ := a
  have hl : 0 < xs.length := by rw [hx]; exact Nat.mul_pos hn hs
  have h0 := hc 0 _ (List.getElem?_eq_getElem hl)
  have hsp : sp = none := by simpa [Addr.add] using World.cell?_spot h0
  subst hsp
  have h0' : w.cell? ⟨b, o, none⟩ = some xs[0] := by simpa [Addr.add] using h0
  refine ⟨b, o, rfl, lt_of_cell h0', fun j u hu => ?_⟩
  have := hc j u hu
  by_cases hj : j = 0
  · subst hj; simpa [Addr.add] using this
  · simpa [Addr.add, hj] using this
theorem open_slice_fields {t e : TypeId} {fs : Array Field} {fuel : Nat} {cs : List Value} {x : DataW H × List MemPlace} (ht : P.underlying t = some (.slice e)) (he : P.underlying e = some (.struct fs))
    (hone : oneCellFields P fs = true) (hC : P.cellsOf e = fs.size) (h : DataW.trod enc P w base spare held fuel t cs = some x) :
    (cs = [.slice none 0 0]) ∨
    ∃ (a : Addr) (len cap : Nat), cs = [.slice (some a) len cap] ∧ len ≤ cap ∧ cap ≤ maxLen ∧
      ∀ i, i < len → ∃ n : Nat, ∀ (j : Nat) (f : Field), fs[j]? = some f → ∃ (v : Value) (y : DataW H × List MemPlace), w.cell? (a.add (i * fs.size + j)) = some v ∧ DataW.trod enc P w base spare held n f.type [v] = some y := by
  rcases open_slice ht h with h0 | ⟨a, len, cap, m, n, D, Pl, hcs, hb, hl, hm, hmm, hx, hi⟩
  · exact .inl h0.1
  · refine .inr ⟨a, len, cap, hcs, hl, hm, fun i hil => ?_⟩
    have him : i < m := by rw [hmm]; split <;> omega
    obtain ⟨cs', hc, ht'⟩ := hi i him
    rw [hC] at hc
    obtain ⟨ys, n', hn', hy, hlen, hyl, hf⟩ := DataW.trod_struct he ht'
    obtain ⟨_, hcl, hat⟩ := World.cells?_some hc
    refine ⟨n', fun j f hj => ?_⟩
    obtain ⟨ho, hk⟩ := hone_of hone j f hj
    have hjl : j < fs.size := (Array.getElem?_eq_some_iff.1 hj).1
    have hcell := hat j hjl
    have hv : cs'[j]? = some (cs'[j]'(by omega)) := List.getElem?_eq_getElem (by omega)
    have h1 := hf j f hj
    rw [ho, hk] at h1
    have hone' : (cs'.drop j).take 1 = [cs'[j]'(by omega)] := by
      rw [List.drop_eq_getElem_cons (by omega)]
      rfl
    rw [hone'] at h1
    have hys : ys[j]? = some (ys[j]'(by omega)) := List.getElem?_eq_getElem (by omega)
    refine ⟨_, _, ?_, h1.trans hys⟩
    rw [← Go.Deep.add_add, hcell, hv]
theorem open_ints_row {t e : TypeId} {fuel : Nat} {v : Value} {x : DataW H × List MemPlace} (ht : P.underlying t = some (.slice e)) (he : P.underlying e = some (.int .i64)) (hc : P.cellsOf e = 1) (hsp : ∀ b, spare b = true)
    (h : DataW.trod enc P w base spare held fuel t [v] = some x) : ∃ A c zs, v = .slice A (List.length zs) c ∧ Reads w w.heap.size 1 A zs.length (zs.map (Value.int .i64)) ∧ zs.length ≤ maxLen := by
  rcases open_ints ht he hc h with ⟨hcs, _⟩ | ⟨a, len, cap, zs, hcs, _, hl, hm, hz, _, hcell, hwz⟩
  · injection hcs with h1 _
    exact ⟨none, 0, [], h1, reads_none _ _ _, Nat.zero_le _⟩
  · injection hcs with h1 _
    rw [hsp, if_pos rfl] at hz
    have e : (zs.take len).length = len := by simp; omega
    refine ⟨some a, cap, zs.take len, by rw [e]; exact h1, reads_of (by simp) (by omega) (fun j u hu => ?_), by rw [e]; omega⟩
    have hj : j < len := by have := (List.getElem?_eq_some_iff.1 hu).1; simp at this; omega
    rw [hcell j (by omega)]
    simp only [List.getElem?_map, List.getElem?_take, hj, if_true, List.getElem?_eq_getElem (show j < zs.length by omega), Option.map_some] at hu
    rw [← hu]
    simp [List.getD, List.getElem?_eq_getElem (show j < zs.length by omega)]
end
section
variable {H : Type} {enc : TypeId × Value → H} {w : World} {base : Nat} {held : Bool}
theorem addr_plain {a : Addr} {v : Value} (h : w.cell? (a.add 0) = some v) : ∃ b o, a = ⟨b, o, none⟩ := by
  obtain ⟨b, o, sp⟩ := a
  have hsp : sp = none := by simpa [Addr.add] using World.cell?_spot h
  exact ⟨b, o, by rw [hsp]⟩
/-- The rides that came in. -/
theorem open_bths {fuel : Nat} {v : Value} {x : DataW H × List MemPlace} (h : DataW.trod enc Try.prog w base (fun _ => true) held fuel 22 [v] = some x) :
    ∃ A c l, v = .slice A (List.length l) c ∧ Reads w w.heap.size 5 A l.length (bthCells l) ∧ l.length ≤ maxLen := by
  rcases open_slice_fields Try.underlying22 Try.underlying47 (by kernel_rfl) (by kernel_rfl) h with hcs | ⟨a, len, cap, hcs, hl, hm, hi⟩
  · injection hcs with h1 _
    exact ⟨none, 0, [], h1, reads_none _ _ _, Nat.zero_le _⟩
  · injection hcs with hv _
    obtain ⟨l, hll, hq⟩ := exists_list (α := Bth) (fun i b => ∀ j, j < 5 → w.cell? (a.add (i * 5 + j)) = (bthL b)[j]?) len (fun i hil => by
      obtain ⟨n, hf⟩ := hi i hil
      obtain ⟨u0, y0, c0, t0⟩ := hf 0 _ rfl
      obtain ⟨u1, y1, c1, t1⟩ := hf 1 _ rfl
      obtain ⟨u2, y2, c2, t2⟩ := hf 2 _ rfl
      obtain ⟨u3, y3, c3, t3⟩ := hf 3 _ rfl
      obtain ⟨u4, y4, c4, t4⟩ := hf 4 _ rfl
      obtain ⟨k0, e0, _, _⟩ := DataW.trod_int Try.underlying3 t0
      obtain ⟨k1, e1, _, _⟩ := DataW.trod_int Try.underlying3 t1
      obtain ⟨k2, e2, _, _⟩ := DataW.trod_int Try.underlying3 t2
      obtain ⟨k3, e3, _, _⟩ := DataW.trod_int Try.underlying3 t3
      obtain ⟨k4, e4, _⟩ := DataW.trod_bool Try.underlying4 t4
      injection e0 with e0 _
      injection e1 with e1 _
      injection e2 with e2 _
      injection e3 with e3 _
      injection e4 with e4 _
      subst e0; subst e1; subst e2; subst e3; subst e4
      exact ⟨⟨k0, k1, k2, k3, k4⟩, fun j hj => lt_five (P := fun j => w.cell? (a.add (i * 5 + j)) = (bthL ⟨k0, k1, k2, k3, k4⟩)[j]?) c0 c1 c2 c3 c4 j hj⟩)
    have hlen : (bthCells l).length = l.length * 5 := flat_len bthL 5 (fun _ => rfl) l
    refine ⟨some a, cap, l, by rw [hll]; exact hv, reads_of hlen (by omega) (fun j u hu => ?_), by omega⟩
    have hj : j < l.length * 5 := by have := (List.getElem?_eq_some_iff.1 hu).1; rw [hlen] at this; exact this
    have hq' := hq (j / 5) (by omega) (j % 5) (by omega)
    have e1 : j / 5 * 5 + j % 5 = j := by omega
    have hat := bthCells_at l (j / 5) (by omega) (j % 5) (by omega)
    have hg : l.getD (j / 5) default = l[j / 5]'(by omega) := by rw [List.getD_eq_getElem?_getD, List.getElem?_eq_getElem (show j / 5 < l.length by omega)]; rfl
    rw [e1, hg] at hat
    rw [e1] at hq'
    rw [hq', ← hat, hu]
/-- The groups that came in. -/
theorem open_grps {fuel : Nat} {v : Value} {x : DataW H × List MemPlace} (h : DataW.trod enc Try.prog w base (fun _ => true) held fuel 25 [v] = some x) :
    ∃ A c rs l, v = .slice A (List.length l) c ∧ GrpsIn w w.heap.size A rs l := by
  rcases open_slice_fields Try.underlying25 Try.underlying55 (by kernel_rfl) (by kernel_rfl) h with hcs | ⟨a, len, cap, hcs, hl, hm, hi⟩
  · injection hcs with h1 _
    exact ⟨none, 0, [], [], h1, ⟨Nat.zero_le _, fun h => absurd h (by simp), fun i hi => absurd hi (by simp), fun i hi => absurd hi (by simp)⟩⟩
  · injection hcs with hv _
    obtain ⟨L, hll, hq⟩ := exists_list (α := GrpZ × (Option Addr × Nat)) (fun i b => (∀ j, j < 5 → w.cell? (a.add (i * 5 + j)) = some (agV b.2 b.1 j)) ∧ Reads w w.heap.size 1 b.2.1 b.1.wants.length (b.1.wants.map (Value.int .i64)) ∧ b.1.wants.length ≤ maxLen) len (fun i hil => by
      obtain ⟨n, hf⟩ := hi i hil
      obtain ⟨u0, y0, c0, t0⟩ := hf 0 _ rfl
      obtain ⟨u1, y1, c1, t1⟩ := hf 1 _ rfl
      obtain ⟨u2, y2, c2, t2⟩ := hf 2 _ rfl
      obtain ⟨u3, y3, c3, t3⟩ := hf 3 _ rfl
      obtain ⟨u4, y4, c4, t4⟩ := hf 4 _ rfl
      obtain ⟨k0, e0, _, _⟩ := DataW.trod_int Try.underlying3 t0
      obtain ⟨k1, e1, _, _⟩ := DataW.trod_int Try.underlying3 t1
      obtain ⟨k2, e2, _, _⟩ := DataW.trod_int Try.underlying3 t2
      obtain ⟨A3, c3', zs, rfl, hr, hzl⟩ := open_ints_row Try.underlying37 Try.underlying3 (by kernel_rfl) (fun _ => rfl) t3
      obtain ⟨k4, e4, _, _⟩ := DataW.trod_int Try.underlying3 t4
      injection e0 with e0 _
      injection e1 with e1 _
      injection e2 with e2 _
      injection e4 with e4 _
      subst e0; subst e1; subst e2; subst e4
      exact ⟨(⟨k0, k1, k2, k4, zs⟩, (A3, c3')), fun j hj => lt_five (P := fun j => w.cell? (a.add (i * 5 + j)) = some (agV (A3, c3') ⟨k0, k1, k2, k4, zs⟩ j)) c0 c1 c2 c3 c4 j hj, hr, hzl⟩)
    have gl : ∀ i (hi : i < L.length), (L.map (·.1)).getD i default = L[i].1 := fun i hi => by rw [List.getD_eq_getElem?_getD, List.getElem?_map, List.getElem?_eq_getElem hi]; rfl
    have gr : ∀ i (hi : i < L.length), (L.map (·.2)).getD i default = L[i].2 := fun i hi => by rw [List.getD_eq_getElem?_getD, List.getElem?_map, List.getElem?_eq_getElem hi]; rfl
    have hlm : (L.map (·.1)).length = len := by rw [List.length_map, hll]
    refine ⟨some a, cap, L.map (·.2), L.map (·.1), by rw [hlm]; exact hv, by rw [hlm]; omega, fun h0 => ?_, fun i hi => ?_, fun i hi => ?_⟩
    · have h00 := (hq 0 (by omega)).1 0 (by omega)
      obtain ⟨b, o, rfl⟩ := addr_plain h00
      have hb : b < w.heap.size := by
        rw [Addr.add_lit] at h00
        exact lt_of_cell h00
      refine ⟨b, o, rfl, hb, fun i hi => ?_⟩
      have hi' : i < L.length := by omega
      have hc := (hq i hi').1
      rw [gl i hi', gr i hi']
      have g : ∀ j, j < 5 → w.cell? ⟨b, o + i * 5 + j, none⟩ = some (agV L[i].2 L[i].1 j) := fun j hj => by
        have := hc j hj
        rw [Addr.add_lit, ← Nat.add_assoc] at this
        exact this
      exact ⟨g 0 (by omega), g 1 (by omega), g 2 (by omega), g 3 (by omega), g 4 (by omega)⟩
    · have hi' : i < L.length := by omega
      rw [gl i hi', gr i hi']
      exact (hq i hi').2.1
    · have hi' : i < L.length := by omega
      rw [gl i hi']
      exact (hq i hi').2.2
end
set_option maxRecDepth 100000 in
/-- An evening that came in. -/
theorem open_eve {H : Type} {enc : TypeId × Value → H} {w : World} {r : Reach} {b0 : Nat} {v : Value} {d : DataW H} {p : List MemPlace} (hv : Value.okWide Try.prog w r b0 24 v)
    (h : DataW.Trod enc Try.prog w 0 (fun _ => true) true 24 v d p) : ∃ f A c, v = eveV f A c ∧ Reads w w.heap.size 5 A f.rides.length (bthCells f.rides) ∧ f.rides.length ≤ maxLen := by
  obtain ⟨cs, rfl, hsz⟩ := okWide_struct Try.underlying24 hv
  have hC : Try.prog.cellsOf 24 = 2 := by kernel_rfl
  have hS : Try.prog.cellsOf 22 = 1 := by kernel_rfl
  have hI : Try.prog.cellsOf 3 = 1 := by kernel_rfl
  obtain ⟨l⟩ := cs
  match l, hsz.trans hC with
  | [c0, c1], _ =>
    obtain ⟨fuel, hf⟩ := h
    obtain ⟨xs, n, _, hx, _, hlen, hg⟩ := DataW.trod_struct Try.underlying24 hf
    match xs, hlen with
    | [y0, y1], _ =>
      have g0 : DataW.trod enc Try.prog w 0 (fun _ => true) true n 22 [c0] = some y0 := by simpa [Value.cells, hS] using hg 0 _ rfl
      have g1 : DataW.trod enc Try.prog w 0 (fun _ => true) true n 3 [c1] = some y1 := by simpa [Value.cells, hI] using hg 1 _ rfl
      obtain ⟨A, c, bs, rfl, hr, hl⟩ := open_bths g0
      obtain ⟨wk, e1, _, _⟩ := DataW.trod_int Try.underlying3 g1
      injection e1 with e1 _
      subst e1
      exact ⟨⟨bs, wk⟩, A, c, rfl, hr, hl⟩
end Go.Proofs.Ytijbhcdnbaaobaa
