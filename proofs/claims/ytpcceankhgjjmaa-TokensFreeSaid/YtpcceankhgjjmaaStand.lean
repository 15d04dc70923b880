/- How a fair as it stands lies in memory: its own block, and the four blocks of tokens, cash, purses and boxes. Plain facts, no program. -/
import Derived.Test.YtpcceankhgjjmaaRow
import Derived.Test.YtpcceankhgjjmaaFair
namespace Go.Proofs.Ytpcceankhgjjmaa
open Go.RowKit

structure Locs where
  bs : Nat
  g1 : Nat
  g2 : Nat
  g3 : Nat
  g4 : Nat
  c1 : Nat
  c2 : Nat
  c3 : Nat
  c4 : Nat

def standCells (F : Fair) (R : Refs) (L : Locs) (C : Count) : List Value :=
  [.int .i64 F.purses, .int .i64 F.boxes, .slice R.A1 F.stock.length R.c1, .slice R.A2 F.cash.length R.c2, .slice R.A3 F.bundles.length R.c3, .int .i64 F.refund, .int .i64 F.band, .int .i64 F.hours,
   .slice (some ⟨L.g1, 0, none⟩) F.stock.length L.c1, .slice (some ⟨L.g2, 0, none⟩) F.stock.length L.c2, .slice (some ⟨L.g3, 0, none⟩) F.purses.toNat L.c3, .slice (some ⟨L.g4, 0, none⟩) F.boxes.toNat L.c4, .int .i64 C.lost]

/-- The blocks that a deal may write. -/
abbrev Locs.all (L : Locs) : List Nat := [L.bs, L.g1, L.g2, L.g3, L.g4]

structure StandIn (T t3 t62 : TypeId) (w : World) (B : Nat) (F : Fair) (R : Refs) (L : Locs) (C : Count) : Prop where
  box : Row w L.bs T (standCells F R L C)
  r1 : Row w L.g1 t3 (intCells C.stock)
  r2 : Row w L.g2 t3 (intCells C.cash)
  r3 : Row w L.g3 t62 (purseCells C.purses)
  r4 : Row w L.g4 t3 (intCells C.boxes)
  n1 : C.stock.length = F.stock.length
  n2 : C.cash.length = F.stock.length
  n3 : C.purses.length = F.purses.toNat
  n4 : C.boxes.length = F.boxes.toNat
  ne : L.all.Nodup
  lo : ∀ x ∈ L.all, B ≤ x
  fair : FairIn w B F R
  val : validB F = true

theorem purseCells_length (l : List Purse) : (purseCells l).length = l.length * 2 := by
  induction l with
  | nil => rfl
  | cons x t ih => simp only [purseCells, List.flatMap_cons, List.length_append, List.length_cons, List.length_nil] at *; omega
theorem purseCells_at (l : List Purse) : ∀ k, k < l.length → (purseCells l)[k * 2]? = some (.int .i64 (getp l k).tokens) ∧ (purseCells l)[k * 2 + 1]? = some (.int .i64 (getp l k).til) := by
  induction l with
  | nil => intro k h; simp at h
  | cons x t ih =>
    intro k h
    cases k with
    | zero => simp [purseCells, getp]
    | succ k =>
      have h' := ih k (by simpa using h)
      have e : (k + 1) * 2 = k * 2 + 2 := by omega
      rw [e]
      simp only [purseCells, List.flatMap_cons, getp, Int.toNat_natCast] at *
      constructor
      · have := h'.1
        rw [List.getElem?_append_right (by simp)]
        simpa using this
      · have := h'.2
        rw [List.getElem?_append_right (by simp)]
        simpa [show k * 2 + 2 + 1 - 2 = k * 2 + 1 from by omega] using this
theorem purseCells_set1 (l : List Purse) : ∀ k, k < l.length → ∀ x, (purseCells l).set (k * 2) (.int .i64 x) = purseCells (l.set k ⟨x, (getp l k).til⟩) := by
  induction l with
  | nil => intro k h; simp at h
  | cons y t ih =>
    intro k h x
    cases k with
    | zero => simp [purseCells, getp]
    | succ k =>
      have h' := ih k (by simpa using h) x
      have e : (k + 1) * 2 = k * 2 + 1 + 1 := by omega
      rw [e]
      simp only [purseCells, List.flatMap_cons, getp, Int.toNat_natCast, List.cons_append, List.set_cons_succ, List.nil_append, List.getElem?_cons_succ] at *
      rw [h']
theorem purseCells_set2 (l : List Purse) : ∀ k, k < l.length → ∀ x, (purseCells l).set (k * 2 + 1) (.int .i64 x) = purseCells (l.set k ⟨(getp l k).tokens, x⟩) := by
  induction l with
  | nil => intro k h; simp at h
  | cons y t ih =>
    intro k h x
    cases k with
    | zero => simp [purseCells, getp]
    | succ k =>
      have h' := ih k (by simpa using h) x
      have e : (k + 1) * 2 + 1 = k * 2 + 1 + 1 + 1 := by omega
      rw [e]
      simp only [purseCells, List.flatMap_cons, getp, Int.toNat_natCast, List.cons_append, List.set_cons_succ, List.nil_append, List.getElem?_cons_succ] at *
      rw [h']
theorem intCells_at (l : List Int) (k : Nat) (h : k < l.length) : (intCells l)[k]? = some (.int .i64 (geti l k)) := by
  simp [intCells, geti, List.getElem?_eq_getElem h]
theorem intCells_set (l : List Int) (k : Nat) (x : Int) : (intCells l).set k (.int .i64 x) = intCells (l.set k x) := by
  simp [intCells, List.map_set]
theorem intCells_length (l : List Int) : (intCells l).length = l.length := by simp [intCells]

section
variable {T t3 t62 : TypeId} {w w' : World} {B : Nat} {F : Fair} {R : Refs} {L : Locs} {C : Count}
theorem StandIn.keep (h : StandIn T t3 t62 w B F R L C) (hk : ∀ k, k < w.heap.size → (k < B ∨ k ∈ L.all) → w'.heap[k]? = w.heap[k]?) (hB : B ≤ w.heap.size) : StandIn T t3 t62 w' B F R L C :=
  ⟨h.box.keep (hk _ h.box.lt (.inr (by simp))), h.r1.keep (hk _ h.r1.lt (.inr (by simp))), h.r2.keep (hk _ h.r2.lt (.inr (by simp))), h.r3.keep (hk _ h.r3.lt (.inr (by simp))), h.r4.keep (hk _ h.r4.lt (.inr (by simp))),
   h.n1, h.n2, h.n3, h.n4, h.ne, h.lo, h.fair.keep (fun p hp => World.cell?_of_block (hk p.block (by omega) (.inl hp))), h.val⟩
theorem StandIn.size (h : StandIn T t3 t62 w B F R L C) : B ≤ w.heap.size := by
  have := h.lo L.bs (by simp); have := h.box.lt; omega
theorem StandIn.alloc (h : StandIn T t3 t62 w B F R L C) (o : Obj) : StandIn T t3 t62 (w.alloc o) B F R L C := h.keep (fun _ hk _ => Below.heap_alloc _ _ _ hk) h.size
theorem StandIn.drewN (h : StandIn T t3 t62 w B F R L C) (n : Nat) : StandIn T t3 t62 (w.drewN n) B F R L C := h.keep (fun _ _ _ => rfl) h.size
theorem StandIn.drew (h : StandIn T t3 t62 w B F R L C) : StandIn T t3 t62 w.drew B F R L C := h.keep (fun _ _ _ => rfl) h.size
theorem StandIn.below (h : StandIn T t3 t62 w B F R L C) (hb : Below w.heap.size w w') : StandIn T t3 t62 w' B F R L C := h.keep (fun k hk _ => hb.block k hk) h.size
theorem StandIn.kept {M : List Nat} (h : StandIn T t3 t62 w B F R L C) (hb : KeptBut M w w') (hM : ∀ x ∈ M, B ≤ x ∧ x ∉ L.all) : StandIn T t3 t62 w' B F R L C :=
  h.keep (fun k hk hx => hb.block k hk fun hm => by rcases hx with hx | hx; · have := (hM k hm).1; omega
                                                    · exact (hM k hm).2 hx) h.size
theorem StandIn.cell (h : StandIn T t3 t62 w B F R L C) (j : Nat) (hj : j < 13) : w.cell? ⟨L.bs, j, none⟩ = (standCells F R L C)[j]? := h.box.cell (by simpa [standCells] using hj)
theorem StandIn.set1 (h : StandIn T t3 t62 w B F R L C) (i : Nat) (x : Int) : StandIn T t3 t62 (w.setCell ⟨L.g1, i, none⟩ (.int .i64 x)) B F R L { C with stock := C.stock.set i x } := by
  have hn := h.ne
  simp [Locs.all] at hn
  have hl := h.lo L.g1 (by simp)
  exact ⟨h.box.far (by simp; omega) _, intCells_set C.stock i x ▸ h.r1.set i _, h.r2.far (by simp; omega) _, h.r3.far (by simp; omega) _, h.r4.far (by simp; omega) _, by simpa using h.n1, h.n2, h.n3, h.n4, h.ne, h.lo,
    h.fair.keep fun p hp => World.cell?_setCell_other _ _ _ _ (fun e => by subst e; simp at hp; omega), h.val⟩
theorem StandIn.set2 (h : StandIn T t3 t62 w B F R L C) (i : Nat) (x : Int) : StandIn T t3 t62 (w.setCell ⟨L.g2, i, none⟩ (.int .i64 x)) B F R L { C with cash := C.cash.set i x } := by
  have hn := h.ne
  simp [Locs.all] at hn
  have hl := h.lo L.g2 (by simp)
  exact ⟨h.box.far (by simp; omega) _, h.r1.far (by simp; omega) _, intCells_set C.cash i x ▸ h.r2.set i _, h.r3.far (by simp; omega) _, h.r4.far (by simp; omega) _, h.n1, by simpa using h.n2, h.n3, h.n4, h.ne, h.lo,
    h.fair.keep fun p hp => World.cell?_setCell_other _ _ _ _ (fun e => by subst e; simp at hp; omega), h.val⟩
theorem StandIn.set4 (h : StandIn T t3 t62 w B F R L C) (i : Nat) (x : Int) : StandIn T t3 t62 (w.setCell ⟨L.g4, i, none⟩ (.int .i64 x)) B F R L { C with boxes := C.boxes.set i x } := by
  have hn := h.ne
  simp [Locs.all] at hn
  have hl := h.lo L.g4 (by simp)
  exact ⟨h.box.far (by simp; omega) _, h.r1.far (by simp; omega) _, h.r2.far (by simp; omega) _, h.r3.far (by simp; omega) _, intCells_set C.boxes i x ▸ h.r4.set i _, h.n1, h.n2, h.n3, by simpa using h.n4, h.ne, h.lo,
    h.fair.keep fun p hp => World.cell?_setCell_other _ _ _ _ (fun e => by subst e; simp at hp; omega), h.val⟩
theorem StandIn.set3a (h : StandIn T t3 t62 w B F R L C) (i : Nat) (x : Int) (hi : i < C.purses.length) : StandIn T t3 t62 (w.setCell ⟨L.g3, i * 2, none⟩ (.int .i64 x)) B F R L { C with purses := C.purses.set i ⟨x, (getp C.purses i).til⟩ } := by
  have hn := h.ne
  simp [Locs.all] at hn
  have hl := h.lo L.g3 (by simp)
  exact ⟨h.box.far (by simp; omega) _, h.r1.far (by simp; omega) _, h.r2.far (by simp; omega) _, purseCells_set1 C.purses i hi x ▸ h.r3.set (i * 2) _, h.r4.far (by simp; omega) _, h.n1, h.n2, by simpa using h.n3, h.n4, h.ne, h.lo,
    h.fair.keep fun p hp => World.cell?_setCell_other _ _ _ _ (fun e => by subst e; simp at hp; omega), h.val⟩
theorem StandIn.set3b (h : StandIn T t3 t62 w B F R L C) (i : Nat) (x : Int) (hi : i < C.purses.length) : StandIn T t3 t62 (w.setCell ⟨L.g3, i * 2 + 1, none⟩ (.int .i64 x)) B F R L { C with purses := C.purses.set i ⟨(getp C.purses i).tokens, x⟩ } := by
  have hn := h.ne
  simp [Locs.all] at hn
  have hl := h.lo L.g3 (by simp)
  exact ⟨h.box.far (by simp; omega) _, h.r1.far (by simp; omega) _, h.r2.far (by simp; omega) _, purseCells_set2 C.purses i hi x ▸ h.r3.set (i * 2 + 1) _, h.r4.far (by simp; omega) _, h.n1, h.n2, by simpa using h.n3, h.n4, h.ne, h.lo,
    h.fair.keep fun p hp => World.cell?_setCell_other _ _ _ _ (fun e => by subst e; simp at hp; omega), h.val⟩
theorem StandIn.setLost (h : StandIn T t3 t62 w B F R L C) (x : Int) : StandIn T t3 t62 (w.setCell ⟨L.bs, 12, none⟩ (.int .i64 x)) B F R L { C with lost := x } := by
  have hn := h.ne
  simp [Locs.all] at hn
  have hl := h.lo L.bs (by simp)
  exact ⟨h.box.set 12 _, h.r1.far (by simp; omega) _, h.r2.far (by simp; omega) _, h.r3.far (by simp; omega) _, h.r4.far (by simp; omega) _, h.n1, h.n2, h.n3, h.n4, h.ne, h.lo,
    h.fair.keep fun p hp => World.cell?_setCell_other _ _ _ _ (fun e => by subst e; simp at hp; omega), h.val⟩
end
end Go.Proofs.Ytpcceankhgjjmaa
