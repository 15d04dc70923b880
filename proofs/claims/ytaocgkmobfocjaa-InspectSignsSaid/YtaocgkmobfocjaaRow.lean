/- Words for memory: a block whose first cells are known; a world that has kept all blocks but some. Plain facts, no program. -/
import Derived.Test.YtaocgkmobfocjaaMem
namespace Go.Proofs.Ytaocgkmobfocjaa
open Go.RowKit

/-- Block g has cells of type t, none frozen, and begins with xs. -/
def Row (w : World) (g : Nat) (t : TypeId) (xs : List Value) : Prop :=
  ∃ cs : Array Value, w.heap[g]? = some (.cells cs t (0, 0)) ∧ xs.length ≤ cs.size ∧ ∀ j, j < xs.length → cs[j]? = xs[j]?

section
variable {w w' : World} {g : Nat} {t : TypeId} {xs : List Value}
theorem Row.lt (h : Row w g t xs) : g < w.heap.size := by
  obtain ⟨cs, h, _⟩ := h
  rcases Nat.lt_or_ge g w.heap.size with hlt | hge
  · exact hlt
  · rw [Array.getElem?_eq_none hge] at h; cases h
theorem Row.cell (h : Row w g t xs) {j : Nat} (hj : j < xs.length) : w.cell? ⟨g, j, none⟩ = xs[j]? := by
  obtain ⟨cs, h, _, hc⟩ := h
  rw [cell_of_row w g j cs t (0, 0) h, hc j hj]
theorem Row.frozen (h : Row w g t xs) (j : Nat) : w.frozen? ⟨g, j, none⟩ = false := by
  obtain ⟨cs, h, _⟩ := h
  exact frozen_of_row w g j cs t h
theorem Row.keep (h : Row w g t xs) (hk : w'.heap[g]? = w.heap[g]?) : Row w' g t xs := by
  obtain ⟨cs, h, r⟩ := h
  exact ⟨cs, hk.trans h, r⟩
theorem Row.alloc (h : Row w g t xs) (o : Obj) : Row (w.alloc o) g t xs := h.keep (Below.heap_alloc w o g h.lt)
theorem Row.drewN (h : Row w g t xs) (n : Nat) : Row (w.drewN n) g t xs := h.keep rfl
theorem Row.drew (h : Row w g t xs) : Row w.drew g t xs := h.keep rfl
theorem Row.far (h : Row w g t xs) {p : Addr} (hp : g ≠ p.block) (u : Value) : Row (w.setCell p u) g t xs := h.keep (Below.heap_setCell w p u g hp)
theorem Row.below {B : Nat} (h : Row w g t xs) (hb : Below B w w') (hg : g < B) : Row w' g t xs := h.keep (hb.block g hg)
theorem Row.set (h : Row w g t xs) (i : Nat) (u : Value) : Row (w.setCell ⟨g, i, none⟩ u) g t (xs.set i u) := by
  obtain ⟨cs, h, hl, hc⟩ := h
  refine ⟨cs.setIfInBounds i u, heap_setCell_same w g i cs t u h, by simpa using hl, fun j hj => ?_⟩
  simp only [List.length_set] at hj
  rw [Array.getElem?_setIfInBounds, List.getElem?_set, hc j hj]
  by_cases hij : i = j
  · subst hij; simp [hj]; omega
  · simp [hij]
theorem Row.new (w : World) (t : TypeId) (cs : Array Value) : Row (w.alloc (.cells cs t)) w.heap.size t cs.toList :=
  ⟨cs, heap_alloc_new w _, by simp, fun j _ => by simp⟩
theorem Row.reads {B size n : Nat} (h : Row w g t xs) (hn : xs.length = n * size) (hg : g < B) : Reads w B size (some ⟨g, 0, none⟩) n xs :=
  ⟨hn, fun _ => ⟨g, 0, rfl, hg, fun j u hu => by
    have hj : j < xs.length := (List.getElem?_eq_some_iff.1 hu).1
    rw [Nat.zero_add, h.cell hj, hu]⟩⟩
theorem Row.of_own {base e size n cap : Nat} (h : w.ownsRow base e size (.slice (some ⟨g, 0, none⟩) n cap) n xs) : Row w g e xs ∧ base ≤ g := by
  rcases h.2 with ⟨h', _⟩ | ⟨g', cap', cur, h', hb, hg, hnc, hcm, hcs, htake⟩
  · simp at h'
  · simp only [Value.slice.injEq, Option.some.injEq, Addr.mk.injEq, and_true, true_and] at h'
    obtain ⟨rfl, rfl⟩ := h'
    have hl : xs.length ≤ cur.size := by rw [← htake, List.length_take, Array.length_toList]; omega
    refine ⟨⟨cur, hg, hl, fun j hj => ?_⟩, hb⟩
    rw [← htake, List.getElem?_take, if_pos (by rw [← htake, List.length_take] at hj; omega)]
    simp
end

/-- Of the blocks that were there all but those of the list L are as they were. -/
structure KeptBut (L : List Nat) (w w' : World) : Prop where
  os : w'.os = w.os
  tape : w'.tape = w.tape
  output : w'.output = w.output
  size : w.heap.size ≤ w'.heap.size
  block : ∀ k, k < w.heap.size → k ∉ L → w'.heap[k]? = w.heap[k]?

section
variable {L : List Nat} {a w w' : World}
theorem KeptBut.refl (L : List Nat) (w : World) : KeptBut L w w := ⟨rfl, rfl, rfl, Nat.le_refl _, fun _ _ _ => rfl⟩
theorem KeptBut.trans {b c : World} (h : KeptBut L a b) (k : KeptBut L b c) : KeptBut L a c :=
  ⟨k.os.trans h.os, k.tape.trans h.tape, k.output.trans h.output, Nat.le_trans h.size k.size, fun i hi hn => (k.block i (Nat.lt_of_lt_of_le hi h.size) hn).trans (h.block i hi hn)⟩
theorem KeptBut.alloc (h : KeptBut L a w) (o : Obj) : KeptBut L a (w.alloc o) :=
  h.trans ⟨rfl, rfl, rfl, by simp, fun k hk _ => Below.heap_alloc _ _ _ hk⟩
theorem KeptBut.drewN (h : KeptBut L a w) (n : Nat) : KeptBut L a (w.drewN n) := h.trans ⟨rfl, rfl, rfl, Nat.le_refl _, fun _ _ _ => rfl⟩
theorem KeptBut.drew (h : KeptBut L a w) : KeptBut L a w.drew := h.trans ⟨rfl, rfl, rfl, Nat.le_refl _, fun _ _ _ => rfl⟩
theorem KeptBut.set (h : KeptBut L a w) {p : Addr} (hp : p.block ∈ L) (u : Value) : KeptBut L a (w.setCell p u) :=
  h.trans ⟨rfl, rfl, rfl, by simp [World.setCell], fun k _ hn => Below.heap_setCell _ _ _ _ (fun e => hn (by rw [e]; exact hp))⟩
theorem KeptBut.setNew (h : KeptBut L a w) {p : Addr} (hp : a.heap.size ≤ p.block) (u : Value) : KeptBut L a (w.setCell p u) :=
  ⟨h.os, h.tape, h.output, by simpa [World.setCell] using h.size, fun k hk hn => (Below.heap_setCell _ _ _ _ (fun e => by omega)).trans (h.block k hk hn)⟩
theorem KeptBut.below (h : KeptBut L a w) (hb : Below w.heap.size w w') : KeptBut L a w' :=
  h.trans ⟨hb.os, hb.tape, hb.output, hb.size, fun k hk _ => hb.block k hk⟩
theorem KeptBut.of_below (hb : Below a.heap.size a w) : KeptBut L a w := (KeptBut.refl L a).below hb
theorem KeptBut.mono {L' : List Nat} (h : KeptBut L a w) (hl : ∀ x ∈ L, x ∈ L') : KeptBut L' a w := ⟨h.os, h.tape, h.output, h.size, fun k hk hn => h.block k hk fun hx => hn (hl k hx)⟩
theorem KeptBut.to_below {B : Nat} (h : KeptBut L a w) (hB : B ≤ a.heap.size) (hl : ∀ x ∈ L, B ≤ x) : Below B a w :=
  ⟨h.os, h.tape, h.output, h.size, fun k hk => h.block k (by omega) fun hx => by have := hl k hx; omega⟩
theorem Row.kept {g : Nat} {t : TypeId} {xs : List Value} (h : Row a g t xs) (hk : KeptBut L a w) (hg : g ∉ L) : Row w g t xs := h.keep (hk.block g h.lt hg)
end
end Go.Proofs.Ytaocgkmobfocjaa
