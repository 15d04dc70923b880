/- Plain facts for the walk of TokensFree: one lemma for each shape of a world that a drawn region goes through. No program. -/
import Derived.Test.YtpcceankhgjjmaaFk
namespace Go.Proofs.Ytpcceankhgjjmaa
open Go.RowKit

section
variable {Y x x' : World}
theorem bb0 : Below Y.heap.size Y Y := Below.refl _ _
theorem bb1 : Below Y.heap.size Y Y.drew := (Below.refl _ _).drew
theorem bb2 (o : Obj) : Below Y.heap.size Y (Y.alloc o) := (Below.refl _ _).alloc (Nat.le_refl _) _
theorem bb3 (o : Obj) : Below Y.heap.size Y (Y.alloc o).drew := ((Below.refl _ _).alloc (Nat.le_refl _) _).drew
theorem bb4 (o o' : Obj) : Below Y.heap.size Y ((Y.alloc o).alloc o') := (bb2 o).alloc (bb2 o).size _
theorem bb5 (o o' : Obj) : Below Y.heap.size Y ((Y.alloc o).alloc o').drew := (bb4 o o').drew
theorem bu1 (h : Below Y.heap.size Y x) (o : Obj) : Below Y.heap.size Y (x.alloc o) := h.alloc h.size _
theorem bu2 (h : Below Y.heap.size Y x) (o o' : Obj) : Below Y.heap.size Y ((x.alloc o).alloc o') := bu1 (bu1 h _) _
theorem bu3 (h : Below Y.heap.size Y x) : Below Y.heap.size Y x.drew := h.drew
theorem bu4 (h : Below Y.heap.size Y x) (o : Obj) : Below Y.heap.size Y (x.alloc o).drew := (bu1 h _).drew
/-- What was below a world that has grown out of Y. -/
theorem bc0 (h : Below Y.heap.size Y x) : Below Y.heap.size Y x ∧ Y.heap.size ≤ Y.heap.size := ⟨h, Nat.le_refl _⟩
theorem bc1 (h : Below Y.drew.heap.size Y.drew x) : Below Y.heap.size Y x ∧ Y.heap.size ≤ Y.drew.heap.size := ⟨below_step bb1 h, Nat.le_refl _⟩
theorem bc2 {o : Obj} (h : Below (Y.alloc o).heap.size (Y.alloc o) x) : Below Y.heap.size Y x ∧ Y.heap.size ≤ (Y.alloc o).heap.size := ⟨below_step (bb2 o) h, (bb2 o).size⟩
theorem bc3 {o : Obj} (h : Below (Y.alloc o).drew.heap.size (Y.alloc o).drew x) : Below Y.heap.size Y x ∧ Y.heap.size ≤ (Y.alloc o).drew.heap.size := ⟨below_step (bb3 o) h, (bb3 o).size⟩
theorem bc4 {o o' : Obj} (h : Below ((Y.alloc o).alloc o').heap.size ((Y.alloc o).alloc o') x) : Below Y.heap.size Y x ∧ Y.heap.size ≤ ((Y.alloc o).alloc o').heap.size := ⟨below_step (bb4 o o') h, (bb4 o o').size⟩
theorem bc5 {o o' : Obj} (h : Below ((Y.alloc o).alloc o').drew.heap.size ((Y.alloc o).alloc o').drew x) : Below Y.heap.size Y x ∧ Y.heap.size ≤ ((Y.alloc o).alloc o').drew.heap.size := ⟨below_step (bb5 o o') h, (bb5 o o').size⟩
/-- A block that was new ahead of it. -/
theorem zr1 (t : TypeId) (cs : Array Value) (h : Below (Y.alloc (.cells cs t)).drew.heap.size (Y.alloc (.cells cs t)).drew x) : Row x Y.heap.size t cs.toList := Row.below ((Row.new Y t cs).drew) h (by show Y.heap.size < (Y.alloc _).heap.size; simp)
theorem zr1' (t : TypeId) (cs : Array Value) (h : Below (Y.alloc (.cells cs t)).heap.size (Y.alloc (.cells cs t)) x) : Row x Y.heap.size t cs.toList := Row.below (Row.new Y t cs) h (by simp)
theorem zr2 (t : TypeId) (cs : Array Value) {o : Obj} (h : Below ((Y.alloc o).alloc (.cells cs t)).drew.heap.size ((Y.alloc o).alloc (.cells cs t)).drew x) : Row x (Y.heap.size + 1) t cs.toList := by
  have h1 := Row.new (Y.alloc o) t cs
  rw [← sz1] at h1
  exact Row.below h1.drew h (by show Y.heap.size + 1 < ((Y.alloc o).alloc _).heap.size; simp)
theorem zr2' (t : TypeId) (cs : Array Value) {o : Obj} (h : Below ((Y.alloc o).alloc (.cells cs t)).heap.size ((Y.alloc o).alloc (.cells cs t)) x) : Row x (Y.heap.size + 1) t cs.toList := by
  have h1 := Row.new (Y.alloc o) t cs
  rw [← sz1] at h1
  exact Row.below h1 h (by simp)
theorem zr3 (t : TypeId) (cs : Array Value) {o : Obj} (h : Below ((Y.alloc (.cells cs t)).alloc o).drew.heap.size ((Y.alloc (.cells cs t)).alloc o).drew x) : Row x Y.heap.size t cs.toList := Row.below ((Row.new Y t cs).alloc o).drew h (by show Y.heap.size < ((Y.alloc _).alloc o).heap.size; simp; omega)
theorem zr3' (t : TypeId) (cs : Array Value) {o : Obj} (h : Below ((Y.alloc (.cells cs t)).alloc o).heap.size ((Y.alloc (.cells cs t)).alloc o) x) : Row x Y.heap.size t cs.toList := Row.below ((Row.new Y t cs).alloc o) h (by simp; omega)
theorem gz0 : Y.heap.size ≤ Y.heap.size := Nat.le_refl _
theorem gz1 : Y.heap.size ≤ Y.heap.size + 1 := Nat.le_succ _
theorem gz2 (h : Y.heap.size ≤ x.heap.size) : Y.heap.size ≤ x.heap.size + 1 := Nat.le_succ_of_le h
/-- The cells of a block, as an append asks for them. -/
theorem nw1 {g : Nat} {t : TypeId} {xs : List Value} (h : Row x g t xs) : ∀ j u, xs[j]? = some u → x.cell? ((⟨g, 0, none⟩ : Addr).add j) = some u := row_news h
theorem nw2 {g : Nat} {t : TypeId} {xs : List Value} (h : Row x g t xs) (o : Obj) : ∀ j u, xs[j]? = some u → (x.alloc o).cell? ((⟨g, 0, none⟩ : Addr).add j) = some u := row_news (h.alloc o)
theorem nw3 (t : TypeId) (cs : Array Value) : ∀ j u, cs.toList[j]? = some u → (x.alloc (.cells cs t)).cell? ((⟨x.heap.size, 0, none⟩ : Addr).add j) = some u := row_news (Row.new x t cs)
theorem nw4 (t : TypeId) (cs : Array Value) (o : Obj) : ∀ j u, cs.toList[j]? = some u → ((x.alloc (.cells cs t)).alloc o).cell? ((⟨x.heap.size, 0, none⟩ : Addr).add j) = some u := row_news ((Row.new x t cs).alloc o)
theorem nw5 (t : TypeId) (cs : Array Value) (o : Obj) : ∀ j u, cs.toList[j]? = some u → ((x.alloc o).alloc (.cells cs t)).cell? ((⟨x.heap.size + 1, 0, none⟩ : Addr).add j) = some u := by
  have h1 := Row.new (x.alloc o) t cs
  rw [← sz1] at h1
  exact row_news h1
section
variable {base : Nat} {e : TypeId} {size n : Nat} {v : Value} {xs : List Value}
theorem ow1 (h : x.ownsRow base e size v n xs) (o : Obj) : (x.alloc o).ownsRow base e size v n xs := owns_alloc h o
theorem ow2 (h : x.ownsRow base e size v n xs) (o o' : Obj) : ((x.alloc o).alloc o').ownsRow base e size v n xs := owns_alloc (owns_alloc h o) o'
theorem hs1 (h : base ≤ x.heap.size) (o : Obj) : base ≤ (x.alloc o).heap.size := Nat.le_trans h (by simp)
theorem hs2 (h : base ≤ x.heap.size) (o o' : Obj) : base ≤ ((x.alloc o).alloc o').heap.size := hs1 (hs1 h o) o'
/-- Behind the second append all below Y is as it was. -/
theorem bd0 (hY : Below Y.heap.size Y x) (hb : Y.heap.size ≤ base) (hB : base ≤ x.heap.size) (own : x.ownsRow base e size v n xs) (hg : x.grownBy x' v.ownBlock) : Below Y.heap.size Y x' := hY.trans ((owns_below own hg hB).mono hb)
theorem bd1 {o : Obj} (hY : Below Y.heap.size Y x) (hb : Y.heap.size ≤ base) (hB : base ≤ x.heap.size) (own : x.ownsRow base e size v n xs) (hg : (x.alloc o).grownBy x' v.ownBlock) : Below Y.heap.size Y x' := bd0 (bu1 hY o) hb (hs1 hB o) (ow1 own o) hg
theorem bd2 {o o' : Obj} (hY : Below Y.heap.size Y x) (hb : Y.heap.size ≤ base) (hB : base ≤ x.heap.size) (own : x.ownsRow base e size v n xs) (hg : ((x.alloc o).alloc o').grownBy x' v.ownBlock) : Below Y.heap.size Y x' := bd0 (bu2 hY o o') hb (hs2 hB o o') (ow2 own o o') hg
/-- A block of another type behind it. -/
theorem rg0 {t : TypeId} {g : Nat} {ys : List Value} (own : x.ownsRow base e size v n xs) (hg : x.grownBy x' v.ownBlock) (hr : Row x g t ys) (hne : e ≠ t) : Row x' g t ys := row_grown own hg hr hne
theorem rg1 {t : TypeId} {g : Nat} {ys : List Value} {o : Obj} (own : x.ownsRow base e size v n xs) (hg : (x.alloc o).grownBy x' v.ownBlock) (hr : Row x g t ys) (hne : e ≠ t) : Row x' g t ys := row_grown (ow1 own o) hg (hr.alloc o) hne
theorem rg2 (t : TypeId) (cs : Array Value) (own : x.ownsRow base e size v n xs) (hg : (x.alloc (.cells cs t)).grownBy x' v.ownBlock) (hne : e ≠ t) : Row x' x.heap.size t cs.toList := row_grown (ow1 own _) hg (Row.new x t cs) hne
theorem rg3 (t : TypeId) (cs : Array Value) {o : Obj} (own : x.ownsRow base e size v n xs) (hg : ((x.alloc o).alloc (.cells cs t)).grownBy x' v.ownBlock) (hne : e ≠ t) : Row x' (x.heap.size + 1) t cs.toList := by
  have h1 := Row.new (x.alloc o) t cs
  rw [← sz1] at h1
  exact row_grown (ow2 own _ _) hg h1 hne
theorem rg4 (t : TypeId) (cs : Array Value) {o : Obj} (own : x.ownsRow base e size v n xs) (hg : ((x.alloc (.cells cs t)).alloc o).grownBy x' v.ownBlock) (hne : e ≠ t) : Row x' x.heap.size t cs.toList := row_grown (ow2 own _ _) hg ((Row.new x t cs).alloc o) hne
end
theorem rl1 {size n : Nat} {A : Option Addr} {xs : List Value} (h : Reads x x.heap.size size A n xs) (o : Obj) : Reads (x.alloc o) x.heap.size size A n xs := h.alloc (Nat.le_refl _) o
theorem sl1 (o : Obj) : x.heap.size ≤ (x.alloc o).heap.size := by simp
/-- A block of another type behind the play. -/
theorem rp0 {g : Nat} {t : TypeId} {ys : List Value} (h : Below x.heap.size x x') (hr : Row x g t ys) : Row x' g t ys := hr.below h hr.lt
theorem rp1 (t : TypeId) (cs : Array Value) (h : Below (x.alloc (.cells cs t)).heap.size (x.alloc (.cells cs t)) x') : Row x' x.heap.size t cs.toList := Row.below (Row.new x t cs) h (by simp)
end
end Go.Proofs.Ytpcceankhgjjmaa
