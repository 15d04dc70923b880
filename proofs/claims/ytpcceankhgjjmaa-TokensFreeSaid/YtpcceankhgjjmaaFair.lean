/- How a fair lies in memory: the value of a fair and the slices that it leads to. Plain facts, no program. -/
import Derived.Test.YtpcceankhgjjmaaMem
import Derived.Test.YtpcceankhgjjmaaSpec
namespace Go.Proofs.Ytpcceankhgjjmaa
open Go.RowKit

def iv (n : Int) : Value := .int .i64 n
def bundleCells (l : List Bundle) : List Value := l.flatMap fun b => [.int .i64 b.tokens, .int .i64 b.price]
def purseCells (l : List Purse) : List Value := l.flatMap fun p => [.int .i64 p.tokens, .int .i64 p.til]
def intCells (l : List Int) : List Value := l.map (Value.int .i64)

theorem bundleCells_length (l : List Bundle) : (bundleCells l).length = l.length * 2 := by
  induction l with
  | nil => rfl
  | cons x t ih => simp only [bundleCells, List.flatMap_cons, List.length_append, List.length_cons, List.length_nil] at *; omega
theorem bundleCells_at (l : List Bundle) : ∀ k, k < l.length → (bundleCells l)[k * 2]? = some (.int .i64 (getb l k).tokens) ∧ (bundleCells l)[k * 2 + 1]? = some (.int .i64 (getb l k).price) := by
  induction l with
  | nil => intro k h; simp at h
  | cons x t ih =>
    intro k h
    cases k with
    | zero => simp [bundleCells, getb]
    | succ k =>
      have h' := ih k (by simpa using h)
      have e : (k + 1) * 2 = k * 2 + 2 := by omega
      rw [e]
      simp only [bundleCells, List.flatMap_cons, getb, Int.toNat_natCast] at *
      constructor
      · have := h'.1
        rw [List.getElem?_append_right (by simp)]
        simpa using this
      · have := h'.2
        rw [List.getElem?_append_right (by simp)]
        simpa [show k * 2 + 2 + 1 - 2 = k * 2 + 1 from by omega] using this

structure Refs where
  A1 : Option Addr
  c1 : Nat
  A2 : Option Addr
  c2 : Nat
  A3 : Option Addr
  c3 : Nat

/-- The value of a fair. -/
abbrev fairV (F : Fair) (R : Refs) : Value :=
  .agg #[.int .i64 F.purses, .int .i64 F.boxes, .slice R.A1 F.stock.length R.c1, .slice R.A2 F.cash.length R.c2, .slice R.A3 F.bundles.length R.c3, .int .i64 F.refund, .int .i64 F.band, .int .i64 F.hours]

abbrev fairCells (F : Fair) (R : Refs) : Array Value :=
  #[.int .i64 F.purses, .int .i64 F.boxes, .slice R.A1 F.stock.length R.c1, .slice R.A2 F.cash.length R.c2, .slice R.A3 F.bundles.length R.c3, .int .i64 F.refund, .int .i64 F.band, .int .i64 F.hours]

/-- What a fair leads to. -/
structure FairIn (w : World) (B : Nat) (F : Fair) (R : Refs) : Prop where
  s1 : Reads w B 1 R.A1 F.stock.length (intCells F.stock)
  s2 : Reads w B 1 R.A2 F.cash.length (intCells F.cash)
  s3 : Reads w B 2 R.A3 F.bundles.length (bundleCells F.bundles)
  l1 : F.stock.length ≤ maxLen
  l2 : F.cash.length ≤ maxLen
  l3 : F.bundles.length ≤ maxLen

section
variable {w w' : World} {B B' : Nat} {F : Fair} {R : Refs}
theorem FairIn.keep (h : FairIn w B F R) (hk : ∀ p : Addr, p.block < B → w'.cell? p = w.cell? p) : FairIn w' B F R := ⟨h.s1.keep hk, h.s2.keep hk, h.s3.keep hk, h.l1, h.l2, h.l3⟩
theorem FairIn.below (h : FairIn w B F R) (hb : Below B w w') : FairIn w' B F R := h.keep fun _ hp => hb.cell hp
theorem FairIn.alloc (h : FairIn w B F R) (hB : B ≤ w.heap.size) (o : Obj) : FairIn (w.alloc o) B F R := h.keep fun p hp => World.cell?_alloc_lt w o p (by omega)
theorem FairIn.more (h : FairIn w B F R) (hB : B ≤ B') : FairIn w B' F R := ⟨h.s1.more hB, h.s2.more hB, h.s3.more hB, h.l1, h.l2, h.l3⟩
theorem FairIn.drewN (h : FairIn w B F R) (k : Nat) : FairIn (w.drewN k) B F R := h.keep fun _ _ => rfl
end

theorem Reads.at2 {w : World} {B n : Nat} {A : Option Addr} {l : List Bundle} (h : Reads w B 2 A n (bundleCells l)) {k : Nat} (hk : k < n) :
    ∃ b o, A = some ⟨b, o, none⟩ ∧ b < B ∧ w.cell? ⟨b, o + k * 2, none⟩ = some (.int .i64 (getb l k).tokens) ∧ w.cell? ⟨b, o + k * 2 + 1, none⟩ = some (.int .i64 (getb l k).price) := by
  obtain ⟨b, o, e, hb, hc⟩ := h.2 (by omega)
  have hl : l.length = n := by have := h.1; rw [bundleCells_length] at this; omega
  obtain ⟨h1, h2⟩ := bundleCells_at l k (by omega)
  exact ⟨b, o, e, hb, hc _ _ h1, hc _ _ h2⟩
end Go.Proofs.Ytpcceankhgjjmaa
