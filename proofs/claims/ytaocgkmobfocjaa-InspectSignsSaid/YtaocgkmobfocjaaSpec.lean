/- Plain functions on lists and numbers: what package tokens computes. No program, no memory. -/
import Derived.RowKit
namespace Go.Proofs.Ytaocgkmobfocjaa
open Go.RowKit

structure Bundle where
  tokens : Int
  price : Int
structure Fair where
  purses : Int
  boxes : Int
  stock : List Int
  cash : List Int
  bundles : List Bundle
  refund : Int
  band : Int
  hours : Int
structure Purse where
  tokens : Int
  til : Int
structure Deal where
  at_ : Int
  kind : Int
  a : Int
  b : Int
  n : Int
structure Count where
  stock : List Int
  cash : List Int
  purses : List Purse
  boxes : List Int
  lost : Int

def inB (n lo hi : Int) : Bool := decide (lo ≤ n) && decide (n ≤ hi)
def allB (l : List Int) (lo hi : Int) : Bool := l.all fun z => inB z lo hi
def sumW (l : List Int) : Int := l.foldl (fun s z => wrap64 (s + z)) 0

def sizesB (F : Fair) : Bool := inB F.stock.length 1 8 && decide ((F.cash.length : Int) = F.stock.length) && inB F.purses 0 20 && inB F.boxes 0 12 && decide ((F.bundles.length : Int) ≤ 6)
def tillsB (F : Fair) : Bool := allB F.stock 0 100000 && allB F.cash 0 1000000
def pricesB (F : Fair) : Bool := inB F.refund 0 1000 && inB F.band 0 1000000 && inB F.hours 1 1440
def bundleB (r : Int) (b : Bundle) : Bool := inB b.tokens 1 1000 && inB b.price 1 1000000 && !decide (b.price < wrap64 (r * b.tokens))
def bundlesB (F : Fair) : Bool := F.bundles.all (bundleB F.refund)
def validB (F : Fair) : Bool := sizesB F && tillsB F && pricesB F && bundlesB F

/-- Element i of a list at an Int index. -/
def geti (l : List Int) (i : Int) : Int := l[i.toNat]?.getD 0
def getp (l : List Purse) (i : Int) : Purse := l[i.toNat]?.getD ⟨0, 0⟩
def getb (l : List Bundle) (i : Int) : Bundle := l[i.toNat]?.getD ⟨0, 0⟩
def addi (l : List Int) (i x : Int) : List Int := l.set i.toNat (wrap64 (geti l i + x))
def subi (l : List Int) (i x : Int) : List Int := l.set i.toNat (wrap64 (geti l i - x))
def addp (l : List Purse) (i x : Int) : List Purse := l.set i.toNat ⟨wrap64 ((getp l i).tokens + x), (getp l i).til⟩
def subp (l : List Purse) (i x : Int) : List Purse := l.set i.toNat ⟨wrap64 ((getp l i).tokens - x), (getp l i).til⟩

def isTill (F : Fair) (i : Int) : Bool := inB i 0 ((F.stock.length : Int) - 1)
def isPurse (F : Fair) (i : Int) : Bool := inB i 0 (F.purses - 1)
def isBox (F : Fair) (i : Int) : Bool := inB i 0 (F.boxes - 1)
def hasB (C : Count) (p n : Int) : Bool := inB n 1 (min (getp C.purses p).tokens 100000)

def sellS (F : Fair) (C : Count) (d : Deal) : Option Count :=
  if !isTill F d.a || !isPurse F d.b || !inB d.n 0 ((F.bundles.length : Int) - 1) then none else
  if geti C.stock d.a < (getb F.bundles d.n).tokens then none else
  some { C with stock := subi C.stock d.a (getb F.bundles d.n).tokens, purses := addp C.purses d.b (getb F.bundles d.n).tokens, cash := addi C.cash d.a (getb F.bundles d.n).price }
def fareS (C : Count) (d : Deal) : Int := if d.at_ < (getp C.purses d.a).til then 0 else d.n
def rideS (F : Fair) (C : Count) (d : Deal) : Option Count :=
  if !isPurse F d.a || !isBox F d.b || !inB d.n 0 1000 then none else
  if (getp C.purses d.a).tokens < fareS C d then none else
  some { C with purses := subp C.purses d.a (fareS C d), boxes := addi C.boxes d.b (fareS C d) }
def bandS (F : Fair) (C : Count) (d : Deal) : Option Count :=
  if !isTill F d.a || !isPurse F d.b || d.n != 0 then none else
  some { C with purses := C.purses.set d.b.toNat ⟨(getp C.purses d.b).tokens, max (getp C.purses d.b).til (wrap64 (d.at_ + F.hours))⟩, cash := addi C.cash d.a F.band }
def backS (F : Fair) (C : Count) (d : Deal) : Option Count :=
  if !isTill F d.a || !isPurse F d.b || !hasB C d.b d.n then none else
  if geti C.cash d.a < wrap64 (d.n * F.refund) then none else
  some { C with purses := subp C.purses d.b d.n, stock := addi C.stock d.a d.n, cash := subi C.cash d.a (wrap64 (d.n * F.refund)) }
def emptyS (F : Fair) (C : Count) (d : Deal) : Option Count :=
  if !isTill F d.a || !isBox F d.b || d.n != 0 then none else
  some { C with stock := addi C.stock d.a (geti C.boxes d.b), boxes := C.boxes.set d.b.toNat 0 }
def giveS (F : Fair) (C : Count) (d : Deal) : Option Count :=
  if !isPurse F d.a || !isPurse F d.b || d.a == d.b || !hasB C d.a d.n then none else
  some { C with purses := addp (subp C.purses d.a d.n) d.b d.n }
def loseS (F : Fair) (C : Count) (d : Deal) : Option Count :=
  if !isPurse F d.a || d.b != 0 || !hasB C d.a d.n then none else
  some { C with purses := subp C.purses d.a d.n, lost := wrap64 (C.lost + d.n) }
def stepS (F : Fair) (C : Count) (d : Deal) : Option Count :=
  if d.kind = 1 then sellS F C d else if d.kind = 2 then rideS F C d else if d.kind = 3 then bandS F C d else if d.kind = 4 then backS F C d
  else if d.kind = 5 then emptyS F C d else if d.kind = 6 then giveS F C d else if d.kind = 7 then loseS F C d else none
def beginS (F : Fair) : Count := { stock := F.stock, cash := F.cash, purses := List.replicate F.purses.toNat ⟨0, 0⟩, boxes := List.replicate F.boxes.toNat 0, lost := 0 }

theorem inB_iff {n lo hi : Int} : inB n lo hi = true ↔ lo ≤ n ∧ n ≤ hi := by simp [inB]
theorem allB_get {l : List Int} {lo hi : Int} (h : allB l lo hi = true) (z : Int) (hz : z ∈ l) : lo ≤ z ∧ z ≤ hi := inB_iff.1 (List.all_eq_true.1 h z hz)
structure Bounds (F : Fair) : Prop where
  s1 : 1 ≤ F.stock.length
  s2 : F.stock.length ≤ 8
  c : F.cash.length = F.stock.length
  p1 : 0 ≤ F.purses
  p2 : F.purses ≤ 20
  x1 : 0 ≤ F.boxes
  x2 : F.boxes ≤ 12
  b : F.bundles.length ≤ 6
  st : ∀ z ∈ F.stock, 0 ≤ z ∧ z ≤ 100000
  ca : ∀ z ∈ F.cash, 0 ≤ z ∧ z ≤ 1000000
  r1 : 0 ≤ F.refund
  r2 : F.refund ≤ 1000
  d1 : 0 ≤ F.band
  d2 : F.band ≤ 1000000
  h1 : 1 ≤ F.hours
  h2 : F.hours ≤ 1440
  bu : ∀ b ∈ F.bundles, 1 ≤ b.tokens ∧ b.tokens ≤ 1000 ∧ 1 ≤ b.price ∧ b.price ≤ 1000000 ∧ F.refund * b.tokens ≤ b.price
theorem wrap64_id {n : Int} (h1 : -9223372036854775808 ≤ n) (h2 : n ≤ 9223372036854775807) : wrap64 n = n := by unfold wrap64; omega
theorem mul_bd {a b A B : Int} (h0 : 0 ≤ a) (h1 : a ≤ A) (h2 : 0 ≤ b) (h3 : b ≤ B) : 0 ≤ a * b ∧ a * b ≤ A * B :=
  ⟨Int.mul_nonneg h0 h2, Int.mul_le_mul h1 h3 h2 (by omega)⟩
theorem bounds_of {F : Fair} (h : validB F = true) : Bounds F := by
  simp only [validB, sizesB, tillsB, pricesB, bundlesB, Bool.and_eq_true, inB_iff, decide_eq_true_eq, List.all_eq_true] at h
  obtain ⟨⟨⟨⟨⟨⟨⟨a1, a2⟩, a3, a4⟩, a5⟩, a6⟩, t1, t2⟩, ⟨⟨p1, p2⟩, p3⟩⟩, bb⟩ := h
  refine ⟨by omega, by omega, by omega, by omega, by omega, by omega, by omega, by omega, allB_get t1, allB_get t2, p1.1, p1.2, p2.1, p2.2, p3.1, p3.2, fun b hb => ?_⟩
  have := bb b hb
  simp only [bundleB, Bool.and_eq_true, inB_iff, Bool.not_eq_true', decide_eq_false_iff_not] at this
  obtain ⟨⟨q1, q2⟩, q3⟩ := this
  have m := mul_bd p1.1 p1.2 (show 0 ≤ b.tokens by omega) q1.2
  rw [wrap64_id (by omega) (by omega)] at q3
  exact ⟨q1.1, q1.2, q2.1, q2.2, by omega⟩

end Go.Proofs.Ytaocgkmobfocjaa
