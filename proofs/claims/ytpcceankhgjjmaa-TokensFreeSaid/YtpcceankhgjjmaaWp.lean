/- Plain functions: what purchases and cheapest compute. No program, no memory. -/
import Derived.Test.YtpcceankhgjjmaaSpec
namespace Go.Proofs.Ytpcceankhgjjmaa
open Go.RowKit

structure Way where
  can : Bool
  price : Int
  bundle : Int
def getw (l : List Way) (k : Nat) : Way := l[k]?.getD ⟨false, 0, 0⟩
/-- One bundle, number i, tried at t tokens. -/
def tryB (ws : List Way) (t : Nat) (i : Nat) (b : Bundle) : List Way :=
  if (t : Int) < b.tokens || !(getw ws (t - b.tokens.toNat)).can then ws else
  if !(getw ws t).can || decide (wrap64 ((getw ws (t - b.tokens.toNat)).price + b.price) < (getw ws t).price) then ws.set t ⟨true, wrap64 ((getw ws (t - b.tokens.toNat)).price + b.price), i⟩ else ws
/-- The bundles from number i on, tried at t tokens. -/
def rowB (t : Nat) : List Bundle → Nat → List Way → List Way
  | [], _, ws => ws
  | b :: l, i, ws => rowB t l (i + 1) (tryB ws t i b)
def startW (most : Nat) : List Way := (List.replicate (most + 1) ⟨false, 0, 0⟩).set 0 ⟨true, 0, 0⟩
/-- The ways behind the rounds for 1 to k tokens. -/
def waysK (l : List Bundle) (most : Nat) : Nat → List Way
  | 0 => startW most
  | k + 1 => rowB (k + 1) l 0 (waysK l most k)
theorem tryB_length (ws : List Way) (t i : Nat) (b : Bundle) : (tryB ws t i b).length = ws.length := by
  unfold tryB
  split
  · rfl
  · split <;> simp
theorem rowB_length (t : Nat) (l : List Bundle) : ∀ i ws, (rowB t l i ws).length = ws.length := by
  induction l with
  | nil => intro i ws; rfl
  | cons b l ih => intro i ws; rw [rowB, ih, tryB_length]
theorem waysK_length (l : List Bundle) (most k : Nat) : (waysK l most k).length = most + 1 := by
  induction k with
  | zero => simp [waysK, startW]
  | succ k ih => rw [waysK, rowB_length, ih]
theorem rowB_append (t : Nat) (l m : List Bundle) : ∀ i ws, rowB t (l ++ m) i ws = rowB t m (i + l.length) (rowB t l i ws) := by
  induction l with
  | nil => intro i ws; simp [rowB]
  | cons b l ih => intro i ws; simp only [List.cons_append, rowB, List.length_cons]; rw [ih]; congr 1; omega
theorem rowB_succ (t : Nat) (l : List Bundle) (k : Nat) (hk : k < l.length) (ws : List Way) : rowB t (l.take (k + 1)) 0 ws = tryB (rowB t (l.take k) 0 ws) t k (getb l k) := by
  rw [List.take_succ_eq_append_getElem hk, rowB_append]
  simp only [rowB, getb, Int.toNat_natCast, List.getElem?_eq_getElem hk, Option.getD_some, List.length_take, Nat.zero_add]
  rw [Nat.min_eq_left (by omega)]
/-- The first of the best ways from n tokens on: behind the looks at n to n + k - 1. -/
def bestK (ws : List Way) (n : Nat) : Nat → Nat
  | 0 => n
  | k + 1 => if (getw ws (n + k)).can && (!(getw ws (bestK ws n k)).can || decide ((getw ws (n + k)).price < (getw ws (bestK ws n k)).price)) then n + k else bestK ws n k
/-- How often each bundle is bought on the way to t tokens. -/
def traceB (l : List Bundle) (ws : List Way) : Nat → Int → List Int → List Int
  | 0, _, cs => cs
  | f + 1, t, cs => if 0 < t then traceB l ws f (t - (getb l (getw ws t.toNat).bundle).tokens) (addi cs (getw ws t.toNat).bundle 1) else cs
def cheapS (l : List Bundle) (n : Nat) : List Int × Int :=
  let ws := waysK l (n + 999) (n + 999)
  let b := bestK ws n 1000
  (traceB l ws (b + 1) b (List.replicate l.length 0), (getw ws b).price)
end Go.Proofs.Ytpcceankhgjjmaa
