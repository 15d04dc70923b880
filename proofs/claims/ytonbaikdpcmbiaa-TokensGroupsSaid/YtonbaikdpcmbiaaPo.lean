/- Plain functions: what the specification's prices and Buy compute. No program, no memory. -/
import Derived.Test.YtonbaikdpcmbiaaSpec
namespace Go.Proofs.Ytonbaikdpcmbiaa
open Go.RowKit

/-- The least of a price and of the prices with one of the bundles last. -/
def minB (os : List Int) (t : Nat) : List Bundle → Int → Int
  | [], a => a
  | b :: bs, a => minB os t bs (if b.tokens ≤ t then min a (wrap64 (geti os ((t : Int) - b.tokens) + b.price)) else a)
/-- The least prices of 0 to k tokens. -/
def prL (bs : List Bundle) : Nat → List Int
  | 0 => [0]
  | k + 1 => prL bs k ++ [minB (prL bs k) (k + 1) bs 1125899906842624]
theorem prL_length (bs : List Bundle) (k : Nat) : (prL bs k).length = k + 1 := by
  induction k with
  | zero => rfl
  | succ k ih => simp [prL, ih]
theorem geti_app (l m : List Int) (t : Nat) (h : t < l.length) : geti (l ++ m) t = geti l t := by
  simp [geti, List.getElem?_append_left h]
/-- The first of the least prices from n tokens on: behind the looks at n to n + k - 1. -/
def bestR (os : List Int) (n : Nat) : Nat → Nat
  | 0 => n
  | k + 1 => if geti os ((n + k : Nat) : Int) < geti os (bestR os n k : Nat) then n + k else bestR os n k
/-- How many of a bundle: the greatest number from m down with which the rest can be bought for just the rest of the price. -/
def cntS (rest : List Int) (left price : Int) (b : Bundle) : Nat → Nat
  | 0 => 0
  | c + 1 => if price < wrap64 (((c + 1 : Nat) : Int) * b.price) then cntS rest left price b c else
    if geti rest (wrap64 (left - wrap64 (((c + 1 : Nat) : Int) * b.tokens))) = wrap64 (price - wrap64 (((c + 1 : Nat) : Int) * b.price)) then c + 1 else cntS rest left price b c
structure BSt where
  out : List Int
  left : Int
  price : Int
/-- Behind the first i bundles. -/
def stR (l : List Bundle) (best : Nat) (price : Int) : Nat → BSt
  | 0 => ⟨[], best, price⟩
  | i + 1 =>
    let s := stR l best price i
    let c := cntS (prL (l.drop (i + 1)) s.left.toNat) s.left s.price (getb l i) (s.left.tdiv (getb l i).tokens).toNat
    ⟨s.out ++ [(c : Int)], wrap64 (s.left - wrap64 ((c : Int) * (getb l i).tokens)), wrap64 (s.price - wrap64 ((c : Int) * (getb l i).price))⟩

end Go.Proofs.Ytonbaikdpcmbiaa
