/- Plain functions and facts of layer 3 (force): changes, what a rider feels, limits. No program, no memory. -/
import Derived.RowKit
namespace Go.Proofs.Ytkmiapfkebdpbaa
open Go.RowKit

structure Pt where
  x : Int
  y : Int
  z : Int
structure Chg where
  ph : Nat
  bf : Nat
  af : Nat
structure Lim where
  side : Int
  low : Int
  high : Int
def ptAt (t : List Pt) (k : Nat) : Pt := t[k]?.getD ⟨0, 0, 0⟩
/-- The phase n of which a number stands for. -/
theorem tmod_wrap (a n : Int) (h : 0 < n) : (a.tmod n + n).tmod n = a % n := by
  have h1 : -n < a.tmod n := Int.lt_tmod_of_pos a h
  have h2 : (a.tmod n + n).tmod n = (a.tmod n + n) % n := Int.tmod_eq_emod_of_nonneg (by omega)
  rw [h2, Int.add_emod_right]
  have h3 := Int.mul_tdiv_add_tmod a n
  have h4 : a % n = (a.tmod n + n * (a.tdiv n)) % n := by congr 1; omega
  rw [h4, Int.add_mul_emod_self_left]
/-- What a rider feels. -/
def feltZ (t : List Pt) (c : Chg) : Pt :=
  let a := ptAt t ((c.ph + c.af) % t.length)
  let b := ptAt t c.ph
  let d := ptAt t (((c.ph : Int) - (c.bf : Int)) % (t.length : Int)).toNat
  ⟨a.x - 2 * b.x + d.x, a.y - 2 * b.y + d.y, a.z - 2 * b.z + d.z + 1000⟩
def sideZ (p : Pt) : Int := p.x * p.x + p.y * p.y
def keptB (x : Lim) (p : Pt) : Bool := decide (sideZ p ≤ x.side * x.side) && decide (x.low ≤ p.z) && decide (p.z ≤ x.high)

/-- The speeds that differ from v by at most step, in order: as the specification looks for them. -/
def nextR (top step v : Nat) : List Nat := (List.range (top + 1)).filter fun w => decide (v ≤ w + step) && decide (w ≤ v + step)
/-- As the program goes through them. -/
def nextP (top step v : Nat) : List Nat := List.range' (v - step) (min top (v + step) + 1 - (v - step))
theorem filter_range_between (lo hi : Nat) : ∀ n, (List.range n).filter (fun w => decide (lo ≤ w) && decide (w ≤ hi)) = List.range' lo (min n (hi + 1) - lo) := by
  intro n
  induction n with
  | zero => simp
  | succ n ih =>
    rw [List.range_succ, List.filter_append, ih]
    by_cases h1 : lo ≤ n
    · by_cases h2 : n ≤ hi
      · have e : min (n + 1) (hi + 1) - lo = (min n (hi + 1) - lo) + 1 := by omega
        rw [e, List.range'_concat]
        simp [h1, h2]
        omega
      · have e : min (n + 1) (hi + 1) - lo = min n (hi + 1) - lo := by omega
        rw [e]; simp [h2]
    · have e : min (n + 1) (hi + 1) - lo = min n (hi + 1) - lo := by omega
      rw [e]; simp [h1]
theorem next_eq (top step v : Nat) : nextR top step v = nextP top step v := by
  have h := filter_range_between (v - step) (v + step) (top + 1)
  have e : (fun w : Nat => decide (v ≤ w + step) && decide (w ≤ v + step)) = fun w => decide (v - step ≤ w) && decide (w ≤ v + step) := by
    funext w
    have : decide (v ≤ w + step) = decide (v - step ≤ w) := by simp only [decide_eq_decide]; omega
    rw [this]
  unfold nextR nextP
  rw [e, h]
  congr 1
  omega
/-- All changes that are possible, in their order. -/
def chgs (n top step : Nat) : List Chg := (List.range n).flatMap fun p => (List.range (top + 1)).flatMap fun v => (nextR top step v).map fun w => ⟨p, v, w⟩
def keepsZ (t : List Pt) (top step : Nat) (x : Lim) : Chg × Bool :=
  match (chgs t.length top step).find? (fun c => !keptB x (feltZ t c)) with
  | none => (⟨0, 0, 0⟩, true)
  | some c => (c, false)
theorem keepsZ_true (t : List Pt) (top step : Nat) (x : Lim) : (keepsZ t top step x).2 = true ↔ ∀ c ∈ chgs t.length top step, keptB x (feltZ t c) = true := by
  unfold keepsZ
  cases h : (chgs t.length top step).find? (fun c => !keptB x (feltZ t c)) with
  | none => simpa using h
  | some c =>
    have h1 := List.find?_some h
    have h2 := List.mem_of_find?_eq_some h
    simp only [Bool.false_eq_true, false_iff]
    intro ha
    rw [ha c h2] at h1
    simp at h1
theorem mem_chgs (n top step : Nat) (c : Chg) : c ∈ chgs n top step ↔ c.ph < n ∧ c.bf ≤ top ∧ c.af ≤ top ∧ c.bf ≤ c.af + step ∧ c.af ≤ c.bf + step := by
  obtain ⟨p, v, w⟩ := c
  simp only [chgs, nextR, List.mem_flatMap, List.mem_map, List.mem_filter, List.mem_range, Bool.and_eq_true, decide_eq_true_eq, Chg.mk.injEq]
  constructor
  · rintro ⟨p', h1, v', h2, w', ⟨h3, h4, h5⟩, rfl, rfl, rfl⟩
    omega
  · rintro ⟨h1, h2, h3, h4, h5⟩
    exact ⟨p, h1, v, by omega, w, ⟨by omega, by omega, by omega⟩, rfl, rfl, rfl⟩
/-- With less speed, or lesser changes, what was kept is kept. -/
theorem keeps_less {t : List Pt} {top step top' step' : Nat} {x : Lim} (h : (keepsZ t top step x).2 = true) (h1 : top' ≤ top) (h2 : step' ≤ step) : (keepsZ t top' step' x).2 = true := by
  rw [keepsZ_true] at *
  intro c hc
  rw [mem_chgs] at hc
  exact h c (by rw [mem_chgs]; omega)
end Go.Proofs.Ytkmiapfkebdpbaa
