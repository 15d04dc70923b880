/- Contract of the law's sameInts at equal lists; sums. Conditions: the lists read as data. -/
import Derived.Test.YtjkilikbbkkcnaaEo
namespace Go.Proofs.Ytjkilikbbkkcnaa
open Go.RowKit

set_option maxHeartbeats 1000000 in
theorem sameInts_eq (xs : List Int) (A A' : Option Addr) (c c' B B' : Nat) (w : World) (hr : Reads w B 1 A xs.length (xs.map (Value.int .i64))) (hs : Reads w B' 1 A' xs.length (xs.map (Value.int .i64))) (hB : B ≤ w.heap.size) (hB' : B' ≤ w.heap.size) (hm : xs.length ≤ 1000) :
    Calls Try.prog 29 #[.slice A xs.length c, .slice A' xs.length c'] w fun e w' => e = .returned (.bool true) ∧ Below w.heap.size w w' := by
  have HR := Lib.hid hr
  have HS := Lib.hid hs
  clear hr hs
  go_enter Try.func29, Try.ntmps29
  go_wp2_with fail
  go_loopw [5] (fun i wr => ∃ k : Nat, k ≤ xs.length ∧ i = .int .i64 k ∧ Below w.heap.size w wr) (fun i _ => xs.length - (intOf i).toNat)
  case atStart => exact ⟨0, Nat.zero_le _, rfl, Below.refl _ _⟩
  case round =>
    obtain ⟨k, hk, rfl, hbel⟩ := hrel
    have HB := Lib.hid hbel
    by_cases hlt : k < xs.length
    · have hlt' : (k : Int) < (xs.length : Int) := by omega
      obtain ⟨b, o, rfl, hb, hc⟩ := HR.out.2 (by omega)
      obtain ⟨b', o', rfl, hb', hc'⟩ := HS.out.2 (by omega)
      have hx : (xs.map (Value.int .i64))[k]? = some (.int .i64 xs[k]) := by rw [List.getElem?_map, List.getElem?_eq_getElem hlt]; rfl
      have hb1 : b < w.heap.size := by omega
      have hb1' : b' < w.heap.size := by omega
      have q1 := (hbel.cell (p := ⟨b, o + k, none⟩) hb1).trans (hc k _ hx)
      have q2 := (hbel.cell (p := ⟨b', o' + k, none⟩) hb1').trans (hc' k _ hx)
      have l1 : b < wr.heap.size := Nat.lt_of_lt_of_le hb1 hbel.size
      have l2 : b' < wr.heap.size := Nat.lt_of_lt_of_le hb1' hbel.size
      have e1 : IntKind.i64.wrap ((k : Int) + 1) = (k : Int) + 1 := IntWalk.i64_in _ (by omega)
      generalize xs[k] = x at q1 q2
      clear hc hc' hx hbel
      go_upto_region 6 with fail
      go_quiet (fail)
      go_wp2_with fail
      go_roundw
      case rel => exact ⟨k + 1, by omega, by go_num, below_drewN HB.out _⟩
      case measure => simp [intOf]; omega
    · have hge : ¬ (k : Int) < (xs.length : Int) := by omega
      go_wp2_with fail
      go_ret
      exact ⟨rfl, HB.out⟩
def sumT (g : Nat → Int) : Nat → Int
  | 0 => 0
  | k + 1 => sumT g k + g k
theorem sumT_front (g : Nat → Int) : ∀ n, sumT g (n + 1) = g 0 + sumT (fun i => g (i + 1)) n := by
  intro n
  induction n with
  | zero => simp [sumT]
  | succ n ih =>
    rw [show sumT g (n + 1 + 1) = sumT g (n + 1) + g (n + 1) from rfl, ih]
    simp only [sumT]
    omega
theorem sumT_list : ∀ l : List Int, l.foldr (· + ·) 0 = sumT (fun i => l.getD i 0) l.length := by
  intro l
  induction l with
  | nil => rfl
  | cons x l ih =>
    rw [List.length_cons, sumT_front, List.foldr_cons, ih]
    simp
theorem sumT_congr {g h : Nat → Int} : ∀ n, (∀ i, i < n → g i = h i) → sumT g n = sumT h n := by
  intro n
  induction n with
  | zero => intro _; rfl
  | succ n ih =>
    intro hh
    simp only [sumT]
    rw [ih fun i hi => hh i (by omega), hh n (by omega)]
theorem sumT_sub (g h : Nat → Int) : ∀ n, sumT (fun i => g i - h i) n = sumT g n - sumT h n := by
  intro n
  induction n with
  | zero => rfl
  | succ n ih => simp only [sumT, ih]; omega
theorem sumT_bd {g : Nat → Int} (M : Nat) : ∀ n, (∀ i, i < n → -(M : Int) ≤ g i ∧ g i ≤ (M : Int)) → -((n * M : Nat) : Int) ≤ sumT g n ∧ sumT g n ≤ ((n * M : Nat) : Int) := by
  intro n
  induction n with
  | zero => intro _; simp [sumT]
  | succ n ih =>
    intro h
    have h1 := ih fun i hi => h i (by omega)
    have h2 := h n (by omega)
    simp only [sumT]
    rw [show (n + 1) * M = n * M + M by rw [Nat.add_mul, Nat.one_mul]]
    omega
/-- What the rides have been paid by the visits. -/
def paidZ (cost : Nat → Nat → Int) (nr : Nat) (L : List VisZ) : List Int := (List.range nr).map fun r => paidL cost r L
theorem paidZ_len (cost : Nat → Nat → Int) (nr : Nat) (L : List VisZ) : (paidZ cost nr L).length = nr := by simp [paidZ]
theorem paidZ_at (cost : Nat → Nat → Int) {nr : Nat} (L : List VisZ) {r : Nat} (hr : r < nr) : (paidZ cost nr L)[r]? = some (paidL cost r L) := by
  unfold paidZ
  rw [List.getElem?_map, List.getElem?_range hr]
  rfl
theorem paidZ_off (cost : Nat → Nat → Int) (nr : Nat) (L : List VisZ) (v : VisZ) (h : v.on = false) : paidZ cost nr (L ++ [v]) = paidZ cost nr L := by
  unfold paidZ
  refine List.map_congr_left fun r _ => ?_
  rw [paidL_snoc, if_neg (by simp [h]), Int.add_zero]
theorem paidZ_on (cost : Nat → Nat → Int) (nr : Nat) (L : List VisZ) (v : VisZ) (h : v.on = true) : paidZ cost nr (L ++ [v]) = (paidZ cost nr L).set v.ride (paidL cost v.ride L + cost v.group v.ride) := by
  refine List.ext_getElem? fun r => ?_
  rw [List.getElem?_set]
  by_cases hr : r < nr
  · rw [paidZ_at _ _ hr, paidL_snoc]
    by_cases e : v.ride = r
    · subst e
      have hl : v.ride < (paidZ cost nr L).length := by rw [paidZ_len]; exact hr
      rw [if_pos rfl, if_pos hl, if_pos ⟨h, rfl⟩]
    · rw [if_neg e, if_neg (fun h' => e h'.2), Int.add_zero, paidZ_at _ _ hr]
  · have h1 : (paidZ cost nr (L ++ [v]))[r]? = none := List.getElem?_eq_none (by rw [paidZ_len]; omega)
    have h2 : (paidZ cost nr L)[r]? = none := List.getElem?_eq_none (by rw [paidZ_len]; omega)
    rw [h1, h2]
    by_cases e : v.ride = r
    · rw [if_pos e, if_neg (by rw [paidZ_len]; omega)]
    · rw [if_neg e]
end Go.Proofs.Ytjkilikbbkkcnaa
