/- Contracts of sameInts, Example and works. Conditions: the arguments read as data. -/
import Derived.Test.YtpcceankhgjjmaaWu
namespace Go.Proofs.Ytpcceankhgjjmaa
open Go.RowKit

theorem take_eq_of {xs ys : List Int} (hl : xs.length = ys.length) (h : ∀ j, j < xs.length → xs[j]?.getD 0 = ys[j]?.getD 0) : xs = ys := by
  apply List.ext_getElem? 
  intro j
  rcases Nat.lt_or_ge j xs.length with hj | hj
  · have := h j hj
    rw [List.getElem?_eq_getElem hj, List.getElem?_eq_getElem (by omega)] at this ⊢
    simpa using this
  · rw [List.getElem?_eq_none hj, List.getElem?_eq_none (by omega)]

set_option maxHeartbeats 1000000 in
theorem sameInts_any (xs ys : List Int) (A A' : Option Addr) (n m c c' B B' : Nat) (w : World) (hr : Reads w B 1 A n (intCells xs)) (hs : Reads w B' 1 A' m (intCells ys)) (hn : n ≤ maxLen) (hm : m ≤ maxLen) :
    Calls Try.prog 29 #[.slice A n c, .slice A' m c'] w fun e w' => e = .returned (.bool (decide (xs = ys))) ∧ KeptBut [] w w' := by
  unfold maxLen at hn hm
  have hx : xs.length = n := by simpa [intCells] using hr.1
  have hy : ys.length = m := by simpa [intCells] using hs.1
  by_cases hnm : n = m
  · subst hnm
    have Hx := Lib.hid hx
    have Hy := Lib.hid hy
    clear hx hy
    go_enter Try.func29, Try.ntmps29
    go_wp2_with fail
    go_loopw [5] (fun i wr => ∃ k : Nat, k ≤ n ∧ i = .int .i64 k ∧ KeptBut [] w wr ∧ ∀ j, j < k → xs[j]?.getD 0 = ys[j]?.getD 0) (fun i _ => n - (intOf i).toNat)
    case atStart => exact ⟨0, Nat.zero_le _, rfl, KeptBut.refl _ _, fun j h => absurd h (by omega)⟩
    case round =>
      obtain ⟨k, hk, rfl, hkr, hall⟩ := hrel
      have Hall := Lib.hid hall
      clear hall
      by_cases hlt : k < n
      · have hkeep : ∀ p : Addr, p.block < w.heap.size → wr.cell? p = w.cell? p := fun p hp => World.cell?_of_block (hkr.block p.block hp (by simp))
        obtain ⟨b, o, rfl, hb, hc⟩ := hr.at1 hlt
        obtain ⟨b', o', rfl, hb', hc'⟩ := hs.at1 hlt
        have q1 := hc k hlt
        have q2 := hc' k hlt
        have l1 := World.new_ne w _ q1
        have l2 := World.new_ne w _ q2
        have bl1 : b < w.heap.size := by
          rcases Nat.lt_or_ge b w.heap.size with h | h
          · exact h
          · simp [World.cell?, Array.getElem?_eq_none h] at q1
        have bl2 : b' < w.heap.size := by
          rcases Nat.lt_or_ge b' w.heap.size with h | h
          · exact h
          · simp [World.cell?, Array.getElem?_eq_none h] at q2
        have p1 := (hkeep ⟨b, o + k, none⟩ bl1).trans q1
        have p2 := (hkeep ⟨b', o' + k, none⟩ bl2).trans q2
        clear hc hc' q1 q2 l1 l2 hkeep
        have hk1 : (k : Int) < (n : Int) := by omega
        by_cases he : xs[k]?.getD 0 = ys[k]?.getD 0
        · have he1 : (xs[k]?.getD 0 != ys[k]?.getD 0) = false := by simpa using he
          have He := Lib.hid he
          clear he
          go_wp2_with fail
          go_quiet (fail)
          go_wp2_with fail
          go_roundw
          case rel => exact ⟨k + 1, by omega, by go_num, hkr.drewN _, fun j hj => by
            rcases Nat.lt_or_ge j k with h | h
            · exact Hall.out j h
            · obtain rfl : j = k := by omega
              exact He.out⟩
          case measure => simp [intOf]; omega
        · have he1 : (xs[k]?.getD 0 != ys[k]?.getD 0) = true := by simpa using he
          have He := Lib.hid he
          clear he
          go_wp2_with fail
          go_quiet (fail)
          go_wp2_with fail
          go_ret
          refine ⟨ret_bool ?_, hkr.drewN _⟩
          rw [eq_comm, decide_eq_false_iff_not]
          intro h
          exact He.out (by rw [h])
      · have hk1 : ¬ (k : Int) < (n : Int) := by omega
        go_wp2_with fail
        go_ret
        refine ⟨ret_bool ?_, hkr⟩
        rw [eq_comm, decide_eq_true_eq]
        exact take_eq_of (Hx.out.trans Hy.out.symm) fun j hj => Hall.out j (by have := Hx.out; omega)
  · have hne : ((n : Int) != (m : Int)) = true := by rw [bne_iff_ne]; omega
    have hd : Hid (decide (xs = ys) = false) := by
      show _ = _
      rw [decide_eq_false_iff_not]
      intro h
      rw [h] at hx
      omega
    clear hx hy hnm
    go_enter Try.func29, Try.ntmps29
    go_wp2_with fail
    go_ret
    exact ⟨ret_bool hd.out.symm, KeptBut.refl _ _⟩

theorem row_new (w : World) (t : TypeId) (cs : Array Value) (g : Nat) (hg : g = w.heap.size) : Row (w.alloc (.cells cs t)) g t cs.toList := by subst hg; exact Row.new w t cs
def exF : Fair := { purses := 2, boxes := 2, stock := [100, 50], cash := [0, 1000], bundles := exB, refund := 150, band := 2500, hours := 180 }
def ExPost (w : World) (e : Ending) (w' : World) : Prop := ∃ R, Below w.heap.size w w' ∧ e = .returned (fairV exF R) ∧ FairIn w' w'.heap.size exF R

set_option maxHeartbeats 1000000 in
set_option maxRecDepth 100000 in
theorem Example_any (w : World) : Calls Try.prog 42 #[] w (ExPost w) := by
  go_enter Try.func42, Try.ntmps42
  go_wp2_with fail
  refine bodyPost_ret (v := .agg #[.int .i64 2, .int .i64 2, .slice (some ⟨w.heap.size + 1, 0, none⟩) 2 2, .slice (some ⟨w.heap.size + 2, 0, none⟩) 2 2, .slice (some ⟨w.heap.size + 3, 0, none⟩) 2 2, .int .i64 150, .int .i64 2500, .int .i64 180]) (by simp [results, Try.results42, go_sem]) rfl ?_
  refine ⟨⟨some ⟨w.heap.size + 1, 0, none⟩, 2, some ⟨w.heap.size + 2, 0, none⟩, 2, some ⟨w.heap.size + 3, 0, none⟩, 2⟩, ?_, rfl, ?_⟩
  · repeat (first | (with_reducible exact Below.refl _ _) | (with_reducible refine Below.alloc ?_ (by simp <;> omega) _))
  · refine ⟨Row.reads (t := 3) (g := w.heap.size + 1) ?_ rfl (by simp), Row.reads (t := 3) (g := w.heap.size + 2) ?_ rfl (by simp), Row.reads (t := 67) (g := w.heap.size + 3) ?_ rfl (by simp), by decide, by decide, by decide⟩
    · show Row _ _ _ [.int .i64 100, .int .i64 50]
      repeat (first | exact row_new _ _ _ _ (by simp; done) | (with_reducible refine Row.alloc ?_ _))
    · show Row _ _ _ [.int .i64 0, .int .i64 1000]
      repeat (first | exact row_new _ _ _ _ (by simp; done) | (with_reducible refine Row.alloc ?_ _))
    · show Row _ _ _ [.int .i64 1, .int .i64 200, .int .i64 6, .int .i64 1000]
      repeat (first | exact row_new _ _ _ _ (by simp; done) | (with_reducible refine Row.alloc ?_ _))

def exL : List Deal := [⟨5, 1, 0, 0, 1⟩, ⟨10, 2, 0, 1, 4⟩, ⟨20, 4, 1, 0, 1⟩]
set_option maxRecDepth 10000 in
theorem acc_ex : accS exF exL = ([6, 4, 1, 1, 0, 850], 0) := by decide +kernel
theorem buy_ex : buyS exF 7 = ([1, 1], 1200, 0) := by
  have h1 : validB exF = true := by decide +kernel
  have h2 : inB 7 0 1000 = true := by decide
  simp only [buyS, h1, h2, Bool.true_eq_false, if_false]
  have h3 : ¬ ((0 : Int) < 7 ∧ exF.bundles.length = 0) := by decide
  rw [if_neg h3, show Int.toNat 7 = 7 from rfl]
  have := cheap_ex
  simp only [exF, this]
def WPost (w : World) (e : Ending) (w' : World) : Prop := e = .returned (.bool true) ∧ Below w.heap.size w w'

set_option maxHeartbeats 2000000 in
set_option maxRecDepth 100000 in
theorem works_any (w : World) : Calls Try.prog 15 #[] w (WPost w) := by
  go_enter Try.func15, Try.ntmps15
  go_wp2_with fail
  obtain ⟨W, hW⟩ : ∃ W, W = w.alloc (.cells (dealCells exL).toArray 65) := ⟨_, rfl⟩
  refine (Example_any _).mono ?_
  rintro e w1 ⟨R, hb1, rfl, hF1⟩
  have hrow : Row w1 w.heap.size 65 (dealCells exL) := Row.below (row_new w _ _ _ rfl) hb1 (by simp)
  have b1 : Below w.heap.size w w1 := below_step ((Below.refl _ _).alloc (Nat.le_refl _) _) hb1
  have hsz := hrow.lt
  clear hW
  go_wp2_with fail
  refine (Account_any exF R exL (some ⟨w.heap.size, 0, none⟩) 3 w1.heap.size w1 (Nat.le_refl _) hF1 (hrow.reads rfl hsz) (by decide)).mono ?_
  rintro e w2 ⟨hb2, rfl⟩
  rw [acc_ex]
  have b2 := below_step b1 hb2
  simp only [intCells, List.map_cons, List.map_nil]
  go_wp2_with fail
  refine (Example_any _).mono ?_
  rintro e w3 ⟨R', hb3, rfl, hF3⟩
  go_wp2_with fail
  refine (Buy_any exF R' 7 w3 w3.heap.size (Nat.le_refl _) hF3).mono ?_
  rintro e w4 ⟨hb4, A, m, c, rfl, hrd, hm⟩
  rw [buy_ex] at hrd ⊢
  have r42 : Row w4 w2.heap.size 42 [.int .i64 6, .int .i64 4, .int .i64 1, .int .i64 1, .int .i64 0, .int .i64 850] :=
    Row.below (Row.below (row_new w2 _ #[.int .i64 6, .int .i64 4, .int .i64 1, .int .i64 1, .int .i64 0, .int .i64 850] _ rfl) hb3 (by simp)) hb4 (by have := hb3.size; simp at this; omega)
  obtain ⟨_, k0, k1, k2, k3, k4, k5⟩ := six r42
  have b3 : Below w.heap.size w w3 := below_step (b2.alloc b2.size _) hb3
  have b4 : Below w.heap.size w w4 := below_step b3 hb4
  go_wp2_with fail
  refine (sameInts_any [1, 1] [1, 1] A _ m 2 c 2 w4.heap.size (w4.heap.size + 1) _ (hrd.alloc (Nat.le_refl _) _) ((row_new w4 _ _ _ rfl).reads rfl (by omega)) (by unfold maxLen; omega) (by decide)).mono ?_
  rintro e w5 ⟨rfl, hk5⟩
  have b5 : Below w.heap.size w w5 := (b4.alloc b4.size _).trans (hk5.to_below (by have := b4.size; simp; omega) (by simp))
  go_wp2_with fail
  go_ret
  exact ⟨rfl, b5⟩
end Go.Proofs.Ytpcceankhgjjmaa
