/- Contract of the specification's Price. Conditions: an evening, groups and prices that read as data; at most 40 prices. -/
import Derived.RangeFuncBox
import Derived.RangeFuncLeaves
import Derived.Shelf.Abstract
import Derived.WalkKit
import Derived.OwnWalkIn
import Derived.TacticsInMore
import Derived.LoopNIn
import Derived.LoopIn
import Derived.Maps.AppendAt
import Derived.Test.YtijbhcdnbaaobaaRow
import Derived.Test.YtijbhcdnbaaobaaDt
import Derived.Test.YtijbhcdnbaaobaaSi
import Derived.Lib.SortBridge
import Derived.Lib.SlBuf
import Derived.Lib.Hide
import Derived.Test.YtijbhcdnbaaobaaCb
/- slices.Sorted of slices.Values at numbers. Conditions: numbers in a row, one at least and a thousand at most. -/
namespace Go.Proofs.Ytijbhcdnbaaobaa
open Go.RowKit Go.Shelf
attribute [local go_sem] Oper.semAt_some

set_option maxRecDepth 100000 in
set_option maxHeartbeats 2000000 in
theorem vals_each (n : Nat) (hn : 1 ≤ n) (l Bs m b off c : Nat) (zs : List Int) (hz : zs.length ≤ 1000) (hb : b < m) (J Jx : List Int → World → Prop)
    (hY : ∀ pre x X, J pre X → pre.length < zs.length → YieldAt Fence.wide (n - 1) Try.prog l #[.int .i64 x] X fun e X' => (e = .returned (.bool true) ∧ J (pre ++ [x]) X' ∧ Below m X X') ∨ (e = .returned (.bool false) ∧ Jx (pre ++ [x]) X'))
    (W : World) (hBs : W.cell? ⟨Bs, 0, none⟩ = some (.slice (some ⟨b, off, none⟩) zs.length c)) (hc : ∀ j (h : j < zs.length), W.cell? ⟨b, off + j, none⟩ = some (.int .i64 zs[j])) (h0 : J [] W) :
    CallsIn Fence.wide n Try.prog 86 #[.func (.yield l) #[] #[], .pointer (some ⟨Bs, 0, none⟩)] W fun e W' => (∃ v, e = .returned v) ∧ ((∃ ys, ys = zs ∧ J ys W') ∨ ∃ pre, pre <+: zs ∧ Jx pre W') := by
  refine callsIn_of_wp Try.func86 rfl trivial ?_ rfl
  simp only [Try.ntmps86, List.size_toArray, List.length_cons, List.length_nil, Nat.reduceAdd, Nat.reduceSub, Array.replicate_succ, Array.replicate_zero, List.push_toArray, List.append_toArray, List.nil_append, List.cons_append]
  gi_wp2
  gi_loopw [7] (fun i wr => ∃ k : Nat, k ≤ zs.length ∧ i = .int .i64 k ∧ J (zs.take k) wr ∧ Below m W wr) (fun i _ => zs.length - (intOf i).toNat)
  case atStart => exact ⟨0, Nat.zero_le _, rfl, h0, Below.refl _ _⟩
  case round =>
    obtain ⟨k, hk, rfl, hJ, hK⟩ := hrel
    by_cases hlt : k < zs.length
    · have hcx := (hK.cell (p := ⟨b, off + k, none⟩) hb).trans (hc k hlt)
      have ht : zs.take (k + 1) = zs.take k ++ [zs[k]] := by rw [List.take_add_one, List.getElem?_eq_getElem hlt]; rfl
      have hlz : (zs.take k).length < zs.length := by rw [List.length_take]; omega
      have hY1 := hY (zs.take k) zs[k] wr hJ hlz
      rw [← ht] at hY1
      have hin : (k : Int) < (zs.length : Int) := by omega
      have ew : IntKind.i64.wrap ((k : Int) + 1) = (k : Int) + 1 := IntWalk.i64_in _ (by omega)
      generalize zs[k] = x at hcx hY1
      clear ht hlz hY hc
      obtain ⟨fn, tmps, assign, body, hy, hR⟩ := hY1
      gi_wp2
      refine hR.mono ?_
      rintro e W3 (⟨rfl, hJ3, hk3⟩ | ⟨rfl, hJx3⟩)
      · gi_wp2
        go_roundw
        case rel => exact ⟨k + 1, by omega, by simp, hJ3, hK.trans hk3⟩
        case measure => simp [intOf]; omega
      · gi_wp2
        refine bodyPost_ret (results_none rfl _ _ _) rfl ?_
        exact ⟨⟨_, rfl⟩, .inr ⟨_, List.take_prefix _ _, hJx3⟩⟩
    · obtain rfl : k = zs.length := by omega
      gi_wp2
      go_end0
      exact ⟨⟨_, rfl⟩, .inl ⟨_, List.take_length, hJ⟩⟩
theorem vals_stops (n : Nat) (hn : 1 ≤ n) (Bs m b off c : Nat) (zs : List Int) (hz : zs.length ≤ 1000) (hb : b < m) (w : World) (hBl : Bs < w.heap.size) (hm : m ≤ w.heap.size) (hBs : w.cell? ⟨Bs, 0, none⟩ = some (.slice (some ⟨b, off, none⟩) zs.length c)) (hc : ∀ j (h : j < zs.length), w.cell? ⟨b, off + j, none⟩ = some (.int .i64 zs[j])) :
    SeqStopsK Fence.wide n Try.prog 86 #[.pointer (some ⟨Bs, 0, none⟩)] (fun x : Int => #[Value.int .i64 x]) (Below m) (fun ys => ys = zs) (fun pre => pre <+: zs) zs.length w := fun l J Jx W hW _ _ hY h0 =>
  vals_each n hn l Bs m b off c zs hz hb J Jx hY W ((hW.cell (p := ⟨Bs, 0, none⟩) hBl).trans hBs) (fun j h => (hW.cell (p := ⟨b, off + j, none⟩) (show b < w.heap.size by omega)).trans (hc j h)) h0
theorem Try.info_intS : (Try.prog.info? 3).map (fun i => (i.zero, i.size, i.bytes)) = some (some (.int .i64 0), 1, 8) := by kernel_rfl
set_option maxRecDepth 100000 in
set_option maxHeartbeats 2000000 in
theorem appendSeq_any (n : Nat) (hn : 3 ≤ n) (Bs b off c : Nat) (zs : List Int) (hz : zs.length ≤ 1000) (w : World) (hb : b < w.heap.size) (hBl : Bs < w.heap.size) (hBs : w.cell? ⟨Bs, 0, none⟩ = some (.slice (some ⟨b, off, none⟩) zs.length c)) (hc : ∀ j (h : j < zs.length), w.cell? ⟨b, off + j, none⟩ = some (.int .i64 zs[j])) :
    CallsIn Fence.wide n Try.prog 106 #[.slice none 0 0, .func (.func 86) #[] #[.pointer (some ⟨Bs, 0, none⟩)]] w fun e W' => ∃ v, e = .returned v ∧ W'.ownsRow w.heap.size 3 1 v zs.length (zs.map (Value.int .i64)) ∧ Below w.heap.size w W' := by
  have h1 : 1 ≤ n := by omega
  obtain ⟨i0, hi, hz0, hz1, hz2⟩ := info_parts Try.info_intS
  refine callsIn_of_wp_marks Try.func106 rfl trivial ?_ rfl
  simp only [Try.ntmps106, List.size_toArray, List.length_cons, List.length_nil, Nat.reduceAdd, Nat.reduceSub, Array.replicate_succ, Array.replicate_zero, List.push_toArray, List.append_toArray, List.nil_append, List.cons_append]
  gi_wp2
  have bO := Boxed.new w 37 (.slice none 0 0)
  have hB0 : Below w.heap.size w (w.alloc (.cells #[.slice none 0 0] 37)) := (Below.refl _ w).alloc (Nat.le_refl _) _
  refine wpIn_rangeFunc_ownG rfl h1 (gf := 86) (lb := #[.pointer (some ⟨Bs, 0, none⟩)]) rfl trivial (enters_of Try.func86 (by kernel_rfl) rfl)
    (vals_stops (n - 1) (by omega) Bs w.heap.size b off c zs hz hb w hBl (Nat.le_refl _) hBs hc) belowK_t (belowK_b (by simp)) hB0 (fun _ => rfl)
    (fun pre W => (∃ v, Boxed W w.heap.size 37 v ∧ W.ownsRow w.heap.size 3 1 v pre.length (pre.map (Value.int .i64)) ∧ True) ∧ Below w.heap.size w W)
    (fun _ _ _ => False)
    (OwnFrom.and (Own.from (holdsRow_own w.heap.size w.heap.size 37 3 1 (fun pre : List Int => pre.length) (fun pre => pre.map (Value.int .i64)) (fun _ _ => True)) _) (ownFrom_below (Nat.le_refl _) (by simp)))
    (fun _ _ _ _ _ hs _ _ => hs)
    ⟨⟨_, bO, World.ownsRow_nil _ _ _ _, trivial⟩, hB0⟩
    (fun x => { tmps := #[.slice none 0 0, .func (.func 86) #[] #[.pointer (some ⟨Bs, 0, none⟩)], .pointer (some ⟨w.heap.size, 0, none⟩), undef, .slice none 0 0, .int .i64 x, .func (.func 86) #[] #[.pointer (some ⟨Bs, 0, none⟩)], .int .i64 x, undef, undef, undef, undef, undef], defers := [] }) ?assign ?body ?done ?stop
  case assign =>
    intro l x W K hK
    gi_wp2
    exact hK
  case body =>
    rintro l pre x W ⟨⟨v, hv, hrow, -⟩, hB⟩ hlt
    have hcv := hv.cell
    gi_wp2_with (gi_at_builtin; refine wpListIn_append_own _ rfl _ _ 37 rfl w.heap.size 3 i0 (.int .i64 0) 1 8 Try.underlying37 hi hz0 hz1 hz2 rfl (by decide) _ _ _ rfl (hrow.alloc _) ⟨W.heap.size, 0, none⟩ 1 1 [.int .i64 x] rfl rfl (cell_one_new _ _ _) (by simp [Value.oneCell']) (by unfold maxLen; omega) (by omega) (by have := hB.size; simp; omega) ?_; intro v' w1 hown' hgrow _; obtain ⟨g', cap', rfl⟩ := ownsRow_succ hown'; obtain ⟨hv1, hv2, hr2, hk2, hb2⟩ := hv.appended (by decide) hrow hB.size (Nat.le_refl _) hown' hgrow; have hc1 := hv1.cell; have hf1 := hv1.frozen)
    exact ⟨hk2.from _, hb2, ⟨_, hv2, by simpa using hr2, trivial⟩, hB.trans hb2⟩
  case done =>
    rintro D ys W hD rfl ⟨⟨v, hv, hrow, -⟩, hB⟩ hK
    have hcv := hv.cell
    gi_wp2
    refine ⟨by simp, .inl ⟨_, _, rfl, run_takeDeferred hK, ?_⟩⟩
    exact ⟨_, results_tmp rfl _ _ _, v, rfl, ownsRow_putObj hrow _ hK rfl, hB.trans (belowK_b (w := w) (Nat.le_refl _) W D _ _ (by simp at hD; omega) hK rfl rfl)⟩
  case stop =>
    rintro D c pre W _ _ h _
    exact h.elim
theorem seqRow_any (Bs b off c : Nat) (zs : List Int) (hz : zs.length ≤ 1000) (w : World) (hb : b < w.heap.size) (hBl : Bs < w.heap.size) (hBs : w.cell? ⟨Bs, 0, none⟩ = some (.slice (some ⟨b, off, none⟩) zs.length c)) (hc : ∀ j (h : j < zs.length), w.cell? ⟨b, off + j, none⟩ = some (.int .i64 zs[j])) :
    Calls Try.prog 106 #[.slice none 0 0, .func (.func 86) #[] #[.pointer (some ⟨Bs, 0, none⟩)]] w fun e W' => ∃ v, e = .returned v ∧ W'.ownsRow w.heap.size 3 1 v zs.length (zs.map (Value.int .i64)) ∧ Below w.heap.size w W' :=
  (callsIn_wide (n := 6)).1 (appendSeq_any 6 (by omega) Bs b off c zs hz w hb hBl hBs hc)
/-- Numbers in order. -/
def ordZ (zs : List Int) : List Int := zs.mergeSort fun x y => decide (x ≤ y)
theorem ordZ_len (zs : List Int) : (ordZ zs).length = zs.length := List.length_mergeSort _
theorem ordZ_mem {zs : List Int} {z : Int} : z ∈ ordZ zs ↔ z ∈ zs := List.mem_mergeSort
theorem below_grow {B : Nat} {a w : World} (h : Below B a w) (hB : B ≤ w.heap.size) (os : Array Obj) : Below B a (Sort.grow w os) :=
  h.trans ⟨rfl, rfl, rfl, by simp [Sort.grow], fun k hk => Sort.heap_grow_old w os (by omega)⟩
set_option maxRecDepth 100000 in
theorem Values_any (A : Option Addr) (n c : Nat) (w : World) : Calls Try.prog 70 #[.slice A n c] w fun e w' => e = .returned (.func (.func 86) #[] #[.pointer (some ⟨w.heap.size, 0, none⟩)]) ∧ w' = w.alloc (.cells #[.slice A n c] 37) := by
  go_enter Try.func70, Try.ntmps70
  go_wp2_with fail
  go_ret
  exact ⟨rfl, rfl⟩
set_option maxRecDepth 100000 in
set_option maxHeartbeats 1000000 in
theorem Sorted_any (Bs b off c : Nat) (zs : List Int) (h0 : 0 < zs.length) (hz : zs.length ≤ 1000) (w : World) (hb : b < w.heap.size) (hBl : Bs < w.heap.size) (hBs : w.cell? ⟨Bs, 0, none⟩ = some (.slice (some ⟨b, off, none⟩) zs.length c)) (hc : ∀ j (h : j < zs.length), w.cell? ⟨b, off + j, none⟩ = some (.int .i64 zs[j])) :
    Calls Try.prog 69 #[.func (.func 86) #[] #[.pointer (some ⟨Bs, 0, none⟩)]] w fun e w' => ∃ (g cap : Nat), e = .returned (.slice (some ⟨g, 0, none⟩) zs.length cap) ∧ g < w'.heap.size ∧ w.heap.size ≤ g ∧ Below w.heap.size w w' ∧ ∀ j (h : j < (ordZ zs).length), w'.cell? ⟨g, j, none⟩ = some (.int .i64 (ordZ zs)[j]) := by
  have hap := seqRow_any Bs b off c zs hz w hb hBl hBs hc
  have hcol : Calls Try.prog 84 #[.func (.func 86) #[] #[.pointer (some ⟨Bs, 0, none⟩)]] w fun e W' => ∃ v, e = .returned v ∧ W'.ownsRow w.heap.size 3 1 v zs.length (zs.map (Value.int .i64)) ∧ Below w.heap.size w W' := by
    clear hb hBl hBs hc
    go_enter Try.func84, Try.ntmps84
    go_wp2_with (go_at_call 106; refine hap.mono ?_; rintro e w1 ⟨v, rfl, ho, hb1⟩)
    go_ret
    exact ⟨v, rfl, ho, hb1⟩
  clear hap hb hBl hBs hc
  go_enter Try.func69, Try.ntmps69
  go_upto_region 2 with (go_at_call 84; refine hcol.mono ?_; rintro e w1 ⟨v, rfl, ho, hb1⟩; obtain ⟨g, cap, rfl, hg, hlt⟩ := World.ownsRow.form ho h0)
  have rG := (Row.of_own ho).1
  have hc1 : ∀ j, j < zs.length → w1.cell? ⟨g, 0 + j, none⟩ = some (.int .i64 (zs.getD j 0)) := fun j hj => by rw [Nat.zero_add, rG.cell (by simpa using hj)]; simp [hj]
  have hH := Lib.holds_of_ints (Nat.le_refl _) hc1 (fun j _ => rG.frozen _)
  rw [List.take_length] at hH
  have hso := Any.slices_Sort_int laysSort g 0 cap zs w1 hH rG.lt (by omega)
  change Calls Try.prog 85 _ _ _ at hso
  have hso2 : Calls Try.prog 85 #[.slice (some ⟨g, 0, none⟩) zs.length cap] w1 fun e w' => e = .returned (.tuple #[]) ∧ g < w'.heap.size ∧ Below w.heap.size w w' ∧ ∀ j (h : j < (ordZ zs).length), w'.cell? ⟨g, j, none⟩ = some (.int .i64 (ordZ zs)[j]) := hso.mono fun e w' ⟨he, q, os, hw⟩ => by
    have hyl : (ordZ zs).length = zs.length := ordZ_len zs
    have hlen : (ordZ zs).length = zs.toArray.size := by simpa using hyl
    have hw : w' = _ := hw
    rw [show zs.mergeSort (fun x y => decide (x ≤ y)) = ordZ zs from rfl, Lib.sorted_world (Value.int .i64) w1 g 0 q zs.toArray (ordZ zs) os hH hlen] at hw
    have hb2 := Lib.below_setCells g hg ((ordZ zs).map (Value.int .i64)) 0 (below_drewN hb1 q)
    have hbw : Below w.heap.size w w' := by rw [hw]; exact below_grow hb2 hb2.size os
    have hcell : ∀ j (h : j < (ordZ zs).length), w'.cell? ⟨g, j, none⟩ = some (.int .i64 (ordZ zs)[j]) := fun j hj => by
      have h := Lib.cells_sorted_ints (os := os) (q := q) (Nat.le_refl _) hyl hc1 j (by simp; omega)
      rw [Nat.zero_add] at h
      rw [hw, h]
      simp [hj]
    refine ⟨he, ?_, hbw, hcell⟩
    have := hcell 0 (by omega)
    exact World.block_lt_of_cell? _ _ this
  clear hso hH hc1 rG ho hb1 hcol hlt
  go_wp2_with (go_at_call 85; refine hso2.mono ?_; rintro e w2 ⟨rfl, h2, h3, h4⟩)
  go_ret
  exact ⟨g, cap, rfl, h2, hg, h3, h4⟩
end Go.Proofs.Ytijbhcdnbaaobaa
/- queue's changed with another price; plain: which price is best. Conditions: an evening that reads as data. -/
namespace Go.Proofs.Ytijbhcdnbaaobaa
open Go.RowKit

set_option maxRecDepth 100000 in
set_option maxHeartbeats 1000000 in
/-- The closure that sets a price. -/
theorem setPrice_any (g k gc : Nat) (cyc v0 : Int) (w : World) (hc : w.cell? ⟨gc, 0, none⟩ = some (.int .i64 cyc)) (_ : gc < w.heap.size) (hg : w.cell? ⟨g, k + 1, none⟩ = some (.int .i64 v0)) (hf : w.frozen? ⟨g, k + 1, none⟩ = false) (_ : g < w.heap.size) :
    Calls Try.prog 72 #[.pointer (some ⟨g, k, none⟩), .pointer (some ⟨gc, 0, none⟩)] w fun e w' => e = .returned (.tuple #[]) ∧ w' = w.setCell ⟨g, k + 1, none⟩ (.int .i64 cyc) := by
  go_enter Try.func72, Try.ntmps72
  go_wp2_with fail
  go_end0
  exact ⟨rfl, rfl⟩
/-- An evening in which a ride has another price. -/
def EveZ.pri (f : EveZ) (r : Nat) (c : Int) : EveZ := { f with rides := f.rides.modify r fun b => { b with price := c } }
theorem pri_len (f : EveZ) (r : Nat) (c : Int) : (f.pri r c).rides.length = f.rides.length := by simp [EveZ.pri]
theorem pri_at (f : EveZ) {r : Nat} (hr : r < f.rides.length) (c : Int) (i : Nat) : (f.pri r c).rides.getD i default = if i = r then { f.rides.getD r default with price := c } else f.rides.getD i default := by
  unfold EveZ.pri
  simp only [List.getD_eq_getElem?_getD, List.getElem?_modify]
  by_cases h : i = r
  · subst h
    simp [hr]
  · rw [if_neg h]
    simp [Ne.symm h]
/-- One cell of a ride's. -/
theorem pri_cells (f : EveZ) {r : Nat} (hr : r < f.rides.length) (c : Int) : (bthCells f.rides).set (r * 5 + 1) (.int .i64 c) = bthCells (f.pri r c).rides := by
  refine List.ext_getElem? fun i => ?_
  have hl := bth_len f.rides
  rw [List.getElem?_set, hl]
  by_cases hi : i < f.rides.length * 5
  · have e : i = i / 5 * 5 + i % 5 := by omega
    have hq : i / 5 < f.rides.length := by omega
    have hc : i % 5 < 5 := by omega
    have f1 := bthCells_at f.rides (i / 5) hq (i % 5) hc
    have f2 := bthCells_at (f.pri r c).rides (i / 5) (by rw [pri_len]; exact hq) (i % 5) hc
    rw [← e] at f1 f2
    rw [f1, f2, pri_at f hr]
    by_cases er : i / 5 = r
    · rw [if_pos er, er]
      by_cases e2 : r * 5 + 1 = i
      · rw [if_pos e2, if_pos (by omega), show i % 5 = 1 by omega]
        rfl
      · rw [if_neg e2]
        rcases (by omega : i % 5 = 0 ∨ i % 5 = 2 ∨ i % 5 = 3 ∨ i % 5 = 4) with h | h | h | h <;> rw [h] <;> rfl
    · rw [if_neg er, if_neg (by omega)]
  · rw [if_neg (by omega), List.getElem?_eq_none (by rw [hl]; omega), List.getElem?_eq_none (by rw [bth_len, pri_len]; omega)]
set_option maxRecDepth 100000 in
set_option maxHeartbeats 1000000 in
theorem changedP_any (f : EveZ) (A : Option Addr) (c B r gc : Nat) (cyc : Int) (w : World) (hB : B ≤ w.heap.size) (hr : Reads w B 5 A f.rides.length (bthCells f.rides)) (hn : f.rides.length ≤ 1000) (hrr : r < f.rides.length) (hc : w.cell? ⟨gc, 0, none⟩ = some (.int .i64 cyc)) (hlc : gc < w.heap.size) :
    Calls Try.prog 71 #[eveV f A c, .int .i64 (r : Int), .func (.func 72) #[] #[.pointer (some ⟨gc, 0, none⟩)]] w (ChTo w (f.pri r cyc)) := by
  obtain ⟨W, hW⟩ : ∃ W, W = (w.alloc (.cells #[.slice A f.rides.length c, .int .i64 f.walk] 24)).alloc (.cells #[.slice none 0 0, .int .i64 0] 24) := ⟨_, rfl⟩
  have bW : Below w.heap.size w W := by subst hW; exact ((Below.refl _ _).alloc (Nat.le_refl _) _).alloc (by simp) _
  have r0 : Row W w.heap.size 24 [.slice A f.rides.length c, .int .i64 f.walk] := by subst hW; exact (Row.new w _ _).alloc _
  have r1 : Row W (w.heap.size + 1) 24 [.slice none 0 0, .int .i64 0] := by subst hW; rw [show w.heap.size + 1 = (w.alloc (.cells #[.slice A f.rides.length c, .int .i64 f.walk] 24)).heap.size by rw [World.size_alloc]]; exact Row.new _ _ _
  have x0 : W.cell? ⟨w.heap.size, 0, none⟩ = some (.slice A f.rides.length c) := r0.cell (j := 0) (by simp)
  have z0 := r0.lt
  obtain ⟨b, o, hA, hb, -⟩ := hr.2 (by omega)
  subst hA
  have HCL := Lib.hid (clone_b f.rides b o c B W (Nat.le_trans hB bW.size) (hr.below (bW.mono hB)) (by omega) hn)
  have HR0 := Lib.hid r0
  have HR1 := Lib.hid r1
  have HBW := Lib.hid bW
  unfold eveV
  clear hr r0 r1
  go_enter Try.func71, Try.ntmps71
  go_upto_region 1 with (fail)
  rw [← hW]
  clear hW bW
  go_upto_region 2 with (go_at_call 87; refine HCL.out.mono ?_; rintro e w1 ⟨A1, c1, rfl, ho1, hb1⟩; have rr := HR0.out.below hb1 z0; have k0 : w1.cell? ⟨w.heap.size, 0, none⟩ = some (.slice (some ⟨b, o, none⟩) f.rides.length c) := rr.cell (j := 0) (by simp); have f0 := rr.frozen 0; have lr := rr.lt; have RR := Lib.hid rr; clear rr)
  obtain ⟨g, cap, e, hg, hlt⟩ := World.ownsRow.form ho1 (by omega)
  injection e with e1 _ e2
  subst e1 e2
  have bB := HBW.out.trans (hb1.mono HBW.out.size)
  have rG : Row w1 g 47 (bthCells f.rides) := (Row.of_own ho1).1
  have rQ := HR1.out.below hb1 HR1.out.lt
  obtain ⟨Y, hY⟩ : ∃ Y, Y = w1.setCell ⟨w.heap.size, 0, none⟩ (.slice (some ⟨g, 0, none⟩) f.rides.length c1) := ⟨_, rfl⟩
  have bY : Below w.heap.size w Y := by subst hY; exact bB.setCell (p := ⟨w.heap.size, 0, none⟩) (Nat.le_refl _) _
  have rF : Row Y w.heap.size 24 [.slice (some ⟨g, 0, none⟩) f.rides.length c1, .int .i64 f.walk] := by subst hY; exact RR.out.set 0 _
  have rY : Row Y g 47 (bthCells f.rides) := by subst hY; exact rG.far (p := ⟨w.heap.size, 0, none⟩) (by show g ≠ w.heap.size; omega) _
  have rQY : Row Y (w.heap.size + 1) 24 [.slice none 0 0, .int .i64 0] := by subst hY; exact rQ.far (p := ⟨w.heap.size, 0, none⟩) (by show w.heap.size + 1 ≠ w.heap.size; omega) _
  rw [← hY]
  have hcY := (bY.cell (p := ⟨gc, 0, none⟩) hlc).trans hc
  have hlY : gc < Y.heap.size := Nat.lt_of_lt_of_le hlc bY.size
  have hlen := bth_len f.rides
  have hat := bthCells_at f.rides r hrr 1 (by omega)
  have hgc : Y.cell? ⟨g, r * 5 + 1, none⟩ = some (.int .i64 (f.rides.getD r default).price) := by
    rw [rY.cell (j := r * 5 + 1) (by omega), hat]
    rfl
  have HST := Lib.hid (setPrice_any g (r * 5) gc cyc (f.rides.getD r default).price Y hcY hlY hgc (rY.frozen _) rY.lt)
  have y0 : Y.cell? ⟨w.heap.size, 0, none⟩ = some (.slice (some ⟨g, 0, none⟩) f.rides.length c1) := rF.cell (j := 0) (by simp)
  have lF := rF.lt
  have lG := rY.lt
  have ri0 : ¬ (r : Int) < 0 := by omega
  have ri1 : (r : Int) < (f.rides.length : Int) := by omega
  have rGY := rY.set (r * 5 + 1) (.int .i64 cyc)
  rw [pri_cells f hrr] at rGY
  have rFY := rF.far (p := ⟨g, r * 5 + 1, none⟩) (by show w.heap.size ≠ g; omega) (.int .i64 cyc)
  have rQZ := rQY.far (p := ⟨g, r * 5 + 1, none⟩) (by show w.heap.size + 1 ≠ g; have := HR1.out.lt; omega) (.int .i64 cyc)
  have bZ := bY.setCell (p := ⟨g, r * 5 + 1, none⟩) (by show w.heap.size ≤ g; omega) (.int .i64 cyc)
  have HGY := Lib.hid rGY
  have HFY := Lib.hid rFY
  have HQZ := Lib.hid rQZ
  have HBZ := Lib.hid bZ
  have HG := Lib.hid hg
  clear k0 f0 lr ho1 hb1 bB rG rQ hY bY rF rY rQY hcY hlY hlen hat hgc rGY rFY rQZ bZ RR
  go_upto_region 3 with (go_at_call 72; refine HST.out.mono ?_; rintro e w3 ⟨rfl, rfl⟩)
  have gZ := HGY.out
  have fZ := HFY.out
  have qZ := HQZ.out
  have bZ := HBZ.out
  generalize Y.setCell ⟨g, r * 5 + 1, none⟩ (.int .i64 cyc) = Z at gZ fZ qZ bZ ⊢
  have u0 : Z.cell? ⟨w.heap.size, 0, none⟩ = some (.slice (some ⟨g, 0, none⟩) f.rides.length c1) := fZ.cell (j := 0) (by simp)
  have u1 : Z.cell? ⟨w.heap.size, 1, none⟩ = some (.int .i64 f.walk) := fZ.cell (j := 1) (by simp)
  have v0 : Z.cell? ⟨w.heap.size + 1, 0, none⟩ = some (.slice none 0 0) := qZ.cell (j := 0) (by simp)
  have v1 : Z.cell? ⟨w.heap.size + 1, 1, none⟩ = some (.int .i64 0) := qZ.cell (j := 1) (by simp)
  have lu := fZ.lt
  have lv := qZ.lt
  have fq := qZ.frozen
  have gV := ((gZ.far (p := ⟨w.heap.size + 1, 0, none⟩) (by show g ≠ w.heap.size + 1; have := HG.out; have := HR1.out.lt; omega) (.slice (some ⟨g, 0, none⟩) f.rides.length c1)).far (p := ⟨w.heap.size + 1, 1, none⟩) (by show g ≠ w.heap.size + 1; have := HG.out; have := HR1.out.lt; omega) (.int .i64 f.walk))
  have bV := (bZ.setCell (p := ⟨w.heap.size + 1, 0, none⟩) (by show w.heap.size ≤ w.heap.size + 1; omega) (.slice (some ⟨g, 0, none⟩) f.rides.length c1)).setCell (p := ⟨w.heap.size + 1, 1, none⟩) (by show w.heap.size ≤ w.heap.size + 1; omega) (.int .i64 f.walk)
  have HGV := Lib.hid gV
  have HBV := Lib.hid bV
  have HL : Hid ((bthCells (f.pri r cyc).rides).length = (f.pri r cyc).rides.length * 5 ∧ (f.pri r cyc).rides.length = f.rides.length) := ⟨bth_len _, pri_len f r cyc⟩
  clear gZ fZ qZ bZ gV bV HGY HFY HQZ HBZ HST y0
  go_wp2_with fail
  refine bodyPost_ret (v := .agg #[.slice (some ⟨g, 0, none⟩) f.rides.length c1, .int .i64 f.walk]) ?_ rfl ⟨some ⟨g, 0, none⟩, c1, ?_, HBV.out, HGV.out.reads HL.out.1 HGV.out.lt⟩
  · rw [results_cell rfl]
    go_simp
  · unfold eveV
    rw [HL.out.2]
    rfl
theorem pri_eve {f : EveZ} (h : eveB f = true) {r : Nat} (hr : r < f.rides.length) {c : Int} (hc : 0 ≤ c ∧ c ≤ 100) : eveB (f.pri r c) = true := by
  unfold eveB at h ⊢
  rw [pri_len]
  simp only [Bool.and_eq_true, decide_eq_true_eq, List.all_eq_true] at h ⊢
  refine ⟨⟨h.1.1, fun b hb => ?_⟩, h.2⟩
  obtain ⟨i, hi, e⟩ := List.getElem_of_mem hb
  have hi' : i < f.rides.length := by rw [pri_len] at hi; exact hi
  have h1 := pri_at f hr c i
  rw [List.getD_eq_getElem?_getD, List.getElem?_eq_getElem hi, Option.getD_some, e] at h1
  rw [h1]
  split
  · have h2 := h.1.2 _ (getD_mem' hr)
    unfold bthB at h2 ⊢
    simp only [Bool.and_eq_true] at h2 ⊢
    refine ⟨⟨⟨h2.1.1.1, ?_⟩, h2.1.2⟩, h2.2⟩
    unfold inB
    simp only [Bool.and_eq_true, decide_eq_true_eq]
    exact hc
  · exact h.1.2 _ (getD_mem' hi')
theorem pri_check {f : EveZ} {l : List GrpZ} (h : checkQ f l = 0) {r : Nat} (hr : r < f.rides.length) {c : Int} (hc : 0 ≤ c ∧ c ≤ 100) : checkQ (f.pri r c) l = 0 := by
  obtain ⟨h1, h2⟩ := checkQ_ok.1 h
  exact checkQ_ok.2 ⟨pri_eve h1 hr hc, by rw [pri_len]; exact h2⟩
/-- What all rides take together, with a price. -/
def smZ (L : List Int) (k : Nat) : Int := (L.take k).sum
theorem smZ_succ (L : List Int) {k : Nat} (h : k < L.length) : smZ L (k + 1) = smZ L k + L[k] := by
  unfold smZ
  rw [List.take_add_one, List.getElem?_eq_getElem h, Option.toList_some, List.sum_append]
  simp
theorem smZ_bd {L : List Int} (hL : ∀ z ∈ L, 0 ≤ z ∧ z ≤ 600000) : ∀ k, k ≤ L.length → 0 ≤ smZ L k ∧ smZ L k ≤ 600000 * (k : Int) := by
  intro k
  induction k with
  | zero => intro _; exact ⟨Int.le_refl _, by simp [smZ]⟩
  | succ k ih =>
    intro hk
    have h1 := ih (by omega)
    rw [smZ_succ L (by omega)]
    have h2 := hL L[k] (List.getElem_mem _)
    omega
def takL (f : EveZ) (l : List GrpZ) : List Int := (eveS f l).rides.map (·.taken)
def prS (f : EveZ) (l : List GrpZ) (r : Nat) (p : Int) : Int := smZ (takL (f.pri r p) l) (takL (f.pri r p) l).length
theorem tak_bd {f : EveZ} {l : List GrpZ} (hc : checkQ f l = 0) : (takL f l).length = f.rides.length ∧ ∀ z ∈ takL f l, 0 ≤ z ∧ z ≤ 600000 := by
  obtain ⟨h1, h2⟩ := checkQ_ok.1 hc
  have g := grp_valid h2
  have hfit := fit_of (big_start h1 h2).1 (play_his f l (fun x hx => (g x hx).2.2.2.1.1) (fun x hx => (g x hx).2.2.2.2.2))
  refine ⟨by unfold takL; rw [List.length_map]; exact (eve_lens hc).2.1, fun z hz => ?_⟩
  unfold takL at hz
  obtain ⟨x, hx, rfl⟩ := List.mem_map.1 hz
  obtain ⟨i, hi, rfl⟩ := List.getElem_of_mem hx
  have h := hfit.taken i hi
  have e : (eveS f l).rd i = (eveS f l).rides[i] := by
    unfold EvS.rd
    rw [List.getD_eq_getElem?_getD, List.getElem?_eq_getElem hi]
    rfl
  rw [e] at h
  exact h
theorem prS_bd {f : EveZ} {l : List GrpZ} (h : checkQ f l = 0) {r : Nat} (hr : r < f.rides.length) {c : Int} (hc : 0 ≤ c ∧ c ≤ 100) : 0 ≤ prS f l r c ∧ prS f l r c ≤ 4800000 := by
  have hc2 := pri_check h hr hc
  have n8 := (eve_lens8 hc2).1
  obtain ⟨h1, h2⟩ := tak_bd hc2
  have h3 := smZ_bd h2 _ (Nat.le_refl _)
  unfold prS
  omega
/-- The best of some prices, and what is taken with it. -/
structure BestP (S : Int → Int) (zs : List Int) (b m : Int) : Prop where
  mem : b ∈ zs
  eq : m = S b
  best : ∀ z ∈ zs, S z < m ∨ (S z = m ∧ b ≤ z)
theorem BestP.one {S : Int → Int} {zs : List Int} {b m b' m' : Int} (h : BestP S zs b m) (h' : BestP S zs b' m') : b = b' ∧ m = m' := by
  have h1 := h.best b' h'.mem
  have h2 := h'.best b h.mem
  rw [← h'.eq] at h1
  rw [← h.eq] at h2
  omega
theorem BestP.perm {S : Int → Int} {zs ys : List Int} {b m : Int} (h : BestP S zs b m) (hp : ∀ z, z ∈ ys ↔ z ∈ zs) : BestP S ys b m :=
  ⟨(hp b).2 h.mem, h.eq, fun z hz => h.best z ((hp z).1 hz)⟩
/-- The program's way: in order. -/
def bpStep (S : Int → Int) (st : Int × Int) (p : Int) : Int × Int := if st.2 < S p then (p, S p) else st
def bpGo (S : Int → Int) (ys : List Int) (k : Nat) : Int × Int := (ys.take k).foldl (bpStep S) (0, -1)
theorem bpGo_succ (S : Int → Int) (ys : List Int) {k : Nat} (h : k < ys.length) : bpGo S ys (k + 1) = bpStep S (bpGo S ys k) ys[k] := by
  unfold bpGo
  rw [List.take_add_one, List.getElem?_eq_getElem h, Option.toList_some, List.foldl_append]
  rfl
/-- The specification's way: as they come. -/
def rpStep (S : Int → Int) (st : Int × Int) (p : Int) : Int × Int := if st.1 < 0 ∨ st.2 < S p ∨ (S p = st.2 ∧ p < st.1) then (p, S p) else st
def rpGo (S : Int → Int) (ys : List Int) (k : Nat) : Int × Int := (ys.take k).foldl (rpStep S) (-1, 0)
theorem rpGo_succ (S : Int → Int) (ys : List Int) {k : Nat} (h : k < ys.length) : rpGo S ys (k + 1) = rpStep S (rpGo S ys k) ys[k] := by
  unfold rpGo
  rw [List.take_add_one, List.getElem?_eq_getElem h, Option.toList_some, List.foldl_append]
  rfl
theorem mem_take_succ {ys : List Int} {k : Nat} (h : k < ys.length) {z : Int} : z ∈ ys.take (k + 1) ↔ z ∈ ys.take k ∨ z = ys[k] := by
  rw [List.take_add_one, List.getElem?_eq_getElem h, Option.toList_some, List.mem_append, List.mem_singleton]
theorem bp_best (S : Int → Int) (ys : List Int) (hS : ∀ z ∈ ys, 0 ≤ S z) (ho : ys.Pairwise (· ≤ ·)) : ∀ k, k < ys.length → BestP S (ys.take (k + 1)) (bpGo S ys (k + 1)).1 (bpGo S ys (k + 1)).2 := by
  intro k
  induction k with
  | zero =>
    intro hk
    rw [bpGo_succ S ys hk]
    have h0 := hS ys[0] (List.getElem_mem _)
    have e : bpStep S (bpGo S ys 0) ys[0] = (ys[0], S ys[0]) := if_pos (show (-1 : Int) < S ys[0] by omega)
    rw [e]
    refine ⟨(mem_take_succ hk).2 (.inr rfl), rfl, fun z hz => ?_⟩
    rcases (mem_take_succ hk).1 hz with h | rfl
    · simp at h
    · exact .inr ⟨rfl, Int.le_refl _⟩
  | succ k ih =>
    intro hk
    have h := ih (by omega)
    rw [bpGo_succ S ys hk]
    generalize bpGo S ys (k + 1) = st at h ⊢
    unfold bpStep
    split
    · rename_i hlt
      refine ⟨(mem_take_succ hk).2 (.inr rfl), rfl, fun z hz => ?_⟩
      rcases (mem_take_succ hk).1 hz with hz | rfl
      · have := h.best z hz
        exact .inl (by show S z < S ys[k + 1]; omega)
      · exact .inr ⟨rfl, Int.le_refl _⟩
    · rename_i hlt
      refine ⟨(mem_take_succ hk).2 (.inl h.mem), h.eq, fun z hz => ?_⟩
      rcases (mem_take_succ hk).1 hz with hz | rfl
      · exact h.best z hz
      · obtain ⟨i, hi, e⟩ := List.getElem_of_mem h.mem
        rw [List.getElem_take] at e
        rw [List.length_take] at hi
        have hle : ys[i] ≤ ys[k + 1] := List.pairwise_iff_getElem.1 ho i (k + 1) (by omega) hk (by omega)
        rw [e] at hle
        omega
theorem rp_best (S : Int → Int) (ys : List Int) (hy : ∀ z ∈ ys, 0 ≤ z) : ∀ k, k < ys.length → BestP S (ys.take (k + 1)) (rpGo S ys (k + 1)).1 (rpGo S ys (k + 1)).2 := by
  intro k
  induction k with
  | zero =>
    intro hk
    rw [rpGo_succ S ys hk]
    have e : rpStep S (rpGo S ys 0) ys[0] = (ys[0], S ys[0]) := if_pos (.inl (show (-1 : Int) < 0 by omega))
    rw [e]
    refine ⟨(mem_take_succ hk).2 (.inr rfl), rfl, fun z hz => ?_⟩
    rcases (mem_take_succ hk).1 hz with h | rfl
    · simp at h
    · exact .inr ⟨rfl, Int.le_refl _⟩
  | succ k ih =>
    intro hk
    have h := ih (by omega)
    rw [rpGo_succ S ys hk]
    generalize rpGo S ys (k + 1) = st at h ⊢
    have h0 := hy st.1 (List.mem_of_mem_take h.mem)
    unfold rpStep
    split
    · rename_i hlt
      refine ⟨(mem_take_succ hk).2 (.inr rfl), rfl, fun z hz => ?_⟩
      rcases (mem_take_succ hk).1 hz with hz | rfl
      · have := h.best z hz
        show S z < S ys[k + 1] ∨ (S z = S ys[k + 1] ∧ ys[k + 1] ≤ z)
        omega
      · exact .inr ⟨rfl, Int.le_refl _⟩
    · rename_i hlt
      refine ⟨(mem_take_succ hk).2 (.inl h.mem), h.eq, fun z hz => ?_⟩
      rcases (mem_take_succ hk).1 hz with hz | rfl
      · exact h.best z hz
      · omega
/-- What Price answers. -/
def vpB (zs : List Int) : Bool := inB (zs.length : Int) 1 20 && allB zs 0 100
def prOk (f : EveZ) (ride : Int) (zs : List Int) : Bool := inB ride 0 ((f.rides.length : Int) - 1) && vpB zs
def prR (f : EveZ) (l : List GrpZ) (ride : Int) (zs : List Int) : Int × Int × Int := if checkQ f l ≠ 0 then (0, 0, checkQ f l) else if prOk f ride zs = false then (0, 0, 1) else ((rpGo (prS f l ride.toNat) zs zs.length).1, (rpGo (prS f l ride.toNat) zs zs.length).2, 0)
theorem prOk_get {f : EveZ} {ride : Int} {zs : List Int} (h : prOk f ride zs = true) : ((0 ≤ ride ∧ ride.toNat < f.rides.length) ∧ ride = (ride.toNat : Int)) ∧ (1 ≤ zs.length ∧ zs.length ≤ 20) ∧ ∀ z ∈ zs, 0 ≤ z ∧ z ≤ 100 := by
  unfold prOk vpB at h
  simp only [Bool.and_eq_true] at h
  have h1 := inB_le h.1
  have h2 := inB_le h.2.1
  have h3 : ∀ z ∈ zs, inB z 0 100 = true := by
    have := h.2.2
    unfold allB at this
    exact List.all_eq_true.1 this
  exact ⟨by omega, by omega, fun z hz => inB_le (h3 z hz)⟩
end Go.Proofs.Ytijbhcdnbaaobaa
/- Contracts of queue's allTakes, validPrices, bestPrice. Conditions: a valid evening and groups that read as data; prices within the bounds. -/
namespace Go.Proofs.Ytijbhcdnbaaobaa
open Go.RowKit

set_option maxRecDepth 100000 in
set_option maxHeartbeats 1000000 in
theorem allTakes_any {E : EvE} {w : World} {s : EvS} (h : EvAt E w s) (hm : s.rides.length ≤ 60) (L : List Int) (hL : s.rides.map (·.taken) = L) (hb : ∀ z ∈ L, 0 ≤ z ∧ z ≤ 600000) (hl : L.length ≤ 60) :
    Calls Try.prog 73 #[.pointer (some ⟨E.v, 0, none⟩)] w fun e w' => e = .returned (.int .i64 (smZ L L.length)) ∧ Below w.heap.size w w' := by
  have hC := takes_any h hm
  rw [hL] at hC
  have HC := Lib.hid hC
  have HB := Lib.hid hb
  clear h hL hC hm hb
  go_enter Try.func73, Try.ntmps73
  go_upto_region 3 with (go_at_call 50; refine HC.out.mono ?_; rintro e X ⟨hbX, A, c, rfl, hr⟩)
  have HX := Lib.hid hbX
  have HRR := Lib.hid hr
  clear hr HC hbX
  go_loopw [3, 9] (fun sv iv wr => ∃ k : Nat, k ≤ L.length ∧ iv = .int .i64 (k : Int) ∧ sv = .int .i64 (smZ L k) ∧ wr = X) (fun _ iv _ => L.length - (intOf iv).toNat)
  case atStart => exact ⟨0, Nat.zero_le _, rfl, rfl, rfl⟩
  case round =>
    obtain ⟨k, hk, rfl, rfl, rfl⟩ := hrel
    by_cases hlt : k < L.length
    · obtain ⟨b, o, rfl, hbl, hcc⟩ := HRR.out.2 (by omega)
      have hx : wr.cell? ⟨b, o + k, none⟩ = some (.int .i64 L[k]) := hcc k _ (by simp [hlt])
      have hin : (k : Int) < (L.length : Int) := by omega
      have e1 := smZ_succ L hlt
      have b1 := smZ_bd HB.out (k + 1) (by omega)
      have ew : IntKind.i64.wrap (smZ L k + L[k]) = smZ L (k + 1) := by rw [e1] at b1 ⊢; exact IntWalk.i64_in _ (by omega)
      have ei : IntKind.i64.wrap ((k : Int) + 1) = (k : Int) + 1 := IntWalk.i64_in _ (by omega)
      clear hcc e1 b1
      generalize L[k] = x at hx ew
      go_wp2_with fail
      go_roundw
      case rel => exact ⟨k + 1, by omega, by go_num, rfl, trivial⟩
      case measure => simp [intOf]; omega
    · obtain rfl : k = L.length := by omega
      go_wp2_with fail
      go_ret
      exact ⟨rfl, HX.out⟩
set_option maxRecDepth 100000 in
theorem validPrices_any (zs : List Int) (A : Option Addr) (c B : Nat) (w : World) (hr : Reads w B 1 A zs.length (zs.map (Value.int .i64))) (hB : B ≤ w.heap.size) (hn : zs.length ≤ maxLen) : Calls Try.prog 59 #[.slice A zs.length c] w fun e w' => e = .returned (.bool (vpB zs)) ∧ Below w.heap.size w w' := by
  have HB := Lib.hid (Below.refl w.heap.size w)
  have H1 : Hid (∀ (c : Nat), Calls Try.prog 58 #[.int .i64 1, .int .i64 20, .slice (some ⟨w.heap.size, 0, none⟩) 1 c] (w.alloc (.cells #[.int .i64 (zs.length : Int)] 3)) fun e w' => e = .returned (.bool (inB (zs.length : Int) 1 20)) ∧ w.alloc (.cells #[.int .i64 (zs.length : Int)] 3) = w') := fun c => qall_one _ _ c (zs.length : Int) 1 20 (Row.new w 3 #[.int .i64 (zs.length : Int)])
  have H2 : Hid (Calls Try.prog 58 #[.int .i64 0, .int .i64 100, .slice A zs.length c] (w.alloc (.cells #[.int .i64 (zs.length : Int)] 3)) fun e w' => e = .returned (.bool (allB zs 0 100)) ∧ w.alloc (.cells #[.int .i64 (zs.length : Int)] 3) = w') := qall_any zs A zs.length c B 0 100 _ (hr.below ((Below.refl _ w |>.alloc (Nat.le_refl _) _).mono hB)) hn
  clear hr
  cases hb : inB (zs.length : Int) 1 20 with
  | false =>
    have hv : vpB zs = false := by unfold vpB; rw [hb]; rfl
    rw [hv]
    rw [hb] at H1
    clear hb hv
    go_enter Try.func59, Try.ntmps59
    go_wp2_with (go_at_call 58; refine (H1.out _).mono ?_; rintro e w' ⟨rfl, rfl⟩)
    go_ret
    exact ⟨rfl, HB.out.alloc (Nat.le_refl _) _⟩
  | true =>
    have hv : vpB zs = allB zs 0 100 := by unfold vpB; rw [hb]; rfl
    rw [hv]
    rw [hb] at H1
    clear hb hv
    go_enter Try.func59, Try.ntmps59
    go_wp2_with (first | (go_at_call 58; refine (H1.out _).mono ?_; rintro e w' ⟨rfl, rfl⟩; clear H1) | (go_at_call 58; refine H2.out.mono ?_; rintro e w' ⟨rfl, rfl⟩))
    go_ret
    exact ⟨rfl, HB.out.alloc (Nat.le_refl _) _⟩
set_option maxRecDepth 100000 in
set_option maxHeartbeats 2000000 in
theorem bestPrice_any (f : EveZ) (l : List GrpZ) (A A2 : Option Addr) (c c2 B r b3 o3 c3 : Nat) (rs : List (Option Addr × Nat)) (zs : List Int) (w : World) (hB : B ≤ w.heap.size) (hr : Reads w B 5 A f.rides.length (bthCells f.rides)) (hl : GrpsIn w B A2 rs l) (hc : checkQ f l = 0) (hrr : r < f.rides.length)
    (h0 : 0 < zs.length) (hz : zs.length ≤ 20) (hzz : ∀ z ∈ zs, 0 ≤ z ∧ z ≤ 100) (hb3 : b3 < w.heap.size) (hc3 : ∀ j (h : j < zs.length), w.cell? ⟨b3, o3 + j, none⟩ = some (.int .i64 zs[j])) :
    Calls Try.prog 60 #[eveV f A c, .slice A2 l.length c2, .int .i64 (r : Int), .slice (some ⟨b3, o3, none⟩) zs.length c3] w fun e w' => e = .returned (.tuple #[.int .i64 (bpGo (prS f l r) (ordZ zs) zs.length).1, .int .i64 (bpGo (prS f l r) (ordZ zs) zs.length).2]) ∧ Below w.heap.size w w' := by
  have n8 := (eve_lens8 hc).1
  have HR : Hid (∀ X, Below w.heap.size w X → Reads X B 5 A f.rides.length (bthCells f.rides) ∧ GrpsIn X B A2 rs l) := fun X hX => ⟨hr.below (hX.mono hB), hl.below (hX.mono hB)⟩
  have HC : Hid (checkQ f l = 0) := hc
  obtain ⟨W, hW⟩ : ∃ W, W = w.alloc (.cells #[.slice A f.rides.length c, .int .i64 f.walk] 24) := ⟨_, rfl⟩
  have bW : Below w.heap.size w W := by subst hW; exact (Below.refl _ _).alloc (Nat.le_refl _) _
  have r0 : Row W w.heap.size 24 [.slice A f.rides.length c, .int .i64 f.walk] := by subst hW; exact Row.new w _ _
  obtain ⟨V, hV⟩ : ∃ V, V = W.alloc (.cells #[.slice (some ⟨b3, o3, none⟩) zs.length c3] 37) := ⟨_, rfl⟩
  have bV : Below W.heap.size W V := by subst hV; exact (Below.refl _ _).alloc (Nat.le_refl _) _
  have rV : Row V W.heap.size 37 [.slice (some ⟨b3, o3, none⟩) zs.length c3] := by subst hV; exact Row.new W _ _
  have bwV := bW.trans (bV.mono bW.size)
  have HVA : Hid (Calls Try.prog 70 #[.slice (some ⟨b3, o3, none⟩) zs.length c3] W fun e w' => e = .returned (.func (.func 86) #[] #[.pointer (some ⟨W.heap.size, 0, none⟩)]) ∧ w' = V) := by
    rw [hV]
    exact Values_any _ _ _ W
  have HSO := Lib.hid (Sorted_any W.heap.size b3 o3 c3 zs h0 (by omega) V (Nat.lt_of_lt_of_le hb3 bwV.size) rV.lt (rV.cell (j := 0) (by simp)) (fun j h => (bwV.cell (p := ⟨b3, o3 + j, none⟩) hb3).trans (hc3 j h)))
  have hol : (ordZ zs).length = zs.length := ordZ_len zs
  have hoz : ∀ z ∈ ordZ zs, 0 ≤ z ∧ z ≤ 100 := fun z hz => hzz z (ordZ_mem.1 hz)
  generalize ordZ zs = ys at HSO hol hoz ⊢
  have HOZ := Lib.hid hoz
  have HBV := Lib.hid bwV
  have HRV := Lib.hid (r0.below bV r0.lt)
  unfold eveV
  clear hr hl hc bV rV bwV hzz hc3 hoz hV r0
  go_enter Try.func60, Try.ntmps60
  go_upto_region 2 with (fail)
  rw [← hW]
  clear hW bW
  go_upto_region 3 with (first
    | (go_at_call 69; refine HSO.out.mono ?_; rintro e X ⟨g, cap, rfl, hg, hgV, hbX, hys⟩)
    | (go_at_call 70; refine HVA.out.mono ?_; rintro e w' ⟨rfl, rfl⟩))
  have RX := Lib.hid (HRV.out.below hbX HRV.out.lt)
  have BX := Lib.hid (HBV.out.trans (hbX.mono HBV.out.size))
  have HYS := Lib.hid hys
  have HG := Lib.hid hg
  clear hys hgV hbX HSO HVA HBV HRV hg
  go_loopw [8, 9, 18] (fun bv mv iv wr => ∃ k : Nat, k ≤ zs.length ∧ iv = .int .i64 (k : Int) ∧ bv = .int .i64 (bpGo (prS f l r) ys k).1 ∧ mv = .int .i64 (bpGo (prS f l r) ys k).2 ∧ Below X.heap.size X wr) (fun _ _ iv _ => zs.length - (intOf iv).toNat)
  case atStart => exact ⟨0, Nat.zero_le _, rfl, rfl, rfl, Below.refl _ _⟩
  case round =>
    obtain ⟨k, hk, rfl, rfl, rfl, hbel⟩ := hrel
    by_cases hlt : k < zs.length
    · have hky : k < ys.length := by omega
      have hx : wr.cell? ⟨g, k, none⟩ = some (.int .i64 ys[k]) := (hbel.cell (p := ⟨g, k, none⟩) HG.out).trans (HYS.out k hky)
      have hin : (k : Int) < (zs.length : Int) := by omega
      have ei : IntKind.i64.wrap ((k : Int) + 1) = (k : Int) + 1 := IntWalk.i64_in _ (by omega)
      have hst := bpGo_succ (prS f l r) ys hky
      have hp := HOZ.out ys[k] (List.getElem_mem hky)
      generalize ys[k] = pz at hx hst hp
      have HBl := Lib.hid hbel
      have HST := Lib.hid hst
      have hpc := pri_check HC.out hrr hp
      obtain ⟨e1, e2⟩ := checkQ_ok.1 hpc
      clear hbel hst hky
      go_upto_region 5 with fail
      have rP := Row.new wr 3 #[.int .i64 pz]
      have b2 := (Below.refl wr.heap.size wr).alloc (Nat.le_refl _) (.cells #[.int .i64 pz] 3)
      generalize wr.alloc (.cells #[.int .i64 pz] 3) = X2 at rP b2 ⊢
      have bX2 := HBl.out.trans (b2.mono HBl.out.size)
      have bW2 := BX.out.trans (bX2.mono BX.out.size)
      have q0 := RX.out.below bX2 RX.out.lt
      have x0 : X2.cell? ⟨w.heap.size, 0, none⟩ = some (.slice A f.rides.length c) := q0.cell (j := 0) (by simp)
      have x1 : X2.cell? ⟨w.heap.size, 1, none⟩ = some (.int .i64 f.walk) := q0.cell (j := 1) (by simp)
      have l0 := q0.lt
      have x2 : X2.cell? ⟨wr.heap.size, 0, none⟩ = some (.int .i64 pz) := rP.cell (j := 0) (by simp)
      have l2 := rP.lt
      have HCH := Lib.hid (changedP_any f A c B r wr.heap.size pz X2 (Nat.le_trans hB bW2.size) (HR.out X2 bW2).1 (by omega) hrr x2 l2)
      have HPL : Hid (∀ (Y : World) (A4 : Option Addr) (c4 : Nat), Below X2.heap.size X2 Y → Reads Y Y.heap.size 5 A4 (f.pri r pz).rides.length (bthCells (f.pri r pz).rides) → Calls Try.prog 63 #[eveV (f.pri r pz) A4 c4, .slice A2 l.length c2] Y (PlayTo Y (eveS (f.pri r pz) l))) := fun Y A4 c4 hY h4 => play_any (f.pri r pz) l A4 A2 c4 c2 Y.heap.size rs Y (Nat.le_refl _) h4 ((HR.out Y (bW2.trans (hY.mono bW2.size))).2.more (Nat.le_trans hB (Nat.le_trans bW2.size hY.size))) e1 e2
      have HB2 := Lib.hid bX2
      have HRP := Lib.hid rP
      unfold eveV at HCH HPL
      have HPC := Lib.hid hpc
      clear q0 rP b2 bX2 bW2 e1 e2 hx hpc HBl
      go_upto_region 6 with (first
        | (go_at_call 71; refine HCH.out.mono ?_; rintro e w2 ⟨A4, c4, rfl, hb2, hr4⟩; have HP2 := Lib.hid (HPL.out w2 A4 c4 hb2 hr4); have HB4 := Lib.hid hb2; clear hb2 hr4; unfold eveV)
        | (go_at_call 63; refine HP2.out.mono ?_; rintro e w3 ⟨E, rfl, hE0, hb3, hE⟩; have HB3 := Lib.hid (HB4.out.trans (hb3.mono HB4.out.size)); have HE := Lib.hid hE; clear hb3 hE hE0))
      obtain ⟨t1, t2⟩ := tak_bd HPC.out
      rw [pri_len] at t1
      have hm8 : (eveS (f.pri r pz) l).rides.length ≤ 60 := by rw [(eve_lens HPC.out).2.1, pri_len]; omega
      have HAT := Lib.hid (allTakes_any HE.out hm8 (takL (f.pri r pz) l) rfl t2 (by omega))
      have hsp : smZ (takL (f.pri r pz) l) (takL (f.pri r pz) l).length = prS f l r pz := rfl
      rw [hsp] at HAT
      unfold bpStep at HST
      clear t1 t2 hm8 hsp HCH HPL HP2 HB4 HE x0 x1 x2 l0 l2
      generalize prS f l r pz = sp at HAT HST
      generalize bpGo (prS f l r) ys k = st at HST ⊢
      obtain ⟨bb, mm⟩ := st
      go_upto_region 7 with (go_at_call 73; refine HAT.out.mono ?_; rintro e w4 ⟨rfl, hb4⟩)
      have b34 := HB3.out.trans (hb4.mono HB3.out.size)
      have r4 := HRP.out.below b34 HRP.out.lt
      have x2 : w4.cell? ⟨wr.heap.size, 0, none⟩ = some (.int .i64 pz) := r4.cell (j := 0) (by simp)
      have l2 := r4.lt
      have B4 := Lib.hid (HB2.out.trans (b34.mono HB2.out.size))
      clear hb4 b34 r4 HAT HB3 HB2 HRP hp
      by_cases hm : mm < sp
      · rw [if_pos hm] at HST
        go_wp2_with fail
        go_roundw
        case rel => exact ⟨k + 1, by omega, by go_num, by rw [HST.out], by rw [HST.out], B4.out⟩
        case measure => simp [intOf]; omega
      · rw [if_neg hm] at HST
        go_wp2_with fail
        go_roundw
        case rel => exact ⟨k + 1, by omega, by go_num, by rw [HST.out], by rw [HST.out], B4.out⟩
        case measure => simp [intOf]; omega
    · obtain rfl : k = zs.length := by omega
      have HBl := Lib.hid (BX.out.trans (hbel.mono BX.out.size))
      clear hbel
      go_wp2_with fail
      go_ret2
      exact ⟨rfl, HBl.out⟩
end Go.Proofs.Ytijbhcdnbaaobaa
/- Contract of queue's Price. Conditions: an evening, groups and prices that read as data. -/
namespace Go.Proofs.Ytijbhcdnbaaobaa
open Go.RowKit

theorem ordZ_pair (zs : List Int) : (ordZ zs).Pairwise (· ≤ ·) := by
  have h := List.pairwise_mergeSort (le := fun x y : Int => decide (x ≤ y)) (fun a b c h1 h2 => by simp only [decide_eq_true_eq] at h1 h2 ⊢; omega) (fun a b => by simp only [Bool.or_eq_true, decide_eq_true_eq]; omega) zs
  exact h.imp fun h => of_decide_eq_true h
/-- Both ways find the same. -/
theorem pr_best (f : EveZ) (l : List GrpZ) {r : Nat} {zs : List Int} (hc : checkQ f l = 0) (hr : r < f.rides.length) (h0 : 0 < zs.length) (hz : ∀ z ∈ zs, 0 ≤ z ∧ z ≤ 100) :
    (rpGo (prS f l r) zs zs.length).1 = (bpGo (prS f l r) (ordZ zs) zs.length).1 ∧ (rpGo (prS f l r) zs zs.length).2 = (bpGo (prS f l r) (ordZ zs) zs.length).2 := by
  have hol := ordZ_len zs
  have h1 := rp_best (prS f l r) zs (fun z h => (hz z h).1) (zs.length - 1) (by omega)
  have h2 := bp_best (prS f l r) (ordZ zs) (fun z h => (prS_bd hc hr (hz z (ordZ_mem.1 h))).1) (ordZ_pair zs) (zs.length - 1) (by omega)
  rw [show zs.length - 1 + 1 = zs.length by omega] at h1 h2
  rw [List.take_length] at h1
  rw [show (ordZ zs).take zs.length = ordZ zs by rw [← hol, List.take_length]] at h2
  exact h1.one (h2.perm fun z => ordZ_mem.symm)
set_option maxRecDepth 100000 in
set_option maxHeartbeats 1000000 in
theorem Price_any (f : EveZ) (l : List GrpZ) (A A2 : Option Addr) (c c2 B : Nat) (rs : List (Option Addr × Nat)) (A3 : Option Addr) (c3 : Nat) (zs : List Int) (ride : Int) (w : World) (hB : B ≤ w.heap.size) (hr : Reads w B 5 A f.rides.length (bthCells f.rides)) (hn : f.rides.length ≤ maxLen) (hl : GrpsIn w B A2 rs l) (hz : Reads w B 1 A3 zs.length (zs.map (Value.int .i64))) (hzl : zs.length ≤ maxLen) :
    Calls Try.prog 36 #[eveV f A c, .slice A2 l.length c2, .int .i64 ride, .slice A3 zs.length c3] w fun e w' => e = .returned (.tuple #[.int .i64 (prR f l ride zs).1, .int .i64 (prR f l ride zs).2.1, .int .i64 (prR f l ride zs).2.2]) ∧ Below w.heap.size w w' := by
  obtain ⟨W, hW⟩ : ∃ W, W = w.alloc (.cells #[.slice A f.rides.length c, .int .i64 f.walk] 24) := ⟨_, rfl⟩
  have bW : Below w.heap.size w W := by subst hW; exact (Below.refl _ _).alloc (Nat.le_refl _) _
  have r0 : Row W w.heap.size 24 [.slice A f.rides.length c, .int .i64 f.walk] := by subst hW; exact Row.new w _ _
  have q0 : W.cell? ⟨w.heap.size, 0, none⟩ = some (.slice A f.rides.length c) := r0.cell (j := 0) (by simp)
  have q1 : W.cell? ⟨w.heap.size, 1, none⟩ = some (.int .i64 f.walk) := r0.cell (j := 1) (by simp)
  have lW : w.heap.size < W.heap.size := r0.lt
  have HBW := Lib.hid bW
  have HR0 := Lib.hid r0
  have hBW := Nat.le_trans hB bW.size
  have HR : Hid (∀ X, Below w.heap.size w X → Reads X B 5 A f.rides.length (bthCells f.rides) ∧ GrpsIn X B A2 rs l ∧ Reads X B 1 A3 zs.length (zs.map (Value.int .i64))) := fun X hX => ⟨hr.below (hX.mono hB), hl.below (hX.mono hB), hz.below (hX.mono hB)⟩
  have HC := Lib.hid (Check_any f l A A2 c c2 B rs W hBW (hr.below (bW.mono hB)) hn (hl.below (bW.mono hB)))
  by_cases hc : checkQ f l = 0
  · have n8 := (eve_lens8 hc).1
    rw [hc] at HC
    have H1 : Hid (∀ (X : World) (c : Nat), Calls Try.prog 58 #[.int .i64 0, .int .i64 ((f.rides.length : Int) - 1), .slice (some ⟨X.heap.size, 0, none⟩) 1 c] (X.alloc (.cells #[.int .i64 ride] 3)) fun e w' => e = .returned (.bool (inB ride 0 ((f.rides.length : Int) - 1))) ∧ X.alloc (.cells #[.int .i64 ride] 3) = w') := fun X c => qall_one _ _ c ride 0 _ (Row.new X 3 #[.int .i64 ride])
    have H2 : Hid (∀ X : World, Below w.heap.size w X → Calls Try.prog 59 #[.slice A3 zs.length c3] X fun e w' => e = .returned (.bool (vpB zs)) ∧ Below X.heap.size X w') := fun X hX => validPrices_any zs A3 c3 B X (HR.out X hX).2.2 (Nat.le_trans hB hX.size) hzl
    have ew : IntKind.i64.wrap ((f.rides.length : Int) - 1) = (f.rides.length : Int) - 1 := IntWalk.i64_in _ (by omega)
    have HCC : Hid (checkQ f l = 0) := hc
    unfold eveV at HC ⊢
    clear hr hl hn hz hzl r0 bW hc
    go_enter Try.func36, Try.ntmps36
    go_upto_region 1 with (fail)
    rw [← hW]
    clear hW
    go_upto_region 4 with (go_at_call 17; refine HC.out.mono ?_; rintro e w1 ⟨rfl, hb1⟩; have HB1 := Lib.hid hb1; clear hb1 HC)
    have r1 := HR0.out.below HB1.out HR0.out.lt
    have q0 : w1.cell? ⟨w.heap.size, 0, none⟩ = some (.slice A f.rides.length c) := r1.cell (j := 0) (by simp)
    have q1 : w1.cell? ⟨w.heap.size, 1, none⟩ = some (.int .i64 f.walk) := r1.cell (j := 1) (by simp)
    have lW : w.heap.size < w1.heap.size := r1.lt
    have B1 := Lib.hid (HBW.out.trans (HB1.out.mono HBW.out.size))
    have R1 := Lib.hid r1
    clear r1 HB1 HR0 HBW
    cases hk : prOk f ride zs with
    | false =>
      have HZ : Hid (prR f l ride zs = (0, 0, 1)) := by show _ = _; unfold prR; rw [if_neg (by rw [HCC.out]; simp), if_pos hk]
      cases hi : inB ride 0 ((f.rides.length : Int) - 1) with
      | false =>
        rw [hi] at H1
        clear hk hi
        go_wp2_with (go_at_call 58; refine (H1.out _ _).mono ?_; rintro e w' ⟨rfl, rfl⟩)
        go_ret3
        exact ⟨by rw [HZ.out]; rfl, B1.out.alloc B1.out.size _⟩
      | true =>
        have hv : vpB zs = false := by unfold prOk at hk; rw [hi] at hk; simpa using hk
        rw [hi] at H1
        rw [hv] at H2
        clear hk hi hv
        go_wp2_with (first | (go_at_call 58; refine (H1.out _ _).mono ?_; rintro e w' ⟨rfl, rfl⟩) | (go_at_call 59; refine (H2.out _ (B1.out.alloc B1.out.size (.cells #[.int .i64 ride] 3))).mono ?_; rintro e w' ⟨rfl, hb2⟩; have HB2 := Lib.hid ((B1.out.alloc B1.out.size (.cells #[.int .i64 ride] 3)).trans (hb2.mono (B1.out.alloc B1.out.size (.cells #[.int .i64 ride] 3)).size)); clear hb2))
        go_ret3
        exact ⟨by rw [HZ.out]; rfl, HB2.out⟩
    | true =>
      obtain ⟨⟨⟨k0, k1⟩, k2⟩, ⟨k3, k4⟩, k5⟩ := prOk_get hk
      have hk2 := hk
      unfold prOk at hk2
      simp only [Bool.and_eq_true] at hk2
      rw [hk2.1] at H1
      rw [hk2.2] at H2
      have hbest := pr_best f l HCC.out k1 (by omega) k5
      have HZ : Hid (prR f l ride zs = ((bpGo (prS f l ride.toNat) (ordZ zs) zs.length).1, (bpGo (prS f l ride.toNat) (ordZ zs) zs.length).2, 0)) := by show _ = _; unfold prR; rw [if_neg (by rw [HCC.out]; simp), if_neg (by rw [hk]; simp), hbest.1, hbest.2]
      have HBC : Hid (∀ X, Below w.heap.size w X → Calls Try.prog 60 #[eveV f A c, .slice A2 l.length c2, .int .i64 ride, .slice A3 zs.length c3] X fun e w' => e = .returned (.tuple #[.int .i64 (bpGo (prS f l ride.toNat) (ordZ zs) zs.length).1, .int .i64 (bpGo (prS f l ride.toNat) (ordZ zs) zs.length).2]) ∧ Below X.heap.size X w') := fun X hX => by
        obtain ⟨r1, r2, r3⟩ := HR.out X hX
        obtain ⟨b3, o3, rfl, hb3, hc3⟩ := r3.2 (by omega)
        have h := bestPrice_any f l A A2 c c2 B ride.toNat b3 o3 c3 rs zs X (Nat.le_trans hB hX.size) r1 r2 HCC.out k1 (by omega) (by omega) k5 (by have := hX.size; omega) (fun j h => hc3 j _ (by simp [h]))
        rw [← k2] at h
        exact h
      generalize bpGo (prS f l ride.toNat) (ordZ zs) zs.length = st at HZ HBC
      obtain ⟨bb, ss⟩ := st
      unfold eveV at HBC
      clear hk hk2 k0 k1 k2 k3 k4 k5 hbest
      go_upto_region 6 with (first | (go_at_call 58; refine (H1.out _ _).mono ?_; rintro e w' ⟨rfl, rfl⟩) | (go_at_call 59; refine (H2.out _ (B1.out.alloc B1.out.size (.cells #[.int .i64 ride] 3))).mono ?_; rintro e w3 ⟨rfl, hb2⟩; have HB2 := Lib.hid (hb2.trans (Below.refl _ _)); have BB := Lib.hid ((B1.out.alloc B1.out.size (.cells #[.int .i64 ride] 3)).trans (hb2.mono (B1.out.alloc B1.out.size (.cells #[.int .i64 ride] 3)).size)); have RR := Lib.hid ((R1.out.alloc (.cells #[.int .i64 ride] 3)).below hb2 (R1.out.alloc (.cells #[.int .i64 ride] 3)).lt); clear hb2))
      have r3 := RR.out
      have x0 : w3.cell? ⟨w.heap.size, 0, none⟩ = some (.slice A f.rides.length c) := r3.cell (j := 0) (by simp)
      have x1 : w3.cell? ⟨w.heap.size, 1, none⟩ = some (.int .i64 f.walk) := r3.cell (j := 1) (by simp)
      have l3 := r3.lt
      have HC3 := Lib.hid (HBC.out w3 BB.out)
      clear r3 HBC
      go_wp2_with (go_at_call 60; refine HC3.out.mono ?_; rintro e w4 ⟨rfl, hb4⟩; have HB4 := Lib.hid (BB.out.trans (hb4.mono BB.out.size)); clear hb4)
      go_ret3
      exact ⟨by rw [HZ.out]; rfl, HB4.out⟩
  · have HZ : Hid (prR f l ride zs = (0, 0, checkQ f l)) := if_pos hc
    generalize checkQ f l = k at hc HC HZ
    unfold eveV at HC ⊢
    clear hr hl hn hz hzl r0 bW HR0
    go_enter Try.func36, Try.ntmps36
    go_upto_region 1 with (fail)
    rw [← hW]
    clear hW
    go_wp2_with (go_at_call 17; refine HC.out.mono ?_; rintro e w1 ⟨rfl, hb1⟩; have HB1 := Lib.hid (HBW.out.trans (hb1.mono HBW.out.size)); clear hb1)
    all_goals first | (go_ret3; rw [HZ.out]; exact ⟨rfl, HB1.out⟩) | (exfalso; omega) | trace_state
end Go.Proofs.Ytijbhcdnbaaobaa
namespace Go.Proofs.Ytijbhcdnbaaobaa
open Go.RowKit

theorem rtaken_any (f : EveZ) (l : List GrpZ) (A A2 : Option Addr) (c c2 : Nat) (rs : List (Option Addr × Nat)) (X : World) (hr : Reads X X.heap.size 5 A f.rides.length (bthCells f.rides)) (hl : GrpsIn X X.heap.size A2 rs l) (hc : checkQ f l = 0) (x9 : RawR) (h9 : RefOk f l x9) :
    Calls Try.prog 48 #[eveV f A c, .slice A2 l.length c2] X fun e w' => ∃ (v : Nat) (A6 : Option Addr) (c6 : Nat), e = .returned (.pointer (some ⟨v, 0, none⟩)) ∧ Below X.heap.size X w' ∧ v < w'.heap.size ∧ w'.cell? ⟨v, 9, none⟩ = some (.slice A6 (takL f l).length c6) ∧ Reads w' w'.heap.size 1 A6 (takL f l).length ((takL f l).map (Value.int .i64)) := by
  have hp := h9.ok hc
  obtain ⟨N, hN, hgo⟩ := hp.go
  refine (rplayed_any f l A A2 c c2 rs X (eve_lens8 hc).1 (eve_lens8 hc).2 hr hl hp.st x9 N hN hgo).mono ?_
  rintro e w9 ⟨E, rfl, -, hEf, hEl, hb9, qs, uv, hin⟩
  have v9 : w9.cell? ⟨E.v, 9, none⟩ = some (.slice (E.aT 2) f.rides.length (E.cT 2)) := (hin.pl.cell (j := 9) (by simp [rfL])).trans (by rw [← hEf]; rfl)
  have hR9 := hin.tabR (k := 2) (n := f.rides.length) (by omega) (by rw [← hEf]; rfl)
  have ht : (List.range f.rides.length).map (x9.tab 2) = takL f l := by
    have h := h9.takes
    unfold rtabZ takesZ at h
    rw [if_pos hc, if_pos hc] at h
    exact h
  have hn : (takL f l).length = f.rides.length := (tak_bd hc).1
  rw [ht] at hR9
  rw [hn]
  exact ⟨E.v, E.aT 2, E.cT 2, rfl, hb9, hin.pl.lt, v9, hR9⟩
set_option maxRecDepth 100000 in
set_option maxHeartbeats 2000000 in
theorem rPrice_any (f : EveZ) (l : List GrpZ) (A A2 : Option Addr) (c c2 B : Nat) (rs : List (Option Addr × Nat)) (A3 : Option Addr) (c3 : Nat) (zs : List Int) (ride : Int) (w : World) (hB : B ≤ w.heap.size) (hr : Reads w B 5 A f.rides.length (bthCells f.rides)) (hn : f.rides.length ≤ maxLen) (hl : GrpsIn w B A2 rs l) (hz : Reads w B 1 A3 zs.length (zs.map (Value.int .i64))) (hzl : zs.length ≤ 40) :
    Calls Try.prog 37 #[eveV f A c, .slice A2 l.length c2, .int .i64 ride, .slice A3 zs.length c3] w fun e w' => e = .returned (.tuple #[.int .i64 (prR f l ride zs).1, .int .i64 (prR f l ride zs).2.1, .int .i64 (prR f l ride zs).2.2]) ∧ Below w.heap.size w w' := by
  obtain ⟨W, hW⟩ : ∃ W, W = w.alloc (.cells #[.slice A f.rides.length c, .int .i64 f.walk] 24) := ⟨_, rfl⟩
  have bW : Below w.heap.size w W := by subst hW; exact (Below.refl _ _).alloc (Nat.le_refl _) _
  have r0 : Row W w.heap.size 24 [.slice A f.rides.length c, .int .i64 f.walk] := by subst hW; exact Row.new w _ _
  have q0 : W.cell? ⟨w.heap.size, 0, none⟩ = some (.slice A f.rides.length c) := r0.cell (j := 0) (by simp)
  have q1 : W.cell? ⟨w.heap.size, 1, none⟩ = some (.int .i64 f.walk) := r0.cell (j := 1) (by simp)
  have lW : w.heap.size < W.heap.size := r0.lt
  have HBW := Lib.hid bW
  have HR0 := Lib.hid r0
  have hBW := Nat.le_trans hB bW.size
  have HR : Hid (∀ X, Below w.heap.size w X → Reads X B 5 A f.rides.length (bthCells f.rides) ∧ GrpsIn X B A2 rs l ∧ Reads X B 1 A3 zs.length (zs.map (Value.int .i64))) := fun X hX => ⟨hr.below (hX.mono hB), hl.below (hX.mono hB), hz.below (hX.mono hB)⟩
  have HC := Lib.hid (rCheck_any f l A A2 c c2 B rs W hBW (hr.below (bW.mono hB)) hn (hl.below (bW.mono hB)))
  by_cases hc : checkQ f l = 0
  · have n8 := (eve_lens8 hc).1
    rw [hc] at HC
    have ew : IntKind.i64.wrap ((f.rides.length : Int) - 1) = (f.rides.length : Int) - 1 := IntWalk.i64_in _ (by omega)
    have HCC : Hid (checkQ f l = 0) := hc
    unfold eveV at HC ⊢
    clear hr hl hn hz r0 bW hc
    go_enter Try.func37, Try.ntmps37
    go_upto_region 1 with (fail)
    rw [← hW]
    clear hW
    go_upto_region 4 with (go_at_call 20; refine HC.out.mono ?_; rintro e w1 ⟨rfl, hb1⟩; have HB1 := Lib.hid hb1; clear hb1 HC)
    have r1 := HR0.out.below HB1.out HR0.out.lt
    have q0 : w1.cell? ⟨w.heap.size, 0, none⟩ = some (.slice A f.rides.length c) := r1.cell (j := 0) (by simp)
    have q1 : w1.cell? ⟨w.heap.size, 1, none⟩ = some (.int .i64 f.walk) := r1.cell (j := 1) (by simp)
    have lW : w.heap.size < w1.heap.size := r1.lt
    have B1 := Lib.hid (HBW.out.trans (HB1.out.mono HBW.out.size))
    have R1 := Lib.hid r1
    clear r1 HB1 HR0 HBW
    have HF1 : Hid (∀ X : World, Calls Try.prog 45 #[.int .i64 ride, .int .i64 0, .int .i64 ((f.rides.length : Int) - 1)] X fun e w' => e = .returned (.bool (inB ride 0 ((f.rides.length : Int) - 1))) ∧ X = w') := fun X => rfrom_any _ _ _ X
    have HF2 : Hid (∀ X : World, Calls Try.prog 45 #[.int .i64 (zs.length : Int), .int .i64 1, .int .i64 20] X fun e w' => e = .returned (.bool (inB (zs.length : Int) 1 20)) ∧ X = w') := fun X => rfrom_any _ _ _ X
    have HZ0 : Hid (prOk f ride zs = false → prR f l ride zs = (0, 0, 1)) := fun hk => by unfold prR; rw [if_neg (by rw [HCC.out]; simp), if_pos hk]
    have HOK : Hid (prOk f ride zs = (inB ride 0 ((f.rides.length : Int) - 1) && (inB (zs.length : Int) 1 20 && allB zs 0 100))) := rfl
    cases i1 : inB ride 0 ((f.rides.length : Int) - 1) with
    | false =>
      rw [i1] at HF1 HOK
      have HZ := Lib.hid (HZ0.out HOK.out)
      clear i1
      go_wp2_with (go_at_call 45; refine (HF1.out _).mono ?_; rintro e w' ⟨rfl, rfl⟩; clear HF1)
      go_ret3
      exact ⟨by rw [HZ.out]; rfl, B1.out⟩
    | true =>
      rw [i1] at HF1 HOK
      cases i2 : inB (zs.length : Int) 1 20 with
      | false =>
        rw [i2] at HF2 HOK
        have HZ := Lib.hid (HZ0.out HOK.out)
        clear i1 i2
        go_wp2_with (first | (go_at_call 45; refine (HF1.out _).mono ?_; rintro e w' ⟨rfl, rfl⟩; clear HF1) | (go_at_call 45; refine (HF2.out _).mono ?_; rintro e w' ⟨rfl, rfl⟩; clear HF2))
        go_ret3
        exact ⟨by rw [HZ.out]; rfl, B1.out⟩
      | true =>
        rw [i2] at HF2 HOK
        have b1 := inB_le i1
        have b2 := inB_le i2
        have hok1 : prOk f ride zs = allB zs 0 100 := HOK.out
        have HOK1 := Lib.hid hok1
        have HF3 : Hid (∀ (z : Int) (X : World), Calls Try.prog 45 #[.int .i64 z, .int .i64 0, .int .i64 100] X fun e w' => e = .returned (.bool (inB z 0 100)) ∧ X = w') := fun z X => rfrom_any _ _ _ X
        have hzc : ∃ b3 o3, A3 = some ⟨b3, o3, none⟩ ∧ b3 < w.heap.size ∧ ∀ X, Below w.heap.size w X → ∀ j (h : j < zs.length), X.cell? ⟨b3, o3 + j, none⟩ = some (.int .i64 zs[j]) := by
          obtain ⟨b3, o3, e3, hb3, hc3⟩ := (HR.out w (Below.refl _ _)).2.2.2 (by omega)
          exact ⟨b3, o3, e3, by omega, fun X hX j h => (hX.cell (p := ⟨b3, o3 + j, none⟩) (show b3 < w.heap.size by omega)).trans (hc3 j _ (by simp [h]))⟩
        obtain ⟨b3, o3, rfl, hb3, hzc⟩ := hzc
        have HZC := Lib.hid hzc
        clear i1 i2 HOK hok1 hzc
        go_wp2_with (first | (go_at_call 45; refine (HF1.out _).mono ?_; rintro e w' ⟨rfl, rfl⟩; clear HF1) | (go_at_call 45; refine (HF2.out _).mono ?_; rintro e w' ⟨rfl, rfl⟩; clear HF2))
        go_loopw [12] (fun iv wr => ∃ k : Nat, k ≤ zs.length ∧ iv = .int .i64 (k : Int) ∧ allB (zs.take k) 0 100 = true ∧ wr = w1) (fun iv _ => zs.length - (intOf iv).toNat)
        case atStart => exact ⟨0, Nat.zero_le _, rfl, rfl, rfl⟩
        case round =>
          obtain ⟨k, hk, rfl, hall, rfl⟩ := hrel
          by_cases hlt : k < zs.length
          · have hx := HZC.out wr B1.out k hlt
            have lb3 := Nat.lt_of_lt_of_le hb3 B1.out.size
            have hin : (k : Int) < (zs.length : Int) := by omega
            have ei : IntKind.i64.wrap ((k : Int) + 1) = (k : Int) + 1 := IntWalk.i64_in _ (by omega)
            have hsn := allB_snoc zs k 0 100 hlt
            have hou := allB_out zs k 0 100 hlt
            have hge : zs[k]?.getD 0 = zs[k] := by rw [List.getElem?_eq_getElem hlt]; rfl
            rw [hge] at hsn hou
            rw [hall] at hsn
            generalize zs[k] = z at hx hsn hou
            have HFZ := Lib.hid (HF3.out z)
            cases i3 : inB z 0 100 with
            | false =>
              rw [i3] at HFZ
              have HZ := Lib.hid (HZ0.out (HOK1.out.trans (hou i3)))
              clear hsn hou i3 hge
              go_wp2_with (go_at_call 45; refine (HFZ.out _).mono ?_; rintro e w' ⟨rfl, rfl⟩; clear HFZ)
              go_ret3
              exact ⟨by rw [HZ.out]; rfl, B1.out⟩
            | true =>
              rw [i3] at HFZ hsn
              have HSN := Lib.hid hsn
              clear hsn hou i3 hge
              go_wp2_with (go_at_call 45; refine (HFZ.out _).mono ?_; rintro e w' ⟨rfl, rfl⟩; clear HFZ)
              go_roundw
              case rel => exact ⟨k + 1, by omega, by go_num, HSN.out, trivial⟩
              case measure => simp [intOf]; omega
          · obtain rfl : k = zs.length := by omega
            rw [List.take_length] at hall
            have hok := HOK1.out.trans hall
            obtain ⟨⟨⟨k0, k1⟩, k2⟩, ⟨k3, k4⟩, k5⟩ := prOk_get hok
            have HZ : Hid (prR f l ride zs = ((rpGo (prS f l ride.toNat) zs zs.length).1, (rpGo (prS f l ride.toNat) zs zs.length).2, 0)) := by show _ = _; unfold prR; rw [if_neg (by rw [HCC.out]; simp), if_neg (by rw [hok]; simp)]
            obtain ⟨r, hr9⟩ : ∃ r, r = ride.toNat := ⟨_, rfl⟩
            rw [← hr9] at HZ k1 k2
            subst k2
            have HK5 := Lib.hid k5
            clear hr9 HZ0 HOK1 hok k0 hall k5 HF3
            go_upto_region 13 with fail
            go_loopw [13, 14, 15] (fun bv mv iv wr => ∃ k : Nat, k ≤ zs.length ∧ iv = .int .i64 (k : Int) ∧ bv = .int .i64 (rpGo (prS f l r) zs k).1 ∧ mv = .int .i64 (rpGo (prS f l r) zs k).2 ∧ Below w.heap.size w wr ∧ Row wr w.heap.size 24 [.slice A f.rides.length c, .int .i64 f.walk]) (fun _ _ iv _ => zs.length - (intOf iv).toNat)
            case atStart => exact ⟨0, Nat.zero_le _, rfl, rfl, rfl, B1.out, R1.out⟩
            case round =>
              obtain ⟨k, hk, rfl, rfl, rfl, hbel, q0⟩ := hrel
              by_cases hlt : k < zs.length
              · have hst := rpGo_succ (prS f l r) zs hlt
                have hp := HK5.out zs[k] (List.getElem_mem hlt)
                have HXX : Hid (∀ Y, Below w.heap.size w Y → Y.cell? ⟨b3, o3 + k, none⟩ = some (.int .i64 zs[k])) := fun Y hY => HZC.out Y hY k hlt
                generalize zs[k] = pz at hst hp HXX
                have HST := Lib.hid hst
                have HPC := Lib.hid (pri_check HCC.out k1 hp)
                have hin : (k : Int) < (zs.length : Int) := by omega
                have ei : IntKind.i64.wrap ((k : Int) + 1) = (k : Int) + 1 := IntWalk.i64_in _ (by omega)
                have x0 : wr.cell? ⟨w.heap.size, 0, none⟩ = some (.slice A f.rides.length c) := q0.cell (j := 0) (by simp)
                have x1 : wr.cell? ⟨w.heap.size, 1, none⟩ = some (.int .i64 f.walk) := q0.cell (j := 1) (by simp)
                have l0 := q0.lt
                have HCP := Lib.hid (rCopy_any f A c B wr (Nat.le_trans hB hbel.size) (HR.out wr hbel).1 (by omega))
                have Q0 := Lib.hid q0
                have HBl := Lib.hid hbel
                unfold eveV at HCP
                clear q0 hbel hst
                go_upto_region 16 with (go_at_call 18; refine HCP.out.mono ?_; rintro e w2 ⟨A5, c5, rfl, hb2, ho2⟩; unfold eveV)
                obtain ⟨g, cap, e, hg, hlg⟩ := World.ownsRow.form ho2 (by omega)
                injection e with e1 _ e2
                subst e1 e2
                have rG := (Row.of_own ho2).1.alloc (.cells #[.slice (some ⟨g, 0, none⟩) f.rides.length c5, .int .i64 f.walk] 24)
                have rE := Row.new w2 24 #[.slice (some ⟨g, 0, none⟩) f.rides.length c5, .int .i64 f.walk]
                have bX := hb2.alloc hb2.size (.cells #[.slice (some ⟨g, 0, none⟩) f.rides.length c5, .int .i64 f.walk] 24)
                have hgE : wr.heap.size ≤ w2.heap.size := hb2.size
                have hgne : w2.heap.size ≠ g := by omega
                generalize w2.alloc (.cells #[.slice (some ⟨g, 0, none⟩) f.rides.length c5, .int .i64 f.walk] 24) = X at rG rE bX ⊢
                generalize w2.heap.size = ge at rE hgE hgne ⊢
                clear ho2 hb2 hlg
                have y0 : X.cell? ⟨ge, 0, none⟩ = some (.slice (some ⟨g, 0, none⟩) f.rides.length c5) := rE.cell (j := 0) (by simp)
                have lE := rE.lt
                have lG := rG.lt
                have hat := bthCells_at f.rides r k1 1 (by omega)
                have hlen := bth_len f.rides
                have hgc : X.cell? ⟨g, r * 5 + 1, none⟩ = some (.int .i64 (f.rides.getD r default).price) := by
                  rw [rG.cell (j := r * 5 + 1) (by omega), hat]
                  rfl
                have fG := rG.frozen (r * 5 + 1)
                have ri0 : ¬ (r : Int) < 0 := by omega
                have ri1 : (r : Int) < (f.rides.length : Int) := by omega
                have rGY := (rG.drewN 1).set (r * 5 + 1) (.int .i64 pz)
                rw [pri_cells f k1] at rGY
                have rEY := (rE.drewN 1).far (p := ⟨g, r * 5 + 1, none⟩) hgne (.int .i64 pz)
                have bY := (below_drewN bX 1).setCell (p := ⟨g, r * 5 + 1, none⟩) (by show wr.heap.size ≤ g; omega) (.int .i64 pz)
                have hxX := HXX.out X (HBl.out.trans (bX.mono HBl.out.size))
                have lbX : b3 < X.heap.size := by have := HBl.out.size; have := bX.size; omega
                have HGY := Lib.hid rGY
                have HEY := Lib.hid rEY
                have HBY := Lib.hid bY
                clear rG rE bX hat hlen rGY rEY bY
                refine wp_tail 9 (by kernel_rfl) (by kernel_rfl) ?_
                simp only [List.take_succ_cons, List.take_zero, List.drop_succ_cons, List.drop_zero]
                repeat still_step
                refine wpStill_nil ?_
                go_upto_region 17 with fail
                have bZ := HBY.out
                have rE := HEY.out
                have rG := HGY.out
                generalize (X.drewN 1).setCell ⟨g, r * 5 + 1, none⟩ (.int .i64 pz) = Z at bZ rE rG ⊢
                clear y0 lE lG hgc fG ri0 ri1 HGY HEY HBY hxX lbX
                have y0 : Z.cell? ⟨ge, 0, none⟩ = some (.slice (some ⟨g, 0, none⟩) f.rides.length c5) := rE.cell (j := 0) (by simp)
                have y1 : Z.cell? ⟨ge, 1, none⟩ = some (.int .i64 f.walk) := rE.cell (j := 1) (by simp)
                have lE := rE.lt
                have hbz := HBl.out.trans (bZ.mono HBl.out.size)
                have hzz : Reads Z Z.heap.size 5 (some ⟨g, 0, none⟩) (f.pri r pz).rides.length (bthCells (f.pri r pz).rides) := rG.reads (bth_len _) rG.lt
                obtain ⟨x9, h9⟩ := ref_ok (f.pri r pz) l
                have hw := rtaken_any (f.pri r pz) l (some ⟨g, 0, none⟩) A2 c5 c2 rs Z hzz ((HR.out Z hbz).2.1.more (Nat.le_trans hB hbz.size)) HPC.out x9 h9
                unfold eveV at hw
                rw [pri_len, show (f.pri r pz).walk = f.walk from rfl] at hw
                obtain ⟨t1, t2⟩ := tak_bd HPC.out
                rw [pri_len] at t1
                have hsp : prS f l r pz = smZ (takL (f.pri r pz) l) (takL (f.pri r pz) l).length := rfl
                have hsb := prS_bd HCC.out k1 hp
                generalize takL (f.pri r pz) l = L at hw t1 t2 hsp
                have HW := Lib.hid hw
                have HT2 := Lib.hid t2
                have Q1 := Lib.hid (Q0.out.below bZ l0)
                have HBZ := Lib.hid hbz
                clear h9 hzz hw t2 rG rE bZ hbz x0 x1 HCP Q0 HBl
                go_upto_region 20 with (go_at_call 48; refine HW.out.mono ?_; rintro e w4 ⟨v, A6, c6, rfl, hb4, lv, v9, hr6⟩)
                have HB4 := Lib.hid (HBZ.out.trans (hb4.mono HBZ.out.size))
                have Q4 := Lib.hid (Q1.out.below hb4 Q1.out.lt)
                have HR6 := Lib.hid hr6
                have HSP := Lib.hid hsp
                clear hb4 lv v9 hr6 HBZ Q1 HW y0 y1 lE l0 hsp
                go_loopw [18, 19] (fun sv jv wx => ∃ j : Nat, j ≤ L.length ∧ jv = .int .i64 (j : Int) ∧ sv = .int .i64 (smZ L j) ∧ wx = w4) (fun _ jv _ => L.length - (intOf jv).toNat)
                case atStart => exact ⟨0, Nat.zero_le _, rfl, rfl, rfl⟩
                case round =>
                  obtain ⟨j, hj, rfl, rfl, rfl⟩ := hrel
                  by_cases hlj : j < L.length
                  · obtain ⟨b, o, rfl, hbl, hcc⟩ := HR6.out.2 (by omega)
                    have hy : wr.cell? ⟨b, o + j, none⟩ = some (.int .i64 L[j]) := hcc j _ (by simp [hlj])
                    have hin2 : (j : Int) < (L.length : Int) := by omega
                    have e1 := smZ_succ L hlj
                    have b1 := smZ_bd HT2.out (j + 1) (by omega)
                    have ew : IntKind.i64.wrap (smZ L j + L[j]) = smZ L (j + 1) := by rw [e1] at b1 ⊢; exact IntWalk.i64_in _ (by omega)
                    have ej : IntKind.i64.wrap ((j : Int) + 1) = (j : Int) + 1 := IntWalk.i64_in _ (by omega)
                    clear hcc e1 b1
                    generalize L[j] = x at hy ew
                    go_wp2_with fail
                    go_roundw
                    case rel => exact ⟨j + 1, by omega, by go_num, rfl, trivial⟩
                    case measure => simp [intOf]; omega
                  · obtain rfl : j = L.length := by omega
                    rw [← HSP.out]
                    unfold rpStep at HST
                    generalize prS f l r pz = sp at HST hsb HSP ⊢
                    generalize rpGo (prS f l r) zs k = st at HST ⊢
                    obtain ⟨bb, mm⟩ := st
                    have hx := HXX.out wr HB4.out
                    have lb : b3 < wr.heap.size := by have := HB4.out.size; omega
                    clear HSP hlj hj
                    go_upto_region 23 with fail
                    simp only at HST ⊢
                    by_cases g1 : bb < 0
                    · rw [if_pos (.inl g1)] at HST
                      go_wp2_with fail
                      go_roundw
                      case rel => exact ⟨k + 1, by omega, by go_num, by rw [HST.out], by rw [HST.out], HB4.out, Q4.out⟩
                      case measure => simp [intOf]; omega
                    · by_cases g2 : mm < sp
                      · rw [if_pos (.inr (.inl g2))] at HST
                        go_wp2_with fail
                        go_roundw
                        case rel => exact ⟨k + 1, by omega, by go_num, by rw [HST.out], by rw [HST.out], HB4.out, Q4.out⟩
                        case measure => simp [intOf]; omega
                      · by_cases g3 : sp = mm
                        · by_cases g4 : pz < bb
                          · rw [if_pos (.inr (.inr ⟨g3, g4⟩))] at HST
                            go_wp2_with fail
                            go_roundw
                            case rel => exact ⟨k + 1, by omega, by go_num, by rw [HST.out], by rw [HST.out], HB4.out, Q4.out⟩
                            case measure => simp [intOf]; omega
                          · rw [if_neg (by omega)] at HST
                            go_wp2_with fail
                            go_roundw
                            case rel => exact ⟨k + 1, by omega, by go_num, by rw [HST.out], by rw [HST.out], HB4.out, Q4.out⟩
                            case measure => simp [intOf]; omega
                        · rw [if_neg (by omega)] at HST
                          go_wp2_with fail
                          go_roundw
                          case rel => exact ⟨k + 1, by omega, by go_num, by rw [HST.out], by rw [HST.out], HB4.out, Q4.out⟩
                          case measure => simp [intOf]; omega
              · obtain rfl : k = zs.length := by omega
                have HBl := Lib.hid hbel
                clear hbel q0
                generalize rpGo (prS f l r) zs zs.length = st at HZ ⊢
                go_wp2_with fail
                go_ret3
                exact ⟨by rw [HZ.out]; rfl, HBl.out⟩
  · have HZ : Hid (prR f l ride zs = (0, 0, checkQ f l)) := if_pos hc
    generalize checkQ f l = k at hc HC HZ
    unfold eveV at HC ⊢
    clear hr hl hn hz r0 bW HR0
    go_enter Try.func37, Try.ntmps37
    go_upto_region 1 with (fail)
    rw [← hW]
    clear hW
    go_wp2_with (go_at_call 20; refine HC.out.mono ?_; rintro e w1 ⟨rfl, hb1⟩; have HB1 := Lib.hid (HBW.out.trans (hb1.mono HBW.out.size)); clear hb1)
    all_goals first | (go_ret3; rw [HZ.out]; exact ⟨rfl, HB1.out⟩) | (exfalso; omega) | trace_state
end Go.Proofs.Ytijbhcdnbaaobaa
