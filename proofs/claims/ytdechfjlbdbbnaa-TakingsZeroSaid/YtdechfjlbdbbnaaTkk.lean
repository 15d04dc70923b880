/- Contract of takings' split. Conditions: an amount; weights that read as data and are right. -/
import Derived.Test.YtdechfjlbdbbnaaTkj
import Derived.Test.YtdechfjlbdbbnaaTki
import Derived.Deep.OwnRows
import Derived.BigRegion
namespace Go.Proofs.Ytdechfjlbdbbnaa
open Go.RowKit Go.Shelf Go.Lib Go.Sort

theorem Try.info_intT : (Try.prog.info? 3).map (fun i => (i.zero, i.size, i.bytes)) = some (some (.int .i64 0), 1, 8) := by kernel_rfl
theorem run_mkT (n : Nat) (hn : n ≤ 100) (w : World) : ∃ M : Array Value, M.toList = List.replicate n (.int .i64 0) ∧ (Instr.makeSlice 22 (.int .i64 (n : Int)) (.int .i64 (n : Int))).run Try.prog w = .ok (.slice (some ⟨w.heap.size, 0, none⟩) n n) (w.alloc (.cells M 3)) :=
  ⟨_, by
    refine List.ext_getElem? fun i => ?_
    simp only [madeCells, List.getElem?_replicate, Array.getElem?_toList, Array.getElem?_map, Array.getElem?_range]
    by_cases hi : i < n
    · simp [hi, Nat.mod_one]
    · simp [hi], run_make_row' _ _ _ _ Try.underlying22 Try.info_intT rfl .i64 .i64 n (by omega) (by omega) w⟩
/-- A row whose first k numbers are told. -/
def fillL (f : Nat → Int) (n k : Nat) : List Value := (List.range n).map fun j => .int .i64 (if j < k then f j else 0)
theorem fillL_zero (f : Nat → Int) (n : Nat) : fillL f n 0 = List.replicate n (.int .i64 0) := by
  refine List.ext_getElem? fun i => ?_
  unfold fillL
  rw [List.getElem?_map, List.getElem?_replicate]
  by_cases hi : i < n
  · rw [List.getElem?_range hi, if_pos hi]; simp
  · rw [List.getElem?_eq_none (by simp; omega), if_neg hi]; rfl
theorem fillL_set (f : Nat → Int) (n k : Nat) : (fillL f n k).set k (.int .i64 (f k)) = fillL f n (k + 1) := by
  refine List.ext_getElem? fun i => ?_
  unfold fillL
  rw [List.getElem?_set, List.getElem?_map, List.getElem?_map]
  by_cases hi : i < n
  · rw [List.getElem?_range hi]
    by_cases e : k = i
    · subst e; simp [hi]
    · simp [e, show (i < k + 1) = (i < k) from propext ⟨by omega, by omega⟩]
  · rw [List.getElem?_eq_none (by simp; omega)]
    simp; omega
theorem fillL_len (f : Nat → Int) (n k : Nat) : (fillL f n k).length = n := by simp [fillL]
theorem fillL_at (f : Nat → Int) {n j : Nat} (k : Nat) (hj : j < n) : (fillL f n k)[j]? = some (.int .i64 (if j < k then f j else 0)) := by
  unfold fillL
  rw [List.getElem?_map, List.getElem?_range hj]; rfl
theorem sw_size {enc : Nat → Value} {d : Array Nat} {w X : World} {blk : Nat} (h : SW enc w blk 0 d X) : w.heap.size ≤ X.heap.size := h.le
theorem sort1_block (enc : Nat → Value) (w : World) (blk m k : Nat) (d : Array Nat) (os : Array Obj) (h1 : k ≠ blk) (h2 : k < w.heap.size) : (sortWorld enc w blk 0 m d os).heap[k]? = w.heap[k]? := by
  have h3 : ¬ blk = k := fun e => h1 e.symm
  unfold sortWorld putRow
  rw [heap_grow_old _ _ (by simpa [mapBlock, ahead] using h2)]
  show (w.heap.modify blk _)[k]? = _
  rw [Array.getElem?_modify, if_neg h3]
theorem sw_block {enc : Nat → Value} {d : Array Nat} {w X : World} {blk k : Nat} (h : SW enc w blk 0 d X) (h1 : k ≠ blk) (h2 : k < w.heap.size) : X.heap[k]? = w.heap[k]? := by
  obtain ⟨m, os, rfl⟩ := h
  exact sort1_block enc w blk m k d os h1 h2
theorem sw_below {enc : Nat → Value} {d : Array Nat} {w X : World} {blk B : Nat} (h : SW enc w blk 0 d X) (hb : B ≤ blk) (hB : B ≤ w.heap.size) : RowKit.Below B w X := by
  have hl := h.le
  have hk := fun k h1 h2 => sw_block h (k := k) h1 h2
  obtain ⟨m, os, rfl⟩ := h
  exact ⟨rfl, rfl, rfl, hl, fun k hk' => hk k (by omega) (by omega)⟩
/-- The numbers below n as values. -/
def encT (n x : Nat) : Value := .int .i64 (if x < n then (x : Int) else 0)
def clT (n x : Nat) : Nat := if x < n then x else 0
def cfT (C : Nat → Int) (n x y : Nat) : Int := cmpZ (C (clT n y)) (C (clT n x))
theorem cmpZ_neg (a b : Int) : decide (cmpZ a b < 0) = decide (a < b) := by
  unfold cmpZ
  by_cases h : a < b
  · simp [h]
  · rw [if_neg h]; split <;> simp [h]
theorem sortT_any (C : Nat → Int) (R : Nat → Nat → Bool) (hR : Tot R) (n g1 g2 g3 ca : Nat) (h1 : 1 ≤ n) (hn : n ≤ 10) (hs : ∀ i x, i < n → x < i → decide (C x < C i) = R i x) (w : World)
    (rC : Row w g1 3 (fillL C n n)) (rB : Row w g2 22 [.slice (some ⟨g1, 0, none⟩) n n]) (rO : Row w g3 3 (fillL (fun j => (j : Int)) n n)) (n1 : g1 ≠ g3) (n2 : g2 ≠ g3) :
    Calls Try.prog 68 #[.slice (some ⟨g3, 0, none⟩) n ca, .func (.func 69) #[] #[.pointer (some ⟨g2, 0, none⟩)]] w fun e X => e = .returned (.tuple #[]) ∧ ∃ l : List Nat, Ordl R n l ∧ (∀ p, p < n → X.cell? ⟨g3, p, none⟩ = some (.int .i64 ((l[p]?.getD 0 : Nat) : Int))) ∧ w.heap.size ≤ X.heap.size ∧ (∀ k, k ≠ g3 → k < w.heap.size → X.heap[k]? = w.heap[k]?) ∧ (∀ B, B ≤ g3 → B ≤ w.heap.size → RowKit.Below B w X) := by
  have hO : OneCell (encT n) := fun _ => rfl
  have hH : Holds (encT n) w g3 0 (Array.range n) := fun i hi => by
    have hi' : i < n := by simpa using hi
    refine ⟨?_, rO.frozen _⟩
    rw [Nat.zero_add, rO.cell (by rw [fillL_len]; exact hi'), fillL_at _ _ hi', if_pos hi']
    simp [encT, hi']
  have hcl : ∀ x, clT n x < n := fun x => by unfold clT; split <;> omega
  have hcmp : CmpLays1 Try.prog 69 #[.pointer (some ⟨g2, 0, none⟩)] (encT n) (cfT C n) g3 0 n w := by
    refine CmpReads.lays fun m os dk hd x y => ?_
    have hb : ∀ k, k ≠ g3 → k < w.heap.size → (sortWorld (encT n) w g3 0 m dk os).heap[k]? = w.heap[k]? := fun k a b => sort1_block _ w g3 m k dk os a b
    have rC' := rC.keep (hb g1 n1 rC.lt)
    have rB' := rB.keep (hb g2 n2 rB.lt)
    have := splitC_any C g1 g2 n n (clT n x) (clT n y) (hcl x) (hcl y) hn _ (rB'.cell (j := 0) (by simp)) (fun j hj => by rw [rC'.cell (by rw [fillL_len]; exact hj), fillL_at _ _ hj, if_pos hj]) rC'.lt rB'.lt
    have e : ∀ z, encT n z = .int .i64 ((clT n z : Nat) : Int) := fun z => by unfold encT clT; split <;> rfl
    show Calls _ _ #[encT n x, encT n y, .pointer (some ⟨g2, 0, none⟩)] _ _
    rw [e x, e y]
    exact this
  have hlt : ∀ i x, i < n → x < i → ltOf (cfT C n) i x = R i x := fun i x hi hx => by
    rw [← hs i x hi hx]
    unfold ltOf cfT
    rw [cmpZ_neg]
    unfold clT
    rw [if_pos hi, if_pos (by omega)]
  obtain ⟨ho, hsz⟩ := sort_ordl (lt := ltOf (cfT C n)) hR n hlt
  refine (SortStable_any n hn (encT n) (cfT C n) 69 #[.pointer (some ⟨g2, 0, none⟩)] g3 ca w (fun a X => enters_of Try.func69 (by kernel_rfl) rfl a X) hO hcmp hH rO.lt).mono ?_
  rintro e X ⟨rfl, hX⟩
  refine ⟨rfl, _, ho, fun p hp => ?_, hX.le, fun k a b => sw_block hX a b, fun B a b => sw_below hX a b⟩
  have hc := (hX.holds rO.lt hH (by rw [hsz]; simp) p (by rw [hsz]; exact hp)).1
  rw [Nat.zero_add] at hc
  rw [hc]
  have hl : p < (insertionSort (ltOf (cfT C n)) (Array.range n) 0 n).toList.length := by simp [hsz, hp]
  have hlt2 := ho.lt hl
  rw [List.getElem?_eq_getElem hl]
  have e2 : (insertionSort (ltOf (cfT C n)) (Array.range n) 0 n)[p]! = (insertionSort (ltOf (cfT C n)) (Array.range n) 0 n).toList[p] := by rw [getElem!_pos _ p (by rw [hsz]; exact hp)]; simp
  rw [e2]
  unfold encT
  rw [if_pos hlt2]
  rfl
def partL (c : Int) (ws : List Int) (m : Nat) : List Value := (List.range ws.length).map fun i => .int .i64 (partZ c ws m i)
theorem partL_zero (c : Int) (ws : List Int) : fillL (floZ c ws) ws.length ws.length = partL c ws 0 := by
  unfold fillL partL
  refine List.map_congr_left fun i hi => ?_
  rw [List.mem_range] at hi
  rw [if_pos hi]
  unfold partZ
  rw [if_neg (by omega)]; simp
theorem partL_len (c : Int) (ws : List Int) (m : Nat) : (partL c ws m).length = ws.length := by simp [partL]
theorem partL_at (c : Int) (ws : List Int) (m : Nat) {i : Nat} (hi : i < ws.length) : (partL c ws m)[i]? = some (.int .i64 (partZ c ws m i)) := by
  unfold partL
  rw [List.getElem?_map, List.getElem?_range hi]; rfl
theorem partL_set (c : Int) (ws : List Int) {m x : Nat} {l : List Nat} (ho : Ordl (befZ c ws) ws.length l) (hm : m < l.length) (hx : l[m] = x) : partZ c ws m x = floZ c ws x ∧ (partL c ws m).set x (.int .i64 (floZ c ws x + 1)) = partL c ws (m + 1) := by
  have hr : rnkZ c ws x = m := by rw [← hx]; exact ho.rank (befZ_tot c ws) hm
  have hxl : x < ws.length := by rw [← hx]; exact ho.lt hm
  refine ⟨by unfold partZ; rw [hr, if_neg (by omega)]; simp, ?_⟩
  refine List.ext_getElem? fun i => ?_
  rw [List.getElem?_set]
  by_cases hi : i < ws.length
  · rw [partL_at _ _ _ hi, partL_at _ _ _ hi, partL_len]
    by_cases e : x = i
    · subst e
      rw [if_pos rfl, if_pos hi]
      unfold partZ
      rw [hr, if_pos (by omega)]
    · rw [if_neg e]
      have hne : rnkZ c ws i ≠ m := fun h => e (ho.rank_inj (befZ_tot c ws) hxl hi (hr.trans h.symm))
      unfold partZ
      have : (if (rnkZ c ws i : Int) < ((m : Nat) : Int) then (1 : Int) else 0) = if (rnkZ c ws i : Int) < ((m + 1 : Nat) : Int) then 1 else 0 := by split <;> split <;> omega
      rw [this]
  · have h1 : (partL c ws (m + 1))[i]? = none := List.getElem?_eq_none (by rw [partL_len]; omega)
    have h2 : (partL c ws m)[i]? = none := List.getElem?_eq_none (by rw [partL_len]; omega)
    rw [h1, h2, if_neg (by omega)]
def floL (c : Int) (ws : List Int) : List Int := (List.range ws.length).map (floZ c ws)
theorem floL_cells (c : Int) (ws : List Int) : partL c ws 0 = (floL c ws).map (Value.int .i64) := by
  rw [← partL_zero]
  unfold fillL floL
  rw [List.map_map]
  refine List.map_congr_left fun i hi => ?_
  rw [List.mem_range] at hi
  rw [if_pos hi]; rfl
theorem floL_sum {c : Int} {ws : List Int} (h : WOk ws) (h0 : 0 ≤ c) (h1 : c ≤ 1000000000) : IntKind.i64.wrap (c - sumW (floL c ws)) = lefZ c ws := by
  have hl := lef_bd h h0
  have h10 := h.l10
  have hlen : (floL c ws).length = ws.length := by simp [floL]
  have hat : ∀ i, i < ws.length → wAt (floL c ws) i = floZ c ws i := fun i hi => by
    unfold wAt floL
    rw [List.getElem?_map, List.getElem?_range hi]; rfl
  have hs : sumN (wAt (floL c ws)) ws.length = sumN (floZ c ws) ws.length := sumN_congr _ hat
  have hd : lefZ c ws = c - sumN (floZ c ws) ws.length := rfl
  have h2 : sumW (floL c ws) = sumN (floZ c ws) ws.length := by
    rw [sumW_eq (zs := floL c ws) (fun i hi => by rw [hlen] at hi; rw [hat i hi]; exact (flo_cut h h0 i hi).2.2.2) (by rw [hlen, hs]; omega), hlen, hs]
  rw [h2, ← hd]
  exact IntWalk.i64_in _ (by omega)
set_option maxHeartbeats 4000000 in
set_option maxRecDepth 100000 in
theorem split_any (c : Int) (ws : List Int) (h : WOk ws) (h0 : 0 ≤ c) (h1 : c ≤ 1000000000) (A : Option Addr) (ca B : Nat) (w : World) (hB : B ≤ w.heap.size) (hr : Reads w B 1 A ws.length (ws.map (Value.int .i64))) :
    Calls Try.prog 40 #[.int .i64 c, .slice A ws.length ca] w fun e w' => ∃ g ca', e = .returned (.slice (some ⟨g, 0, none⟩) ws.length ca') ∧ w.heap.size ≤ g ∧ Row w' g 3 ((splitZ c ws).map (Value.int .i64)) ∧ Below w.heap.size w w' := by
  have l1 := h.l1
  have l10 := h.l10
  have HT := Lib.hid (total_any ws A ws.length ca B w hr (by unfold maxLen; omega))
  obtain ⟨b, o, rfl, hb, hc⟩ := hr.at1 (k := 0) (by omega)
  have HC := Lib.hid hc
  clear hc hr
  obtain ⟨n, hn⟩ : ∃ n, n = ws.length := ⟨_, rfl⟩
  have Hn := Lib.hid hn
  rw [← hn] at HT HC l1 l10 ⊢
  clear hn
  obtain ⟨M0, hM0, hmk0⟩ := run_mkT n (by omega) w
  obtain ⟨W1, hW1⟩ : ∃ W, W = w.alloc (.cells M0 3) := ⟨_, rfl⟩
  have rW1 : Row W1 w.heap.size 3 (fillL (floZ c ws) n 0) := by rw [fillL_zero, ← hM0, hW1]; exact Row.new w _ M0
  have bW1 : Below w.heap.size w W1 := by rw [hW1]; exact (Below.refl _ _).alloc (Nat.le_refl _) _
  obtain ⟨M1, hM1, hmk1⟩ := run_mkT n (by omega) W1
  clear hM0
  go_enter Try.func40, Try.ntmps40
  go_upto_region 3 with (go_at_call 47; refine HT.out.mono ?_; rintro e w' ⟨rfl, rfl⟩)
  rw [← hW1]
  clear hmk0 hW1
  go_upto_region 4 with fail
  obtain ⟨W3, hW3⟩ : ∃ W, W = (W1.alloc (.cells M1 3)).alloc (.cells #[.slice (some ⟨W1.heap.size, 0, none⟩) n n] 22) := ⟨_, rfl⟩
  have bW3 : Below w.heap.size w W3 := by rw [hW3]; exact (bW1.alloc bW1.size _).alloc (by simp; have := bW1.size; omega) _
  have rP3 : Row W3 w.heap.size 3 (fillL (floZ c ws) n 0) := by rw [hW3]; exact (rW1.alloc _).alloc _
  have rC3 : Row W3 W1.heap.size 3 (fillL (cutZ c ws) n 0) := by rw [hW3, fillL_zero, ← hM1]; exact (Row.new W1 _ M1).alloc _
  have rB3 : Row W3 (W1.heap.size + 1) 22 [.slice (some ⟨W1.heap.size, 0, none⟩) n n] := by
    rw [hW3]
    have := Row.new (W1.alloc (.cells M1 3)) 22 #[.slice (some ⟨W1.heap.size, 0, none⟩) n n]
    rw [World.size_alloc] at this
    exact this
  have sW3 : W3.heap.size = W1.heap.size + 2 := by rw [hW3]; simp
  have g01 := rW1.lt
  rw [← hW3]
  clear hmk1 hM1 hW3 rW1 bW1
  generalize W1.heap.size = g1 at rC3 rB3 sW3 g01 ⊢
  obtain ⟨M3, hM3, hmk3⟩ := run_mkT n (by omega) W3
  obtain ⟨W4, hW4⟩ : ∃ W, W = W3.alloc (.cells M3 3) := ⟨_, rfl⟩
  have bW4 : Below w.heap.size w W4 := by rw [hW4]; exact bW3.alloc bW3.size _
  have rP4 : Row W4 w.heap.size 3 (fillL (floZ c ws) n 0) := by rw [hW4]; exact rP3.alloc _
  have rC4 : Row W4 g1 3 (fillL (cutZ c ws) n 0) := by rw [hW4]; exact rC3.alloc _
  have rB4 : Row W4 (g1 + 1) 22 [.slice (some ⟨g1, 0, none⟩) n n] := by rw [hW4]; exact rB3.alloc _
  have rO4 : Row W4 (g1 + 2) 3 (fillL (fun j => (j : Int)) n 0) := by rw [fillL_zero, ← hM3, hW4, ← sW3]; exact Row.new W3 _ M3
  go_upto_region 5 with fail
  rw [← hW4]
  clear hmk3 hM3 hW4 sW3 rP3 rC3 rB3 bW3
  have HP4 := Lib.hid rP4
  have HC4 := Lib.hid rC4
  have HB4 := Lib.hid rB4
  have HO4 := Lib.hid rO4
  have HW4 := Lib.hid bW4
  clear rP4 rC4 rB4 rO4 bW4
  go_wp2_with fail
  go_loopw [26] (fun i wr => ∃ k : Nat, k ≤ n ∧ i = .int .i64 k ∧ Below w.heap.size w wr ∧ Row wr w.heap.size 3 (fillL (floZ c ws) n k) ∧ Row wr g1 3 (fillL (cutZ c ws) n k) ∧ Row wr (g1 + 1) 22 [.slice (some ⟨g1, 0, none⟩) n n] ∧ Row wr (g1 + 2) 3 (fillL (fun j => (j : Int)) n k)) (fun i _ => n - (intOf i).toNat)
  case atStart => exact ⟨0, Nat.zero_le _, rfl, HW4.out, HP4.out, HC4.out, HB4.out, HO4.out⟩
  case round =>
    obtain ⟨k, hk, rfl, hbel, rP, rC, rB, rO⟩ := hrel
    by_cases hlt : k < n
    · have i0 : ¬ (k : Int) < 0 := by omega
      have i1 : (k : Int) < (n : Int) := by omega
      have ew : IntKind.i64.wrap ((k : Int) + 1) = (k : Int) + 1 := IntWalk.i64_in _ (by omega)
      have cw : wr.cell? ⟨b, o + k, none⟩ = some (.int .i64 (wAt ws k)) := by rw [hbel.cell (p := ⟨b, o + k, none⟩) (show b < w.heap.size by omega)]; exact HC.out k hlt
      have lb : b < wr.heap.size := by have := hbel.size; omega
      have HE : Hid (c * wAt ws k = c * wAt ws k) := rfl
      have hm := share_bd h h0 h1 k (by have := Hn.out; omega)
      have hp := h.pos
      have e1 : IntKind.i64.wrap (c * wAt ws k) = c * wAt ws k := IntWalk.i64_in _ (by omega)
      have HD := Lib.hid (flo_cut h h0 k (by have := Hn.out; omega))
      have e2 : IntKind.i64.wrap ((c * wAt ws k).tdiv (sumW ws)) = floZ c ws k := by
        rw [Int.tdiv_eq_ediv_of_nonneg hm.1]
        have : floZ c ws k ≤ c * wAt ws k := Int.ediv_le_self _ hm.1
        exact IntWalk.i64_in _ ⟨by have := HD.out.2.2.2; unfold floZ at this; omega, by unfold floZ at this; omega⟩
      have e3 : IntKind.i64.wrap ((c * wAt ws k).tmod (sumW ws)) = cutZ c ws k := by
        rw [Int.tmod_eq_emod_of_nonneg hm.1]
        have := HD.out.2.1
        have := HD.out.2.2.1
        have := h.top
        exact IntWalk.i64_in _ ⟨by unfold cutZ at *; omega, by unfold cutZ at *; omega⟩
      have hz : ¬ sumW ws = 0 := by omega
      have hz2 : (sumW ws == 0) = false := by simpa using hz
      have p0 : wr.cell? ⟨w.heap.size, k, none⟩ = some (.int .i64 (if k < k then floZ c ws k else 0)) := by rw [rP.cell (by rw [fillL_len]; exact hlt)]; exact fillL_at _ _ hlt
      have q0 : wr.cell? ⟨g1, k, none⟩ = some (.int .i64 (if k < k then cutZ c ws k else 0)) := by rw [rC.cell (by rw [fillL_len]; exact hlt)]; exact fillL_at _ _ hlt
      have o0 : wr.cell? ⟨g1 + 2, k, none⟩ = some (.int .i64 (if k < k then (k : Int) else 0)) := by rw [rO.cell (by rw [fillL_len]; exact hlt)]; exact fillL_at _ _ hlt
      have b0 : wr.cell? ⟨g1 + 1, 0, none⟩ = some (.slice (some ⟨g1, 0, none⟩) n n) := rB.cell (j := 0) (by simp)
      have f0 := rP.frozen k
      have f1 := rC.frozen k
      have f2 := rO.frozen k
      have n0 : ¬ w.heap.size = g1 := by omega
      have n1 : ¬ w.heap.size = g1 + 2 := by omega
      have n2 : ¬ g1 = g1 + 2 := by omega
      have n3 : ¬ g1 + 2 = g1 := by omega
      have n4 : ¬ g1 = w.heap.size := by omega
      have n5 : ¬ g1 + 2 = w.heap.size := by omega
      go_upto_region 8 with fail
      go_big_region
      have HP := Lib.hid rP
      have HQ := Lib.hid rC
      have HB2 := Lib.hid rB
      have HO2 := Lib.hid rO
      have Hbe := Lib.hid hbel
      clear p0 q0 o0 b0 f0 f1 f2 rP rC rB rO hbel e1 e2 e3 cw
      go_wp2_with fail
      go_roundw
      case rel =>
        refine ⟨k + 1, by omega, by go_num, ?_, ?_, ?_, ?_, ?_⟩
        · exact (((Hbe.out.setCell (Nat.le_refl _) _).setCell (by show w.heap.size ≤ g1; omega) _).setCell (by show w.heap.size ≤ g1 + 2; omega) _).drew
        · rw [← fillL_set]
          exact (((HP.out.set k _).far n0 _).far n1 _).drew
        · rw [← fillL_set]
          exact (((HQ.out.far n4 _).set k _).far n2 _).drew
        · exact (((HB2.out.far (by show ¬ g1 + 1 = w.heap.size; omega) _).far (by show ¬ g1 + 1 = g1; omega) _).far (by show ¬ g1 + 1 = g1 + 2; omega) _).drew
        · rw [← fillL_set]
          exact (((HO2.out.far n5 _).far n3 _).set k _).drew
      case measure => simp [intOf]; omega
    · have ek : k = n := by omega
      subst ek
      have hs : ∀ i x, i < k → x < i → decide (cutZ c ws x < cutZ c ws i) = befZ c ws i x := fun i x _ hx => by
        unfold befZ
        rw [show decide (i < x) = false from decide_eq_false (by omega), Bool.and_false, Bool.or_false]
      have HS := Lib.hid (sortT_any (cutZ c ws) (befZ c ws) (befZ_tot c ws) k g1 (g1 + 1) (g1 + 2) k l1 l10 hs wr rC rB rO (by omega) (by omega))
      have HP := Lib.hid rP
      have Hbe := Lib.hid hbel
      clear rP rC rB rO hbel hs
      go_upto_region 11 with (go_at_call 68; refine HS.out.mono ?_; rintro e X ⟨rfl, l, ho, hl, hsz, hbk, hbw⟩)
      have g03 : w.heap.size ≠ g1 + 2 := by omega
      have hPX := HP.out.keep (hbk w.heap.size g03 HP.out.lt)
      have hbX := Hbe.out.trans (hbw w.heap.size (by omega) (Nat.le_of_lt HP.out.lt))
      have hkw := Hn.out
      have hPX2 : Row X w.heap.size 3 (partL c ws 0) := by rw [← partL_zero, ← hkw]; exact hPX
      have hlb := lef_bd h h0
      rw [← hkw] at hlb
      obtain ⟨m, hm⟩ : ∃ m : Nat, m = (lefZ c ws).toNat := ⟨_, rfl⟩
      have hml : lefZ c ws = (m : Int) := by omega
      have hmk : m < k := by omega
      have HTT : Hid (Calls Try.prog 47 #[.slice (some ⟨w.heap.size, 0, none⟩) k k] X fun e w' => e = .returned (.int .i64 (sumW (floL c ws))) ∧ X = w') :=
        total_any (floL c ws) (some ⟨w.heap.size, 0, none⟩) k k X.heap.size X (by rw [← floL_cells]; exact hPX2.reads (n := k) (size := 1) (by rw [partL_len, hkw]; omega) hPX2.lt) (by unfold maxLen; omega)
      have ewl : IntKind.i64.wrap (c - sumW (floL c ws)) = (m : Int) := by rw [← hml]; exact floL_sum h h0 h1
      have HX := Lib.hid hPX2
      have HBX := Lib.hid hbX
      have HL := Lib.hid hl
      have HO := Lib.hid ho
      have m0 : ¬ (m : Int) < 0 := by omega
      have m1 : (m : Int) ≤ (k : Int) := by omega
      have HML := Lib.hid hml
      have lO := hsz
      have lg3 : g1 + 2 < X.heap.size := by
        rcases Nat.lt_or_ge (g1 + 2) X.heap.size with hh | hh
        · exact hh
        · have := hl 0 (by omega); simp [World.cell?, Array.getElem?_eq_none hh] at this
      clear hPX hPX2 hbX hl ho hbk hbw hlb hml hm HS hkw
      go_upto_region 12 with (go_at_call 47; with_reducible refine HTT.out.mono ?_; rintro e w' ⟨rfl, rfl⟩)
      go_loopw [62] (fun i wr => ∃ j : Nat, j ≤ m ∧ i = .int .i64 j ∧ RowKit.Below w.heap.size w wr ∧ Row wr w.heap.size 3 (partL c ws j) ∧ (∀ p, p < k → wr.cell? ⟨g1 + 2, p, none⟩ = some (.int .i64 ((l[p]?.getD 0 : Nat) : Int))) ∧ g1 + 2 < wr.heap.size) (fun i _ => m - (intOf i).toNat)
      case atStart => exact ⟨0, Nat.zero_le _, rfl, HBX.out, HX.out, HL.out, lg3⟩
      case round =>
        obtain ⟨j, hj, rfl, hbel, hrow, hcl, hg3⟩ := hrel
        have Hbe2 := Lib.hid hbel
        have HR2 := Lib.hid hrow
        have HL2 := Lib.hid hcl
        clear hbel hrow hcl
        by_cases hjm : j < m
        · have hjk : j < k := by omega
          have hll : j < l.length := by rw [HO.out.len]; exact hjk
          obtain ⟨x, hx⟩ : ∃ x, x = l[j] := ⟨_, rfl⟩
          have hxk : x < k := by rw [hx]; exact HO.out.lt hll
          have hkw := Hn.out
          obtain ⟨hpv, hps⟩ := partL_set c ws (m := j) (x := x) (l := l) (by rw [← hkw]; exact HO.out) hll hx.symm
          have hcj := HL2.out j hjk
          rw [List.getElem?_eq_getElem hll, ← hx] at hcj
          have hcj2 : wr.cell? ⟨g1 + 2, j, none⟩ = some (.int .i64 (x : Int)) := hcj
          have hpx : wr.cell? ⟨w.heap.size, x, none⟩ = some (.int .i64 (floZ c ws x)) := by
            rw [HR2.out.cell (by rw [partL_len, ← hkw]; exact hxk), partL_at _ _ _ (by rw [← hkw]; exact hxk), hpv]
          have hfx := HR2.out.frozen x
          have lP := HR2.out.lt
          have hfl : 0 ≤ floZ c ws x ∧ floZ c ws x ≤ 1000000000000 := by
            have hm := share_bd h h0 h1 x (by omega)
            have h3 := (flo_cut h h0 x (by omega)).2.2.2
            have : floZ c ws x ≤ c * wAt ws x := Int.ediv_le_self _ hm.1
            omega
          have ea : IntKind.i64.wrap (floZ c ws x + 1) = floZ c ws x + 1 := IntWalk.i64_in _ (by omega)
          have ew : IntKind.i64.wrap ((j : Int) + 1) = (j : Int) + 1 := IntWalk.i64_in _ (by omega)
          have j0 : ¬ (j : Int) < 0 := by omega
          have j1 : (j : Int) < (m : Int) := by omega
          have x0 : ¬ (x : Int) < 0 := by omega
          have x1 : (x : Int) < (k : Int) := by omega
          have HPS := Lib.hid hps
          have g03b : ¬ g1 + 2 = w.heap.size := by omega
          clear hps hpv hcj hx hfl hkw
          go_wp2_with fail
          go_roundw
          case rel =>
            refine ⟨j + 1, by omega, by go_num, Hbe2.out.setCell (Nat.le_refl _) _, ?_, fun p hp => ?_, ?_⟩
            · rw [← HPS.out]; exact HR2.out.set x _
            · rw [World.cell?_setCell_other _ _ _ _ (by intro e; simp only [Addr.mk.injEq] at e; omega)]; exact HL2.out p hp
            · simpa using hg3
          case measure => simp [intOf]; omega
        · have e : j = m := by omega
          subst e
          go_wp2_with fail
          go_ret
          refine ⟨w.heap.size, k, rfl, Nat.le_refl _, ?_, Hbe2.out⟩
          have e2 : (splitZ c ws).map (Value.int .i64) = partL c ws j := by
            unfold splitZ partL
            rw [List.map_map, HML.out]
            rfl
          rw [e2]
          exact HR2.out
end Go.Proofs.Ytdechfjlbdbbnaa
