/- Contracts of takings' Split, the law's sameInts at equal lists, and its works. Conditions: weights that read as data. -/
import Derived.Test.YtdechfjlbdbbnaaTkk
import Derived.Test.YtdechfjlbdbbnaaTkh
namespace Go.Proofs.Ytdechfjlbdbbnaa
open Go.RowKit Go.Shelf

set_option maxHeartbeats 1000000 in
theorem tsame_eq (xs : List Int) (A A' : Option Addr) (c c' B B' : Nat) (w : World) (hr : Reads w B 1 A xs.length (xs.map (Value.int .i64))) (hs : Reads w B' 1 A' xs.length (xs.map (Value.int .i64))) (hB : B ≤ w.heap.size) (hB' : B' ≤ w.heap.size) (hm : xs.length ≤ 1000) :
    Calls Try.prog 17 #[.slice A xs.length c, .slice A' xs.length c'] w fun e w' => e = .returned (.bool true) ∧ Below w.heap.size w w' := by
  have HR := Lib.hid hr
  have HS := Lib.hid hs
  clear hr hs
  go_enter Try.func17, Try.ntmps17
  go_wp2_with fail
  go_loopw [5] (fun i wr => ∃ k : Nat, k ≤ xs.length ∧ i = .int .i64 k ∧ Below w.heap.size w wr) (fun i _ => xs.length - (intOf i).toNat)
  case atStart => exact ⟨0, Nat.zero_le _, rfl, Below.refl _ _⟩
  case round =>
    obtain ⟨k, hk, rfl, hbel⟩ := hrel
    have HB := Lib.hid hbel
    by_cases hlt : k < xs.length
    · have hlt' : (k : Int) < (xs.length : Int) := by omega
      obtain ⟨b, o, rfl, hb, hc⟩ := HR.out.2 (by omega)
      obtain ⟨b', o', rfl, hb', hc'⟩ := HS.out.2 (by omega)
      have hx : (xs.map (Value.int .i64))[k]? = some (.int .i64 xs[k]) := by rw [List.getElem?_map, List.getElem?_eq_getElem hlt]; rfl
      have hb1 : b < w.heap.size := by omega
      have hb1' : b' < w.heap.size := by omega
      have q1 := (hbel.cell (p := ⟨b, o + k, none⟩) hb1).trans (hc k _ hx)
      have q2 := (hbel.cell (p := ⟨b', o' + k, none⟩) hb1').trans (hc' k _ hx)
      have l1 : b < wr.heap.size := Nat.lt_of_lt_of_le hb1 hbel.size
      have l2 : b' < wr.heap.size := Nat.lt_of_lt_of_le hb1' hbel.size
      have e1 : IntKind.i64.wrap ((k : Int) + 1) = (k : Int) + 1 := IntWalk.i64_in _ (by omega)
      generalize xs[k] = x at q1 q2
      clear hc hc' hx hbel
      go_upto_region 6 with fail
      go_quiet (fail)
      go_wp2_with fail
      go_roundw
      case rel => exact ⟨k + 1, by omega, by go_num, below_drewN HB.out _⟩
      case measure => simp [intOf]; omega
    · have hge : ¬ (k : Int) < (xs.length : Int) := by omega
      go_wp2_with fail
      go_ret
      exact ⟨rfl, HB.out⟩
/-- A list in memory of the call's own, and an error. -/
def TkTo (w : World) (L : List Int) (e0 : Int) (e : Ending) (w' : World) : Prop :=
  ∃ A' c', e = .returned (.tuple #[.slice A' L.length c', .int .i64 e0]) ∧ Reads w' w'.heap.size 1 A' L.length (L.map (Value.int .i64)) ∧ Below w.heap.size w w'
/-- What Split returns. -/
def splR (c : Int) (ws : List Int) : List Int × Int := if inB c 0 1000000000 = false then ([], 1) else if wOk ws = false then ([], 110) else (splitZ c ws, 0)
theorem wOk_of {ws : List Int} (h : wOk ws = true) : WOk ws := by
  unfold wOk at h
  simp only [Bool.and_eq_true, decide_eq_true_eq] at h
  exact wOk_ok h.1.1 h.1.2 h.2
theorem splitZ_len (c : Int) (ws : List Int) : (splitZ c ws).length = ws.length := by simp [splitZ]
set_option maxHeartbeats 1000000 in
set_option maxRecDepth 100000 in
theorem Split_any (c : Int) (ws : List Int) (A : Option Addr) (ca B : Nat) (w : World) (hB : B ≤ w.heap.size) (hr : Reads w B 1 A ws.length (ws.map (Value.int .i64))) (hm : ws.length ≤ maxLen) :
    Calls Try.prog 15 #[.int .i64 c, .slice A ws.length ca] w (TkTo w (splR c ws).1 (splR c ws).2) := by
  obtain ⟨W, hW⟩ : ∃ W, W = w.alloc (.cells #[.int .i64 c] 3) := ⟨_, rfl⟩
  have bW : Below w.heap.size w W := by subst hW; exact (Below.refl _ _).alloc (Nat.le_refl _) _
  have H1 : Hid (∀ k, Calls Try.prog 38 #[.slice (some ⟨w.heap.size, 0, none⟩) 1 k] (w.alloc (.cells #[.int .i64 c] 3)) fun e w' => e = .returned (.bool (inB c 0 1000000000)) ∧ w' = W) := fun k => by
    rw [hW]
    exact (am_new w k c).mono fun e w' h => ⟨h.1, h.2.symm⟩
  have H2 := Lib.hid (validWeights_any ws A ca B W (Nat.le_trans hB bW.size) (hr.below (bW.mono hB)) hm)
  have H3 : Hid (WOk ws → 0 ≤ c → c ≤ 1000000000 → ∀ X, Below w.heap.size w X → Calls Try.prog 40 #[.int .i64 c, .slice A ws.length ca] X fun e w' => ∃ g ca', e = .returned (.slice (some ⟨g, 0, none⟩) ws.length ca') ∧ X.heap.size ≤ g ∧ Row w' g 3 ((splitZ c ws).map (Value.int .i64)) ∧ Below X.heap.size X w') :=
    fun h h0 h1 X hX => split_any c ws h h0 h1 A ca B X (Nat.le_trans hB hX.size) (hr.below (hX.mono hB))
  have HB := Lib.hid bW
  have HV : Hid (splR c ws = if inB c 0 1000000000 = false then ([], 1) else if wOk ws = false then ([], 110) else (splitZ c ws, 0)) := rfl
  clear hr hW bW hm
  cases h1 : inB c 0 1000000000 with
  | false =>
    rw [h1] at H1 HV
    rw [show splR c ws = ([], 1) from HV.out]
    go_enter Try.func15, Try.ntmps15
    go_wp2_with (go_at_call 38; refine (H1.out _).mono ?_; rintro e w' ⟨rfl, rfl⟩)
    go_ret2
    exact ⟨none, 0, rfl, Reads.none_, HB.out⟩
  | true =>
    rw [h1] at H1 HV
    cases h2 : wOk ws with
    | false =>
      rw [h2] at H2 HV
      rw [show splR c ws = ([], 110) from HV.out]
      go_enter Try.func15, Try.ntmps15
      go_wp2_with (first | (go_at_call 38; refine (H1.out _).mono ?_; rintro e w' ⟨rfl, rfl⟩) | (go_at_call 39; refine H2.out.mono ?_; rintro e X ⟨rfl, hX⟩; have HX := Lib.hid (HB.out.trans (hX.mono HB.out.size)); clear hX H2))
      go_ret2
      exact ⟨none, 0, rfl, Reads.none_, HX.out⟩
    | true =>
      rw [h2] at H2 HV
      have hc := inB_le h1
      have H4 := Lib.hid (H3.out (wOk_of h2) hc.1 hc.2)
      rw [show splR c ws = (splitZ c ws, 0) from HV.out]
      clear H3 h1 h2 hc HV
      go_enter Try.func15, Try.ntmps15
      go_wp2_with (first | (go_at_call 38; refine (H1.out _).mono ?_; rintro e w' ⟨rfl, rfl⟩) | (go_at_call 39; refine H2.out.mono ?_; rintro e X ⟨rfl, hX⟩; have HX := Lib.hid (HB.out.trans (hX.mono HB.out.size)); clear hX H2) | (go_at_call 40; refine (H4.out _ HX.out).mono ?_; rintro e Y ⟨g, ca', rfl, hg, hrow, hY⟩; have HY := Lib.hid (HX.out.trans (hY.mono HX.out.size)); have HRW := Lib.hid hrow; clear hY H4 hrow))
      go_ret2
      exact ⟨some ⟨g, 0, none⟩, ca', by simp only [splitZ_len]; rfl, HRW.out.reads (by simp) HRW.out.lt, HY.out⟩
theorem ex_split : splR 100 [1, 1, 1] = ([34, 33, 33], 0) := by decide +kernel
set_option maxHeartbeats 1000000 in
set_option maxRecDepth 100000 in
theorem works_any (w : World) : Calls Try.prog 20 #[] w fun e w' => e = .returned (.bool true) ∧ Below w.heap.size w w' := by
  have HS : Hid (∀ k, Calls Try.prog 15 #[.int .i64 100, .slice (some ⟨w.heap.size, 0, none⟩) 3 k] (w.alloc (.cells #[.int .i64 1, .int .i64 1, .int .i64 1] 3)) fun e X => ∃ A c, e = .returned (.tuple #[.slice A 3 c, .int .i64 0]) ∧ Reads X X.heap.size 1 A 3 [.int .i64 34, .int .i64 33, .int .i64 33] ∧ Below w.heap.size w X) := fun k => by
    obtain ⟨W, hW⟩ : ∃ W, W = w.alloc (.cells #[.int .i64 1, .int .i64 1, .int .i64 1] 3) := ⟨_, rfl⟩
    have bW : Below w.heap.size w W := by rw [hW]; exact (Below.refl _ _).alloc (Nat.le_refl _) _
    have rW : Row W w.heap.size 3 [.int .i64 1, .int .i64 1, .int .i64 1] := by rw [hW]; exact Row.new w _ _
    rw [← hW]
    have h := Split_any 100 [1, 1, 1] (some ⟨w.heap.size, 0, none⟩) k W.heap.size W (Nat.le_refl _) (rW.reads (n := 3) (size := 1) rfl rW.lt) (by decide)
    rw [ex_split] at h
    refine h.mono ?_
    rintro e X ⟨A, c, rfl, hr, hX⟩
    exact ⟨A, c, rfl, hr, bW.trans (hX.mono bW.size)⟩
  have HN : Hid (∀ (X : World) (k : Nat), Calls Try.prog 33 #[.int .i64 2500, .slice (some ⟨X.heap.size, 0, none⟩) 2 k] (X.alloc (.cells #[.int .i64 0, .int .i64 10, .int .i64 1000, .int .i64 20] 63)) fun e Y => e = .returned (.tuple #[.int .i64 2999, .int .i64 0]) ∧ Below X.heap.size X Y) := fun X k => by
    obtain ⟨W, hW⟩ : ∃ W, W = X.alloc (.cells #[.int .i64 0, .int .i64 10, .int .i64 1000, .int .i64 20] 63) := ⟨_, rfl⟩
    have bW : Below X.heap.size X W := by rw [hW]; exact (Below.refl _ _).alloc (Nat.le_refl _) _
    have rW : Row W X.heap.size 63 [.int .i64 0, .int .i64 10, .int .i64 1000, .int .i64 20] := by rw [hW]; exact Row.new X _ _
    rw [← hW]
    have h := Net_any exBr (some ⟨X.heap.size, 0, none⟩) k W.heap.size 2500 W (Nat.le_refl _) (rW.reads (n := 2) (size := 2) rfl rW.lt) (by decide)
    refine h.mono ?_
    rintro e Y ⟨n, e', rfl, hr, hY⟩
    obtain ⟨rfl, rfl⟩ := ex_net hr
    exact ⟨rfl, bW.trans (hY.mono bW.size)⟩
  have HQ : Hid (∀ (X : World) (A : Option Addr) (c k : Nat), Reads X X.heap.size 1 A 3 [.int .i64 34, .int .i64 33, .int .i64 33] → Calls Try.prog 17 #[.slice A 3 c, .slice (some ⟨X.heap.size, 0, none⟩) 3 k] (X.alloc (.cells #[.int .i64 34, .int .i64 33, .int .i64 33] 3)) fun e Y => e = .returned (.bool true) ∧ Below X.heap.size X Y) := fun X A c k hr => by
    obtain ⟨W, hW⟩ : ∃ W, W = X.alloc (.cells #[.int .i64 34, .int .i64 33, .int .i64 33] 3) := ⟨_, rfl⟩
    have bW : Below X.heap.size X W := by rw [hW]; exact (Below.refl _ _).alloc (Nat.le_refl _) _
    have rW : Row W X.heap.size 3 [.int .i64 34, .int .i64 33, .int .i64 33] := by rw [hW]; exact Row.new X _ _
    rw [← hW]
    have h := tsame_eq [34, 33, 33] A (some ⟨X.heap.size, 0, none⟩) c k X.heap.size W.heap.size W (hr.below bW) (rW.reads (n := 3) (size := 1) rfl rW.lt) bW.size (Nat.le_refl _) (by decide)
    refine h.mono ?_
    rintro e Y ⟨rfl, hY⟩
    exact ⟨rfl, bW.trans (hY.mono bW.size)⟩
  go_enter Try.func20, Try.ntmps20
  go_upto_region 2 with (go_at_call 15; with_reducible refine (HS.out _).mono ?_; rintro e X ⟨A, ca, rfl, hr, hX⟩)
  have HX := Lib.hid hX
  have HR := Lib.hid hr
  clear hr hX HS
  go_upto_region 3 with (go_at_call 33; with_reducible refine (HN.out _ _).mono ?_; rintro e Y ⟨rfl, hY⟩)
  have HY := Lib.hid (HX.out.trans (hY.mono HX.out.size))
  have HR2 := Lib.hid ((HR.out.below hY).more hY.size)
  clear hY HN
  go_wp2_with (go_at_call 17; with_reducible refine (HQ.out _ _ _ _ HR2.out).mono ?_; rintro e Z ⟨rfl, hZ⟩; have HZ := Lib.hid (HY.out.trans (hZ.mono HY.out.size)); clear hZ HQ)
  go_ret
  exact ⟨rfl, HZ.out⟩
end Go.Proofs.Ytdechfjlbdbbnaa
