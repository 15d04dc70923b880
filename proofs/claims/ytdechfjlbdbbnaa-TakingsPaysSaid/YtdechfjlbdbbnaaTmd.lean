/- Contract of takings' Pay. Conditions: numbers and payments that read as data. -/
import Derived.Test.YtdechfjlbdbbnaaTmc
namespace Go.Proofs.Ytdechfjlbdbbnaa
open Go.RowKit Go.Shelf

set_option maxHeartbeats 4000000 in
set_option maxRecDepth 100000 in
theorem Pay_any (b : List Int) (l : List PyZ) (A A2 : Option Addr) (ca c2 B : Nat) (w : World) (hB : B ≤ w.heap.size) (hr : Reads w B 1 A b.length (b.map (Value.int .i64))) (hm : b.length ≤ maxLen) (hr2 : Reads w B 3 A2 l.length (pyCells l)) (hm2 : l.length ≤ maxLen) :
    Calls Try.prog 25 #[.slice A b.length ca, .slice A2 l.length c2] w (TkTo w (payR b l).1 (payR b l).2) := by
  have HV : Hid (payR b l = if balB b = false then ([], 1) else if 60 < l.length then ([], 2) else if pysB b.length l l.length = false then ([], 110) else (payN b l l.length, 0)) := rfl
  have H1 := Lib.hid (validBalances_any b A ca B w hB hr hm)
  have hrd := Lib.hid hr
  have hrd2 := Lib.hid hr2
  unfold maxLen at hm hm2
  clear hr hr2
  by_cases h1 : balB b = false
  · rw [show payR b l = ([], 1) by rw [HV.out, if_pos h1]]
    rw [h1] at H1
    go_enter Try.func25, Try.ntmps25
    go_wp2_with (go_at_call 53; refine H1.out.mono ?_; rintro e X ⟨rfl, hX⟩; have HX := Lib.hid hX; clear hX H1)
    go_ret2
    exact ⟨none, 0, rfl, Reads.none_, HX.out⟩
  have hb : balB b = true := by simpa using h1
  have hbb := hb
  unfold balB at hbb
  simp only [Bool.and_eq_true] at hbb
  have h10 : 1 ≤ b.length ∧ b.length ≤ 10 := by have := hbb.1; unfold inB at this; simp at this; omega
  have HBa := Lib.hid (fun i hi => allB_at (i := i) hbb.2 hi)
  rw [hb] at H1
  rw [if_neg h1] at HV
  clear hb hbb h1
  by_cases h60 : 60 < l.length
  · rw [show payR b l = ([], 2) by rw [HV.out, if_pos h60]]
    have hz : (60 : Int) < (l.length : Int) := by omega
    go_enter Try.func25, Try.ntmps25
    go_wp2_with (go_at_call 53; refine H1.out.mono ?_; rintro e X ⟨rfl, hX⟩; have HX := Lib.hid hX; clear hX H1)
    go_ret2
    exact ⟨none, 0, rfl, Reads.none_, HX.out⟩
  have hz : ¬ (60 : Int) < (l.length : Int) := by omega
  rw [if_neg h60] at HV
  generalize payR b l = R at HV ⊢
  go_enter Try.func25, Try.ntmps25
  go_upto_region 5 with (go_at_call 53; refine H1.out.mono ?_; rintro e X ⟨rfl, hX⟩; have HX := Lib.hid hX; clear hX H1)
  go_wp2_with fail
  go_loopw [16] (fun i wr => ∃ k : Nat, k ≤ l.length ∧ i = .int .i64 k ∧ Below w.heap.size w wr ∧ pysB b.length l k = true) (fun i _ => l.length - (intOf i).toNat)
  case atStart => exact ⟨0, Nat.zero_le _, rfl, HX.out, rfl⟩
  case round =>
    obtain ⟨k, hk, rfl, hbel, hall⟩ := hrel
    have Hall := Lib.hid hall
    by_cases hlt : k < l.length
    · have HK := Lib.hid hlt
      have hlt' : (k : Int) < (l.length : Int) := by omega
      have i0 : ¬ (k : Int) < 0 := by omega
      have ew : IntKind.i64.wrap ((k : Int) + 1) = (k : Int) + 1 := IntWalk.i64_in _ (by omega)
      obtain ⟨o2, oo, rfl, hbB, hpc⟩ := py_at hrd2.out (by omega)
      obtain ⟨p0, p1, p2⟩ := hpc k hlt
      have lb : o2 < w.heap.size := by omega
      have HN : Hid (pysB b.length l (k + 1) = (pysB b.length l k && pyB b.length (pyAt l k))) := rfl
      have Hno : Hid (pyB b.length (pyAt l k) = false → pysB b.length l l.length = false) := fun h => pysB_out h _ HK.out
      generalize pyAt l k = p at p0 p1 p2 HN Hno
      have c0 : wr.cell? ⟨o2, oo + k * 3, none⟩ = some (.int .i64 p.frm) := by rw [hbel.cell (p := ⟨o2, oo + k * 3, none⟩) lb]; exact p0
      have c1 : wr.cell? ⟨o2, oo + k * 3 + 1, none⟩ = some (.int .i64 p.dst) := by rw [hbel.cell (p := ⟨o2, oo + k * 3 + 1, none⟩) lb]; exact p1
      have c2' : wr.cell? ⟨o2, oo + k * 3 + 2, none⟩ = some (.int .i64 p.cents) := by rw [hbel.cell (p := ⟨o2, oo + k * 3 + 2, none⟩) lb]; exact p2
      have lb' : o2 < wr.heap.size := Nat.lt_of_lt_of_le lb hbel.size
      obtain ⟨Y, hY⟩ : ∃ Y, Y = wr.alloc (.cells #[.int .i64 p.frm, .int .i64 p.dst, .int .i64 p.cents] 72) := ⟨_, rfl⟩
      have bY : Below w.heap.size w Y := by rw [hY]; exact hbel.alloc hbel.size _
      have rY : Row Y wr.heap.size 72 [.int .i64 p.frm, .int .i64 p.dst, .int .i64 p.cents] := by rw [hY]; exact Row.new wr _ _
      have y0 : Y.cell? ⟨wr.heap.size, 0, none⟩ = some (.int .i64 p.frm) := rY.cell (j := 0) (by simp)
      have y1 : Y.cell? ⟨wr.heap.size, 1, none⟩ = some (.int .i64 p.dst) := rY.cell (j := 1) (by simp)
      have y2 : Y.cell? ⟨wr.heap.size, 2, none⟩ = some (.int .i64 p.cents) := rY.cell (j := 2) (by simp)
      have lY := rY.lt
      have HP := Lib.hid (validPayment_any b.length h10.2 p Y)
      unfold pyV at HP
      have HBY := Lib.hid bY
      clear hpc p0 p1 p2 rY bY hbel hall hlt
      cases hpb : pyB b.length p with
      | false =>
        have HR : Hid (R = ([], 110)) := by show _ = _; rw [HV.out, if_pos (Hno.out hpb)]
        rw [hpb] at HP
        clear hpb Hno HN
        go_upto_region 8 with fail
        rw [← hY]
        clear hY c0 c1 c2' lb'
        go_wp2_with (go_at_call 54; refine HP.out.mono ?_; rintro e Z ⟨rfl, hZ⟩; have HZ := Lib.hid (HBY.out.trans (hZ.mono HBY.out.size)); clear hZ HP)
        go_ret2
        rw [HR.out]
        exact ⟨none, 0, rfl, Reads.none_, HZ.out⟩
      | true =>
        rw [hpb] at HP HN
        clear hpb Hno
        go_upto_region 8 with fail
        rw [← hY]
        clear hY c0 c1 c2' lb'
        go_wp2_with (go_at_call 54; refine HP.out.mono ?_; rintro e Z ⟨rfl, hZ⟩; have HZ := Lib.hid (HBY.out.trans (hZ.mono HBY.out.size)); clear hZ HP)
        go_roundw
        case rel => exact ⟨k + 1, by omega, by go_num, HZ.out, by rw [HN.out, Hall.out]; rfl⟩
        case measure => simp [intOf]; omega
    · have ek : k = l.length := by omega
      have hge : ¬ (k : Int) < (l.length : Int) := by omega
      have hpa : pysB b.length l l.length = true := by rw [← ek]; exact hall
      rw [if_neg (by rw [hpa]; simp)] at HV
      have HBh := Lib.hid (behind_any b l h10.1 h10.2 (by omega) HBa.out (fun k hk => pyB_ok (pysB_at hpa k hk)) A A2 ca c2 B wr (Nat.le_trans hB hbel.size) (hrd.out.below (hbel.mono hB)) (hrd2.out.below (hbel.mono hB)))
      have HBe := Lib.hid hbel
      have hln := payN_len b l l.length
      have HLn := Lib.hid hln
      clear hpa hbel hall ek hln
      go_wp2_with (go_at_call 55; refine HBh.out.mono ?_; rintro e Z ⟨g, c', rfl, hg, hrow, hZ⟩; have HZ := Lib.hid (HBe.out.trans (hZ.mono HBe.out.size)); have HRW := Lib.hid hrow; clear hZ hrow HBh)
      go_ret2
      rw [HV.out]
      exact ⟨some ⟨g, 0, none⟩, c', by simp only [HLn.out]; rfl, by simp only [HLn.out]; exact HRW.out.reads (by simp [HLn.out]) HRW.out.lt, HZ.out⟩
end Go.Proofs.Ytdechfjlbdbbnaa
