/- Contract of takings' Balances. Conditions: spendings that read as data. -/
import Derived.Test.YtdechfjlbdbbnaaTnh
namespace Go.Proofs.Ytdechfjlbdbbnaa
open Go.RowKit Go.Shelf

theorem balR_eq (n : Int) (l : List SpZ) : balR n l = if inB n 1 10 = false then ([], 1) else if 60 < l.length then ([], 2) else if spsB n l l.length = false then ([], 110) else (spendN n.toNat l l.length, 0) := by
  unfold balR chkS
  by_cases h1 : inB n 1 10 = false
  · simp [h1]
  by_cases h2 : 60 < l.length
  · simp [h1, h2]
  by_cases h3 : spsB n l l.length = false
  · simp [h1, h2, h3]
  · simp [h1, h2, h3]
set_option maxHeartbeats 4000000 in
set_option maxRecDepth 100000 in
theorem Balances_any (n : Int) (l : List SpZ) (A : Option Addr) (ca B : Nat) (rs : List (Option Addr × Nat)) (w : World) (hB : B ≤ w.heap.size) (hl : SpIn w B A rs l) :
    Calls Try.prog 23 #[.int .i64 n, .slice A l.length ca] w (TkTo w (balR n l).1 (balR n l).2) := by
  have HV : Hid (balR n l = if inB n 1 10 = false then ([], 1) else if 60 < l.length then ([], 2) else if spsB n l l.length = false then ([], 110) else (spendN n.toNat l l.length, 0)) := balR_eq n l
  have HIn := Lib.hid hl
  have hlm := hl.len
  unfold maxLen at hlm
  obtain ⟨W, hW⟩ : ∃ W, W = w.alloc (.cells #[.int .i64 n] 3) := ⟨_, rfl⟩
  have HB : Hid (Below w.heap.size w W) := by show Below _ _ _; subst hW; exact (Below.refl _ _).alloc (Nat.le_refl _) _
  have H1 : Hid (∀ k, Calls Try.prog 49 #[.int .i64 1, .int .i64 10, .slice (some ⟨w.heap.size, 0, none⟩) 1 k] (w.alloc (.cells #[.int .i64 n] 3)) fun e w' => e = .returned (.bool (inB n 1 10)) ∧ w' = W) := fun k => by
    rw [hW]
    exact (tall_new w k n 1 10).mono fun e w' h => ⟨h.1, h.2.symm⟩
  clear hl hW
  generalize balR n l = R at HV ⊢
  by_cases h1 : inB n 1 10 = false
  · rw [if_pos h1] at HV
    rw [HV.out]
    rw [h1] at H1
    clear h1
    go_enter Try.func23, Try.ntmps23
    go_wp2_with (go_at_call 49; refine (H1.out _).mono ?_; rintro e w' ⟨rfl, rfl⟩)
    go_ret2
    exact ⟨none, 0, rfl, Reads.none_, HB.out⟩
  have h1t : inB n 1 10 = true := by simpa using h1
  have hnb := inB_le h1t
  obtain ⟨m, rfl⟩ : ∃ m : Nat, n = (m : Int) := ⟨n.toNat, by omega⟩
  have hm : m ≤ 10 := by omega
  rw [if_neg h1, show (m : Int).toNat = m by omega] at HV
  rw [h1t] at H1
  clear h1 h1t hnb
  by_cases h60 : 60 < l.length
  · rw [if_pos h60] at HV
    rw [HV.out]
    have hz : (60 : Int) < (l.length : Int) := by omega
    go_enter Try.func23, Try.ntmps23
    go_wp2_with (go_at_call 49; refine (H1.out _).mono ?_; rintro e w' ⟨rfl, rfl⟩)
    go_ret2
    exact ⟨none, 0, rfl, Reads.none_, HB.out⟩
  have hz : ¬ (60 : Int) < (l.length : Int) := by omega
  rw [if_neg h60] at HV
  go_enter Try.func23, Try.ntmps23
  go_upto_region 5 with (go_at_call 49; refine (H1.out _).mono ?_; rintro e w' ⟨rfl, rfl⟩)
  clear H1
  go_wp2_with fail
  go_loopw [17] (fun i wr => ∃ k : Nat, k ≤ l.length ∧ i = .int .i64 k ∧ Below w.heap.size w wr ∧ spsB m l k = true) (fun i _ => l.length - (intOf i).toNat)
  case atStart => exact ⟨0, Nat.zero_le _, rfl, HB.out, rfl⟩
  case round =>
    obtain ⟨k, hk, rfl, hbel, hall⟩ := hrel
    have Hall := Lib.hid hall
    by_cases hlt : k < l.length
    · have HK := Lib.hid hlt
      have hlt' : (k : Int) < (l.length : Int) := by omega
      have i0 : ¬ (k : Int) < 0 := by omega
      have ew : IntKind.i64.wrap ((k : Int) + 1) = (k : Int) + 1 := IntWalk.i64_in _ (by omega)
      obtain ⟨b, o, rfl, hb, hcs⟩ := HIn.out.outer (by omega)
      obtain ⟨p0, p1, p2⟩ := hcs k hlt
      have hin := HIn.out.inner k hlt
      have hll := HIn.out.lens k hlt
      have lb : b < w.heap.size := by omega
      have HN : Hid (spsB m l (k + 1) = (spsB m l k && spB m (spAt l k))) := rfl
      have Hno : Hid (spB m (spAt l k) = false → spsB m l l.length = false) := fun h => spsB_out HK.out h
      generalize spAt l k = s at p0 p1 p2 hin hll HN Hno
      generalize rs.getD k default = q at p2 hin
      have c0 : wr.cell? ⟨b, o + k * 3, none⟩ = some (.int .i64 s.by_) := by rw [hbel.cell (p := ⟨b, o + k * 3, none⟩) lb]; exact p0
      have c1 : wr.cell? ⟨b, o + k * 3 + 1, none⟩ = some (.int .i64 s.cents) := by rw [hbel.cell (p := ⟨b, o + k * 3 + 1, none⟩) lb]; exact p1
      have c2' : wr.cell? ⟨b, o + k * 3 + 2, none⟩ = some (.slice q.1 s.fr.length q.2) := by rw [hbel.cell (p := ⟨b, o + k * 3 + 2, none⟩) lb]; exact p2
      have lb' : b < wr.heap.size := Nat.lt_of_lt_of_le lb hbel.size
      obtain ⟨Y, hY⟩ : ∃ Y, Y = wr.alloc (.cells #[.int .i64 s.by_, .int .i64 s.cents, .slice q.1 s.fr.length q.2] 54) := ⟨_, rfl⟩
      have bY : Below w.heap.size w Y := by rw [hY]; exact hbel.alloc hbel.size _
      have rY : Row Y wr.heap.size 54 [.int .i64 s.by_, .int .i64 s.cents, .slice q.1 s.fr.length q.2] := by rw [hY]; exact Row.new wr _ _
      have y0 : Y.cell? ⟨wr.heap.size, 0, none⟩ = some (.int .i64 s.by_) := rY.cell (j := 0) (by simp)
      have y1 : Y.cell? ⟨wr.heap.size, 1, none⟩ = some (.int .i64 s.cents) := rY.cell (j := 1) (by simp)
      have y2 : Y.cell? ⟨wr.heap.size, 2, none⟩ = some (.slice q.1 s.fr.length q.2) := rY.cell (j := 2) (by simp)
      have lY := rY.lt
      have HP := Lib.hid (validSpent_any m hm s q B Y (Nat.le_trans hB bY.size) (hin.below (bY.mono hB)) hll)
      unfold spA at HP
      have HBY := Lib.hid bY
      clear hcs p0 p1 p2 hin hll rY bY hbel hall hlt
      cases hpb : spB m s with
      | false =>
        have HR : Hid (R = ([], 110)) := by show _ = _; rw [HV.out, if_pos (Hno.out hpb)]
        rw [hpb] at HP
        clear hpb Hno HN
        go_upto_region 8 with fail
        rw [← hY]
        clear hY c0 c1 c2' lb'
        go_wp2_with (go_at_call 50; refine HP.out.mono ?_; rintro e Z ⟨rfl, hZ⟩; have HZ := Lib.hid (HBY.out.trans (hZ.mono HBY.out.size)); clear hZ HP)
        go_ret2
        rw [HR.out]
        exact ⟨none, 0, rfl, Reads.none_, HZ.out⟩
      | true =>
        rw [hpb] at HP HN
        clear hpb Hno
        go_upto_region 8 with fail
        rw [← hY]
        clear hY c0 c1 c2' lb'
        go_wp2_with (go_at_call 50; refine HP.out.mono ?_; rintro e Z ⟨rfl, hZ⟩; have HZ := Lib.hid (HBY.out.trans (hZ.mono HBY.out.size)); clear hZ HP)
        go_roundw
        case rel => exact ⟨k + 1, by omega, by go_num, HZ.out, by rw [HN.out, Hall.out]; rfl⟩
        case measure => simp [intOf]; omega
    · have ek : k = l.length := by omega
      have hge : ¬ (k : Int) < (l.length : Int) := by omega
      have hpa : spsB m l l.length = true := by rw [← ek]; exact hall
      rw [if_neg (by rw [hpa]; simp)] at HV
      have HSp := Lib.hid (spend_any m hm l (by omega) (fun k hk => spB_ok (spsB_at hpa hk)) A ca B rs wr (Nat.le_trans hB hbel.size) (HIn.out.below (hbel.mono hB)))
      have HBe := Lib.hid hbel
      have HLn := Lib.hid (spendN_len m l l.length)
      clear hpa hbel hall ek
      go_wp2_with (go_at_call 51; refine HSp.out.mono ?_; rintro e Z ⟨g, c', rfl, hg, hrow, hZ⟩; have HZ := Lib.hid (HBe.out.trans (hZ.mono HBe.out.size)); have HRW := Lib.hid hrow; clear hZ hrow HSp)
      go_ret2
      rw [HV.out]
      exact ⟨some ⟨g, 0, none⟩, c', by simp only [HLn.out]; rfl, by simp only [HLn.out]; exact HRW.out.reads (by simp [HLn.out]) HRW.out.lt, HZ.out⟩
end Go.Proofs.Ytdechfjlbdbbnaa
