/- Contract of the specification's Balances. Conditions: spendings that read as data. -/
import Derived.Test.YtdechfjlbdbbnaaTnj
namespace Go.Proofs.Ytdechfjlbdbbnaa
open Go.RowKit Go.Shelf

set_option maxHeartbeats 8000000 in
set_option maxRecDepth 100000 in
theorem rBalances_any (n : Int) (l : List SpZ) (A : Option Addr) (ca B : Nat) (rs : List (Option Addr × Nat)) (w0 : World) (hB : B ≤ w0.heap.size) (hl : SpIn w0 B A rs l) :
    Calls Try.prog 24 #[.int .i64 n, .slice A l.length ca] w0 (TkTo w0 (balR n l).1 (balR n l).2) := by
  have HV : Hid (balR n l = if chkS n l = 0 then (spendN n.toNat l l.length, 0) else ([], chkS n l)) := rfl
  have HC := Lib.hid (rCheckSpent_any n l A ca B rs w0 hB hl)
  have HIn0 := Lib.hid hl
  have hlm := hl.len
  unfold maxLen at hlm
  clear hl
  generalize balR n l = R at HV ⊢
  by_cases hn0 : ¬ chkS n l = 0
  · rw [if_neg hn0] at HV
    rw [HV.out]
    generalize chkS n l = e0 at HC hn0
    go_enter Try.func24, Try.ntmps24
    go_wp2_with (go_at_call 52; refine HC.out.mono ?_; rintro e X ⟨rfl, hX⟩; have HX := Lib.hid hX; clear hX HC)
    go_ret2
    exact ⟨none, 0, rfl, Reads.none_, HX.out⟩
  have hc0 : chkS n l = 0 := by omega
  clear hn0
  obtain ⟨m, rfl, hm1, hm, h60, ho⟩ := chkS_ok hc0
  rw [if_pos hc0, show (m : Int).toNat = m by omega] at HV
  rw [HV.out]
  rw [hc0] at HC
  have HO := Lib.hid ho
  have HBd := Lib.hid (spendN_bd hm (N := l.length) ho)
  clear hc0 ho HV
  go_enter Try.func24, Try.ntmps24
  go_upto_region 2 with (go_at_call 52; refine HC.out.mono ?_; rintro e w ⟨rfl, hX⟩)
  have HX := Lib.hid hX
  have HIn := Lib.hid (HIn0.out.below (hX.mono hB))
  have hB2 : B ≤ w.heap.size := Nat.le_trans hB hX.size
  clear hX HC HIn0
  obtain ⟨M0, hM0, hmk0⟩ := run_mkT m (by omega) w
  obtain ⟨W1, hW1⟩ : ∃ W, W = w.alloc (.cells M0 3) := ⟨_, rfl⟩
  have HR1 : Hid (Row W1 w.heap.size 3 ((spendN m l 0).map (Value.int .i64))) := by
    show Row _ _ _ _
    rw [show spendN m l 0 = List.replicate m 0 from rfl, spend_zero, ← hM0, hW1]; exact Row.new w _ M0
  have HW1 : Hid (Below w.heap.size w W1) := by show Below _ _ _; rw [hW1]; exact (Below.refl _ _).alloc (Nat.le_refl _) _
  clear hM0
  go_upto_region 5 with fail
  rw [← hW1]
  clear hmk0 hW1
  go_wp2_with fail
  go_loopw [8] (fun i wr => ∃ k : Nat, k ≤ l.length ∧ i = .int .i64 k ∧ Below w.heap.size w wr ∧ Row wr w.heap.size 3 ((spendN m l k).map (Value.int .i64))) (fun i _ => l.length - (intOf i).toNat)
  case atStart => exact ⟨0, Nat.zero_le _, rfl, HW1.out, HR1.out⟩
  case round =>
    obtain ⟨k, hk, rfl, hbel, hrow⟩ := hrel
    by_cases hlt : k < l.length
    · have hlt' : (k : Int) < (l.length : Int) := by omega
      have i0 : ¬ (k : Int) < 0 := by omega
      have ew : IntKind.i64.wrap ((k : Int) + 1) = (k : Int) + 1 := IntWalk.i64_in _ (by omega)
      obtain ⟨b, o, rfl, hb, hcs⟩ := HIn.out.outer (by omega)
      obtain ⟨p0, p1, p2⟩ := hcs k hlt
      have hin := HIn.out.inner k hlt
      have lb : b < w.heap.size := by omega
      have hok := HO.out k hlt
      have hbd := HBd.out k hk
      have HN : Hid (spendN m l (k + 1) = spS (spendN m l k) (spAt l k)) := rfl
      have hln := spendN_len m l k
      generalize spAt l k = s at p0 p1 p2 hin hok HN
      generalize rs.getD k default = q at p2 hin
      generalize spendN m l k = L at hrow hbd hln HN
      obtain ⟨A3, c3⟩ := q
      obtain ⟨f, c, fr⟩ := s
      obtain ⟨F, hF, hFm⟩ := hok.f
      have hc := hok.c
      have h1 := hok.l1
      have h10 := hok.l10
      have hsn := spN_bd hok hln hbd
      dsimp only at p0 p1 p2 hin hF hc h1 h10 hsn
      subst hF
      have c0 : wr.cell? ⟨b, o + k * 3, none⟩ = some (.int .i64 (F : Int)) := by rw [hbel.cell (p := ⟨b, o + k * 3, none⟩) lb]; exact p0
      have c1 : wr.cell? ⟨b, o + k * 3 + 1, none⟩ = some (.int .i64 c) := by rw [hbel.cell (p := ⟨b, o + k * 3 + 1, none⟩) lb]; exact p1
      have c2' : wr.cell? ⟨b, o + k * 3 + 2, none⟩ = some (.slice A3 fr.length c3) := by rw [hbel.cell (p := ⟨b, o + k * 3 + 2, none⟩) lb]; exact p2
      have lb' : b < wr.heap.size := Nat.lt_of_lt_of_le lb hbel.size
      obtain ⟨b3, o3, rfl, hb3, hc3⟩ := cell_at hin (k := 0) (by omega)
      have HC3 : Hid (∀ X, Below w.heap.size w X → ∀ j, j < fr.length → X.cell? ⟨b3, o3 + j, none⟩ = some (.int .i64 (wAt fr j)) ∧ b3 < X.heap.size) := fun X hX j hj => ⟨by rw [hX.cell (p := ⟨b3, o3 + j, none⟩) (show b3 < w.heap.size by omega)]; exact hc3 j hj, Nat.lt_of_lt_of_le (show b3 < w.heap.size by omega) hX.size⟩
      obtain ⟨Y, hY⟩ : ∃ Y, Y = wr.alloc (.cells #[.int .i64 (F : Int), .int .i64 c, .slice (some ⟨b3, o3, none⟩) fr.length c3] 54) := ⟨_, rfl⟩
      have bY : Below w.heap.size w Y := by rw [hY]; exact hbel.alloc hbel.size _
      have rY : Row Y wr.heap.size 54 [.int .i64 (F : Int), .int .i64 c, .slice (some ⟨b3, o3, none⟩) fr.length c3] := by rw [hY]; exact Row.new wr _ _
      have rN : Row Y w.heap.size 3 (L.map (Value.int .i64)) := by rw [hY]; exact hrow.alloc _
      have gne : w.heap.size ≠ wr.heap.size := by have := hrow.lt; omega
      obtain ⟨z, hz⟩ : ∃ z, z = wr.heap.size := ⟨_, rfl⟩
      rw [← hz] at rY gne
      have y0 : Y.cell? ⟨z, 0, none⟩ = some (.int .i64 (F : Int)) := rY.cell (j := 0) (by simp)
      have y1 : Y.cell? ⟨z, 1, none⟩ = some (.int .i64 c) := rY.cell (j := 1) (by simp)
      have lY := rY.lt
      have lN := rN.lt
      have n0 : Y.cell? ⟨w.heap.size, F, none⟩ = some (.int .i64 (wAt L F)) := by rw [rN.cell (by simp [hln]; exact hFm)]; exact intsL_at _ (by rw [hln]; exact hFm)
      have f0 := rN.frozen F
      have hbF := hbd F hFm
      have w1 : IntKind.i64.wrap (wAt L F + c) = wAt L F + c := IntWalk.i64_in _ (by omega)
      have e1 : IntKind.i64.wrap (c.tdiv (fr.length : Int)) = c / (fr.length : Int) := by
        rw [Int.tdiv_eq_ediv_of_nonneg hc.1]
        exact IntWalk.i64_in _ ⟨by have := Int.ediv_nonneg hc.1 (show (0 : Int) ≤ fr.length by omega); omega, by have := Int.ediv_le_self (fr.length : Int) hc.1; omega⟩
      have e2 : IntKind.i64.wrap (c.tmod (fr.length : Int)) = c % (fr.length : Int) := by
        rw [Int.tmod_eq_emod_of_nonneg hc.1]
        exact IntWalk.i64_in _ ⟨by have := Int.emod_nonneg c (show (fr.length : Int) ≠ 0 by omega); omega, by have := Int.emod_lt_of_pos c (show (0 : Int) < fr.length by omega); omega⟩
      have e2t : c.tmod (fr.length : Int) = c % (fr.length : Int) := Int.tmod_eq_emod_of_nonneg hc.1
      have hd0 : 0 ≤ c / (fr.length : Int) := Int.ediv_nonneg hc.1 (by omega)
      have hd1 : c / (fr.length : Int) ≤ c := Int.ediv_le_self _ hc.1
      have nz : ¬ (fr.length : Int) = 0 := by omega
      have HOw : Hid (∀ i : Nat, oweZ ⟨(F : Int), c, fr⟩ i = c / (fr.length : Int) + if (i : Int) < c % (fr.length : Int) then 1 else 0) := fun i => rfl
      have HS0 : Hid (spN ⟨(F : Int), c, fr⟩ L 0 = L.set F (wAt L F + c)) := rfl
      have HSs : Hid (∀ i : Nat, spN ⟨(F : Int), c, fr⟩ L (i + 1) = (spN ⟨(F : Int), c, fr⟩ L i).set (wAt fr i).toNat (wAt (spN ⟨(F : Int), c, fr⟩ L i) (wAt fr i).toNat - oweZ ⟨(F : Int), c, fr⟩ i)) := fun i => rfl
      have HSl : Hid (∀ i : Nat, (spN ⟨(F : Int), c, fr⟩ L i).length = m) := fun i => (spN_len _ _ i).trans hln
      have HP : Hid (∀ i, i < fr.length → ∃ p : Nat, wAt fr i = (p : Int) ∧ p < m) := hok.p
      have HN' : Hid (spendN m l (k + 1) = spN ⟨(F : Int), c, fr⟩ L fr.length) := HN.out
      have HSn := Lib.hid hsn
      generalize spN ⟨(F : Int), c, fr⟩ L = S at HS0 HSs HSl HN' HSn
      generalize oweZ ⟨(F : Int), c, fr⟩ = W at HOw HSs
      have e3 : c / (fr.length : Int) ≤ 1000000000 := by omega
      generalize c / (fr.length : Int) = each at e1 hd0 hd1 HOw e3
      generalize c % (fr.length : Int) = over at e2 e2t HOw
      have HE0 := Lib.hid hd0
      have HE3 := Lib.hid e3
      have HRN := Lib.hid rN
      have HRY := Lib.hid rY
      have HBY := Lib.hid bY
      have HZ := Lib.hid hz
      have HLn := Lib.hid hln
      have HFm := Lib.hid hFm
      have HM := Lib.hid hm
      have HGn := Lib.hid gne
      have j0 : ¬ (F : Int) < 0 := by omega
      have j1 : (F : Int) < (m : Int) := by omega
      have l10 : fr.length ≤ 10 := by omega
      clear hcs p0 p1 p2 hin hok hbd hln hc h1 h10 hsn hc3 rN rY bY hbel hrow hz hFm hbF hd0 hd1 e3 HN hm hm1
      go_upto_region 9 with fail
      rw [← hY, ← HZ.out]
      clear hY c0 c1 c2' lb'
      go_big_region
      have HRN1 : Hid (Row (Y.setCell ⟨w.heap.size, F, none⟩ (.int .i64 (wAt L F + c))).drew w.heap.size 3 ((S 0).map (Value.int .i64))) := by show Row _ _ _ _; rw [HS0.out, ← intsL_set]; exact (HRN.out.set F _).drew
      have HRY1 : Hid (Row (Y.setCell ⟨w.heap.size, F, none⟩ (.int .i64 (wAt L F + c))).drew z 54 [.int .i64 (F : Int), .int .i64 c, .slice (some ⟨b3, o3, none⟩) fr.length c3]) := (HRY.out.far (by show ¬ z = w.heap.size; exact fun e => gne e.symm) _).drew
      have HBZ : Hid (Below w.heap.size w (Y.setCell ⟨w.heap.size, F, none⟩ (.int .i64 (wAt L F + c))).drew) := (HBY.out.setCell (Nat.le_refl _) _).drew
      generalize (Y.setCell ⟨w.heap.size, F, none⟩ (.int .i64 (wAt L F + c))).drew = Z at HRN1 HRY1 HBZ ⊢
      clear y0 y1 lY lN n0 f0 w1 HRN HRY HBY gne
      go_wp2_with fail
      go_loopw [10, 11] (fun i _ X => ∃ j : Nat, j ≤ fr.length ∧ i = .int .i64 j ∧ Below w.heap.size w X ∧ Row X w.heap.size 3 ((S j).map (Value.int .i64)) ∧ Row X z 54 [.int .i64 (F : Int), .int .i64 c, .slice (some ⟨b3, o3, none⟩) fr.length c3]) (fun i _ _ => fr.length - (intOf i).toNat)
      case atStart => exact ⟨0, Nat.zero_le _, rfl, HBZ.out, HRN1.out, HRY1.out⟩
      case round =>
        obtain ⟨j, hj, rfl, bX, rX, rZ⟩ := hrel
        have z1 : wr.cell? ⟨z, 1, none⟩ = some (.int .i64 c) := rZ.cell (j := 1) (by simp)
        have z2 : wr.cell? ⟨z, 2, none⟩ = some (.slice (some ⟨b3, o3, none⟩) fr.length c3) := rZ.cell (j := 2) (by simp)
        have lZ := rZ.lt
        have HBX := Lib.hid bX
        have HRX := Lib.hid rX
        have HRZ := Lib.hid rZ
        by_cases hjn : j < fr.length
        · have jj1 : (j : Int) < (fr.length : Int) := by omega
          have jj0 : ¬ (j : Int) < 0 := by omega
          have ewj : IntKind.i64.wrap ((j : Int) + 1) = (j : Int) + 1 := IntWalk.i64_in _ (by omega)
          obtain ⟨v1, lv1⟩ := HC3.out wr bX j hjn
          obtain ⟨p, hp, hpm⟩ := HP.out j hjn
          have HSj := Lib.hid (HSs.out j)
          rw [hp] at v1 HSj
          have hSl := HSl.out j
          have hbp := HSn.out j hj p hpm
          have q1 : wr.cell? ⟨w.heap.size, p, none⟩ = some (.int .i64 (wAt (S j) p)) := by rw [rX.cell (by simp [hSl]; exact hpm)]; exact intsL_at _ (by rw [hSl]; exact hpm)
          have qf := rX.frozen p
          have lg := rX.lt
          have hk60 : (k : Int) ≤ 60 := by omega
          have a0 := HE0.out
          have a3 := HE3.out
          have ex0 : IntKind.i64.wrap (each + 1) = each + 1 := IntWalk.i64_in _ (by omega)
          have ex1 : IntKind.i64.wrap (wAt (S j) p - each) = wAt (S j) p - each := IntWalk.i64_in _ (by omega)
          have ex2 : IntKind.i64.wrap (wAt (S j) p - (each + 1)) = wAt (S j) p - (each + 1) := IntWalk.i64_in _ (by omega)
          have pp0 : ¬ (p : Int) < 0 := by omega
          have pp1 : (p : Int) < (m : Int) := by omega
          have pt : (p : Int).toNat = p := by omega
          have HOj := Lib.hid (HOw.out j)
          rw [pt] at HSj
          clear bX rX rZ hp hpm hSl hbp hk60 a0 a3
          generalize wAt (S j) p = x at q1 HSj ex1 ex2
          by_cases hov : (j : Int) < over
          · have HSx : Hid (S (j + 1) = (S j).set p (x - (each + 1))) := by show _ = _; rw [HSj.out, HOj.out, if_pos hov]
            clear HSj HOj
            go_wp2_with fail
            go_roundw
            case rel =>
              refine ⟨j + 1, by omega, by go_num, HBX.out.setCell (Nat.le_refl _) _, ?_, HRZ.out.far (by show ¬ z = w.heap.size; exact fun e => HGn.out e.symm) _⟩
              rw [HSx.out, ← intsL_set]
              exact HRX.out.set p _
            case measure => simp [intOf]; omega
          · have HSx : Hid (S (j + 1) = (S j).set p (x - each)) := by show _ = _; rw [HSj.out, HOj.out, if_neg hov]; congr 1; omega
            clear HSj HOj
            go_wp2_with fail
            go_roundw
            case rel =>
              refine ⟨j + 1, by omega, by go_num, HBX.out.setCell (Nat.le_refl _) _, ?_, HRZ.out.far (by show ¬ z = w.heap.size; exact fun e => HGn.out e.symm) _⟩
              rw [HSx.out, ← intsL_set]
              exact HRX.out.set p _
            case measure => simp [intOf]; omega
        · have ej : j = fr.length := by omega
          subst ej
          have hge : ¬ (fr.length : Int) < (fr.length : Int) := by omega
          clear bX rX rZ
          go_wp2_with fail
          go_roundw
          case rel => exact ⟨k + 1, by omega, by go_num, HBX.out, by rw [HN'.out]; exact HRX.out⟩
          case measure => simp [intOf]; omega
    · have ek : k = l.length := by omega
      subst ek
      have Hbe := Lib.hid hbel
      have HRo := Lib.hid hrow
      have hge : ¬ (l.length : Int) < (l.length : Int) := by omega
      have HLn := Lib.hid (spendN_len m l l.length)
      clear hbel hrow
      go_wp2_with fail
      go_ret2
      exact ⟨some ⟨w.heap.size, 0, none⟩, m, by simp only [HLn.out]; rfl, by simp only [HLn.out]; exact HRo.out.reads (by simp [HLn.out]) HRo.out.lt, HX.out.trans (Hbe.out.mono HX.out.size)⟩
end Go.Proofs.Ytdechfjlbdbbnaa
