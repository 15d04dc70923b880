/- Contracts of takings' spend and Balances. Conditions: spendings that read as data. -/
import Derived.Test.YtdechfjlbdbbnaaTng
namespace Go.Proofs.Ytdechfjlbdbbnaa
open Go.RowKit Go.Shelf

theorem spend_zero (m : Nat) : ((List.replicate m (0 : Int)).map (Value.int .i64)) = List.replicate m (.int .i64 0) := by simp
set_option maxHeartbeats 4000000 in
set_option maxRecDepth 100000 in
theorem spend_any (m : Nat) (hm : m ≤ 10) (l : List SpZ) (h60 : l.length ≤ 60) (ho : ∀ k, k < l.length → SpOk m (spAt l k)) (A : Option Addr) (ca B : Nat) (rs : List (Option Addr × Nat)) (w : World) (hB : B ≤ w.heap.size) (hl : SpIn w B A rs l) :
    Calls Try.prog 51 #[.int .i64 (m : Int), .slice A l.length ca] w fun e w' => ∃ g c', e = .returned (.slice (some ⟨g, 0, none⟩) m c') ∧ w.heap.size ≤ g ∧ Row w' g 3 ((spendN m l l.length).map (Value.int .i64)) ∧ Below w.heap.size w w' := by
  have HIn := Lib.hid hl
  have HO := Lib.hid ho
  have HBd := Lib.hid (spendN_bd hm (N := l.length) ho)
  obtain ⟨M0, hM0, hmk0⟩ := run_mkT m (by omega) w
  obtain ⟨W1, hW1⟩ : ∃ W, W = w.alloc (.cells M0 3) := ⟨_, rfl⟩
  have HR1 : Hid (Row W1 w.heap.size 3 ((spendN m l 0).map (Value.int .i64))) := by
    show Row _ _ _ _
    rw [show spendN m l 0 = List.replicate m 0 from rfl, spend_zero, ← hM0, hW1]; exact Row.new w _ M0
  have HW1 : Hid (Below w.heap.size w W1) := by show Below _ _ _; rw [hW1]; exact (Below.refl _ _).alloc (Nat.le_refl _) _
  clear hM0 hl ho
  go_enter Try.func51, Try.ntmps51
  go_upto_region 2 with fail
  rw [← hW1]
  clear hmk0 hW1
  go_wp2_with fail
  go_loopw [16] (fun i wr => ∃ k : Nat, k ≤ l.length ∧ i = .int .i64 k ∧ Below w.heap.size w wr ∧ Row wr w.heap.size 3 ((spendN m l k).map (Value.int .i64))) (fun i _ => l.length - (intOf i).toNat)
  case atStart => exact ⟨0, Nat.zero_le _, rfl, HW1.out, HR1.out⟩
  case round =>
    obtain ⟨k, hk, rfl, hbel, hrow⟩ := hrel
    by_cases hlt : k < l.length
    · have hlt' : (k : Int) < (l.length : Int) := by omega
      have i0 : ¬ (k : Int) < 0 := by omega
      have ew : IntKind.i64.wrap ((k : Int) + 1) = (k : Int) + 1 := IntWalk.i64_in _ (by omega)
      obtain ⟨b, o, rfl, hb, hcs⟩ := HIn.out.outer (by omega)
      obtain ⟨p0, p1, p2⟩ := hcs k hlt
      have hin := HIn.out.inner k hlt
      have lb : b < w.heap.size := by omega
      have hok := HO.out k hlt
      have hbd := HBd.out k hk
      have HN : Hid (spendN m l (k + 1) = spS (spendN m l k) (spAt l k)) := rfl
      have hln := spendN_len m l k
      generalize spAt l k = s at p0 p1 p2 hin hok HN
      generalize rs.getD k default = q at p2 hin
      generalize spendN m l k = L at hrow hbd hln HN
      obtain ⟨A3, c3⟩ := q
      obtain ⟨f, c, fr⟩ := s
      obtain ⟨F, hF, hFm⟩ := hok.f
      have hc := hok.c
      have h1 := hok.l1
      have h10 := hok.l10
      have hsn := spN_bd hok hln hbd
      dsimp only at p0 p1 p2 hin hF hc h1 h10 hsn
      subst hF
      have c0 : wr.cell? ⟨b, o + k * 3, none⟩ = some (.int .i64 (F : Int)) := by rw [hbel.cell (p := ⟨b, o + k * 3, none⟩) lb]; exact p0
      have c1 : wr.cell? ⟨b, o + k * 3 + 1, none⟩ = some (.int .i64 c) := by rw [hbel.cell (p := ⟨b, o + k * 3 + 1, none⟩) lb]; exact p1
      have c2' : wr.cell? ⟨b, o + k * 3 + 2, none⟩ = some (.slice A3 fr.length c3) := by rw [hbel.cell (p := ⟨b, o + k * 3 + 2, none⟩) lb]; exact p2
      have lb' : b < wr.heap.size := Nat.lt_of_lt_of_le lb hbel.size
      obtain ⟨b3, o3, rfl, hb3, hc3⟩ := cell_at hin (k := 0) (by omega)
      have HC3 : Hid (∀ X, Below w.heap.size w X → ∀ j, j < fr.length → X.cell? ⟨b3, o3 + j, none⟩ = some (.int .i64 (wAt fr j)) ∧ b3 < X.heap.size) := fun X hX j hj => ⟨by rw [hX.cell (p := ⟨b3, o3 + j, none⟩) (show b3 < w.heap.size by omega)]; exact hc3 j hj, Nat.lt_of_lt_of_le (show b3 < w.heap.size by omega) hX.size⟩
      obtain ⟨Y, hY⟩ : ∃ Y, Y = wr.alloc (.cells #[.int .i64 (F : Int), .int .i64 c, .slice (some ⟨b3, o3, none⟩) fr.length c3] 54) := ⟨_, rfl⟩
      have bY : Below w.heap.size w Y := by rw [hY]; exact hbel.alloc hbel.size _
      have rY : Row Y wr.heap.size 54 [.int .i64 (F : Int), .int .i64 c, .slice (some ⟨b3, o3, none⟩) fr.length c3] := by rw [hY]; exact Row.new wr _ _
      have rN : Row Y w.heap.size 3 (L.map (Value.int .i64)) := by rw [hY]; exact hrow.alloc _
      have gne : w.heap.size ≠ wr.heap.size := by have := hrow.lt; omega
      obtain ⟨z, hz⟩ : ∃ z, z = wr.heap.size := ⟨_, rfl⟩
      rw [← hz] at rY gne
      have y0 : Y.cell? ⟨z, 0, none⟩ = some (.int .i64 (F : Int)) := rY.cell (j := 0) (by simp)
      have y1 : Y.cell? ⟨z, 1, none⟩ = some (.int .i64 c) := rY.cell (j := 1) (by simp)
      have y2 : Y.cell? ⟨z, 2, none⟩ = some (.slice (some ⟨b3, o3, none⟩) fr.length c3) := rY.cell (j := 2) (by simp)
      have lY := rY.lt
      have lN := rN.lt
      have n0 : Y.cell? ⟨w.heap.size, F, none⟩ = some (.int .i64 (wAt L F)) := by rw [rN.cell (by simp [hln]; exact hFm)]; exact intsL_at _ (by rw [hln]; exact hFm)
      have f0 := rN.frozen F
      have hbF := hbd F hFm
      have w1 : IntKind.i64.wrap (wAt L F + c) = wAt L F + c := IntWalk.i64_in _ (by omega)
      have e1 : IntKind.i64.wrap (c.tdiv (fr.length : Int)) = c / (fr.length : Int) := by
        rw [Int.tdiv_eq_ediv_of_nonneg hc.1]
        exact IntWalk.i64_in _ ⟨by have := Int.ediv_nonneg hc.1 (show (0 : Int) ≤ fr.length by omega); omega, by have := Int.ediv_le_self (fr.length : Int) hc.1; omega⟩
      have e2 : IntKind.i64.wrap (c.tmod (fr.length : Int)) = c % (fr.length : Int) := by
        rw [Int.tmod_eq_emod_of_nonneg hc.1]
        exact IntWalk.i64_in _ ⟨by have := Int.emod_nonneg c (show (fr.length : Int) ≠ 0 by omega); omega, by have := Int.emod_lt_of_pos c (show (0 : Int) < fr.length by omega); omega⟩
      have e2t : c.tmod (fr.length : Int) = c % (fr.length : Int) := Int.tmod_eq_emod_of_nonneg hc.1
      have hd0 : 0 ≤ c / (fr.length : Int) := Int.ediv_nonneg hc.1 (by omega)
      have hd1 : c / (fr.length : Int) ≤ c := Int.ediv_le_self _ hc.1
      have nz : ¬ (fr.length : Int) = 0 := by omega
      have HOw : Hid (∀ i : Nat, oweZ ⟨(F : Int), c, fr⟩ i = c / (fr.length : Int) + if (i : Int) < c % (fr.length : Int) then 1 else 0) := fun i => rfl
      have HS0 : Hid (spN ⟨(F : Int), c, fr⟩ L 0 = L.set F (wAt L F + c)) := rfl
      have HSs : Hid (∀ i : Nat, spN ⟨(F : Int), c, fr⟩ L (i + 1) = (spN ⟨(F : Int), c, fr⟩ L i).set (wAt fr i).toNat (wAt (spN ⟨(F : Int), c, fr⟩ L i) (wAt fr i).toNat - oweZ ⟨(F : Int), c, fr⟩ i)) := fun i => rfl
      have HSl : Hid (∀ i : Nat, (spN ⟨(F : Int), c, fr⟩ L i).length = m) := fun i => (spN_len _ _ i).trans hln
      have HP : Hid (∀ i, i < fr.length → ∃ p : Nat, wAt fr i = (p : Int) ∧ p < m) := hok.p
      have HN' : Hid (spendN m l (k + 1) = spN ⟨(F : Int), c, fr⟩ L fr.length) := HN.out
      have HSn := Lib.hid hsn
      generalize spN ⟨(F : Int), c, fr⟩ L = S at HS0 HSs HSl HN' HSn
      generalize oweZ ⟨(F : Int), c, fr⟩ = W at HOw HSs
      have e3 : c / (fr.length : Int) ≤ 1000000000 := by omega
      generalize c / (fr.length : Int) = each at e1 hd0 hd1 HOw e3
      generalize c % (fr.length : Int) = over at e2 e2t HOw
      have HE0 := Lib.hid hd0
      have HE3 := Lib.hid e3
      have HRN := Lib.hid rN
      have HRY := Lib.hid rY
      have HBY := Lib.hid bY
      have HZ := Lib.hid hz
      have HLn := Lib.hid hln
      have HFm := Lib.hid hFm
      have HM := Lib.hid hm
      have j0 : ¬ (F : Int) < 0 := by omega
      have j1 : (F : Int) < (m : Int) := by omega
      have l10 : fr.length ≤ 10 := by omega
      clear hcs p0 p1 p2 hin hok hbd hln hc h1 h10 hsn hc3 rN rY bY hbel hrow hz hFm hbF hd0 hd1 e3 HN hm
      go_upto_region 5 with fail
      rw [← hY, ← HZ.out]
      clear hY c0 c1 c2' lb'
      go_big_region
      have rN1 : Row (Y.setCell ⟨w.heap.size, F, none⟩ (.int .i64 (wAt L F + c))).drew w.heap.size 3 ((S 0).map (Value.int .i64)) := by rw [HS0.out, ← intsL_set]; exact (HRN.out.set F _).drew
      have rY1 : Row (Y.setCell ⟨w.heap.size, F, none⟩ (.int .i64 (wAt L F + c))).drew z 54 [.int .i64 (F : Int), .int .i64 c, .slice (some ⟨b3, o3, none⟩) fr.length c3] := (HRY.out.far (by show ¬ z = w.heap.size; exact fun e => gne e.symm) _).drew
      have bY1 : Below w.heap.size w (Y.setCell ⟨w.heap.size, F, none⟩ (.int .i64 (wAt L F + c))).drew := (HBY.out.setCell (Nat.le_refl _) _).drew
      generalize (Y.setCell ⟨w.heap.size, F, none⟩ (.int .i64 (wAt L F + c))).drew = Z at rN1 rY1 bY1 ⊢
      have z1 : Z.cell? ⟨z, 1, none⟩ = some (.int .i64 c) := rY1.cell (j := 1) (by simp)
      have z2 : Z.cell? ⟨z, 2, none⟩ = some (.slice (some ⟨b3, o3, none⟩) fr.length c3) := rY1.cell (j := 2) (by simp)
      have lZ := rY1.lt
      have HRN1 := Lib.hid rN1
      have HBZ := Lib.hid bY1
      clear y0 y1 y2 lY lN n0 f0 w1 rN1 rY1 bY1 HRN HRY HBY
      go_upto_region 6 with fail
      go_quiet (fail)
      go_wp2_with fail
      go_loopw [44] (fun i X => ∃ j : Nat, j ≤ fr.length ∧ i = .int .i64 j ∧ Below w.heap.size w X ∧ Row X w.heap.size 3 ((S j).map (Value.int .i64))) (fun i _ => fr.length - (intOf i).toNat)
      case atStart => exact ⟨0, Nat.zero_le _, rfl, below_drewN HBZ.out _, HRN1.out.drewN _⟩
      case round =>
        obtain ⟨j, hj, rfl, bX, rX⟩ := hrel
        by_cases hjn : j < fr.length
        · have jj1 : (j : Int) < (fr.length : Int) := by omega
          have jj0 : ¬ (j : Int) < 0 := by omega
          have ewj : IntKind.i64.wrap ((j : Int) + 1) = (j : Int) + 1 := IntWalk.i64_in _ (by omega)
          obtain ⟨v1, lv1⟩ := HC3.out wr bX j hjn
          obtain ⟨p, hp, hpm⟩ := HP.out j hjn
          have HSj := Lib.hid (HSs.out j)
          rw [hp] at v1 HSj
          have hSl := HSl.out j
          have hbp := HSn.out j hj p hpm
          have q1 : wr.cell? ⟨w.heap.size, p, none⟩ = some (.int .i64 (wAt (S j) p)) := by rw [rX.cell (by simp [hSl]; exact hpm)]; exact intsL_at _ (by rw [hSl]; exact hpm)
          have qf := rX.frozen p
          have lg := rX.lt
          have hk60 : (k : Int) ≤ 60 := by omega
          have a0 := HE0.out
          have a3 := HE3.out
          have ex1 : IntKind.i64.wrap (wAt (S j) p - each) = wAt (S j) p - each := IntWalk.i64_in _ (by omega)
          have ex2 : IntKind.i64.wrap (wAt (S j) p - each - 1) = wAt (S j) p - each - 1 := IntWalk.i64_in _ (by omega)
          have pp0 : ¬ (p : Int) < 0 := by omega
          have pp1 : (p : Int) < (m : Int) := by omega
          have pt : (p : Int).toNat = p := by omega
          have HOj := Lib.hid (HOw.out j)
          have HBX := Lib.hid bX
          have HRX := Lib.hid rX
          have HpL : Hid (p < (S j).length) := by show _ < _; rw [hSl]; exact hpm
          have hgw : Hid (w.heap.size ≤ w.heap.size) := Nat.le_refl _
          rw [pt] at HSj
          clear bX rX hp hpm hSl hbp hk60 a0 a3
          generalize wAt (S j) p = x at q1 HSj ex1 ex2
          by_cases hov : (j : Int) < over
          · have HSx : Hid (S (j + 1) = (S j).set p (x - each - 1)) := by show _ = _; rw [HSj.out, HOj.out, if_pos hov]; congr 1; omega
            clear HSj HOj
            go_upto_region 11 with fail
            have r2 : Row (wr.setCell ⟨w.heap.size, p, none⟩ (.int .i64 (x - each))) w.heap.size 3 (((S j).set p (x - each)).map (Value.int .i64)) := by rw [← intsL_set]; exact HRX.out.set p _
            have b2 : Below w.heap.size w (wr.setCell ⟨w.heap.size, p, none⟩ (.int .i64 (x - each))) := HBX.out.setCell hgw.out _
            generalize wr.setCell ⟨w.heap.size, p, none⟩ (.int .i64 (x - each)) = X2 at r2 b2 ⊢
            have q2 : X2.cell? ⟨w.heap.size, p, none⟩ = some (.int .i64 (x - each)) := by
              rw [r2.cell (by simp; exact HpL.out), intsL_at _ (by simp; exact HpL.out), wAt_set _ _ _ _ HpL.out, if_pos rfl]
            have qf2 := r2.frozen p
            have lg2 := r2.lt
            have HR2 := Lib.hid r2
            have HB2 := Lib.hid b2
            clear r2 b2 q1 qf lg v1 lv1
            go_wp2_with fail
            go_roundw
            case rel =>
              refine ⟨j + 1, by omega, by go_num, HB2.out.setCell hgw.out _, ?_⟩
              have := HR2.out.set p (.int .i64 (x - each - 1))
              rw [intsL_set, List.set_set] at this
              rw [HSx.out]
              exact this
            case measure => simp [intOf]; omega
          · have HSx : Hid (S (j + 1) = (S j).set p (x - each)) := by show _ = _; rw [HSj.out, HOj.out, if_neg hov]; congr 1; omega
            clear HSj HOj
            go_wp2_with fail
            go_roundw
            case rel =>
              refine ⟨j + 1, by omega, by go_num, HBX.out.setCell hgw.out _, ?_⟩
              rw [HSx.out, ← intsL_set]
              exact HRX.out.set p _
            case measure => simp [intOf]; omega
        · have ej : j = fr.length := by omega
          subst ej
          have HBX := Lib.hid bX
          have HRX := Lib.hid rX
          have hge : ¬ (fr.length : Int) < (fr.length : Int) := by omega
          clear bX rX
          go_wp2_with fail
          go_roundw
          case rel => exact ⟨k + 1, by omega, by go_num, HBX.out, by rw [HN'.out]; exact HRX.out⟩
          case measure => simp [intOf]; omega
    · have ek : k = l.length := by omega
      subst ek
      have Hbe := Lib.hid hbel
      have HRo := Lib.hid hrow
      have hge : ¬ (l.length : Int) < (l.length : Int) := by omega
      clear hbel hrow
      go_wp2_with fail
      go_ret
      exact ⟨w.heap.size, ⟨m, rfl⟩, Nat.le_refl _, HRo.out, Hbe.out⟩
end Go.Proofs.Ytdechfjlbdbbnaa
