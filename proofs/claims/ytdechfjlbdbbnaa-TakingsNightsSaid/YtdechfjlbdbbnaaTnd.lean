/- Contract of the specification's Nights. Conditions: numbers that read as data. -/
import Derived.Test.YtdechfjlbdbbnaaTnc
import Derived.Test.YtdechfjlbdbbnaaTky
namespace Go.Proofs.Ytdechfjlbdbbnaa
open Go.RowKit Go.Shelf

theorem nights_zero (ns ws : List Int) (n : Nat) : ((List.range n).map (nAt ns ws 0)).map (Value.int .i64) = List.replicate n (.int .i64 0) := by
  refine List.ext_getElem? fun i => ?_
  rw [List.getElem?_map, List.getElem?_map, List.getElem?_replicate]
  by_cases hi : i < n
  · rw [List.getElem?_range hi, if_pos hi]; rfl
  · rw [List.getElem?_eq_none (by simp; omega), if_neg hi]; rfl
set_option maxHeartbeats 8000000 in
set_option maxRecDepth 100000 in
theorem rNights_any (ns ws : List Int) (A A2 : Option Addr) (ca c2 B : Nat) (w : World) (hB : B ≤ w.heap.size) (hr : Reads w B 1 A ns.length (ns.map (Value.int .i64))) (hm : ns.length ≤ maxLen) (hr2 : Reads w B 1 A2 ws.length (ws.map (Value.int .i64))) (hm2 : ws.length ≤ maxLen) :
    Calls Try.prog 36 #[.slice A ns.length ca, .slice A2 ws.length c2] w (TkToN w (ngtR ns ws).1 (ngtR ns ws).2.1 (ngtR ns ws).2.2) := by
  have HV : Hid (ngtR ns ws = if 60 < ns.length then ([], 0, 2) else if nightB ns = false then ([], 0, 1) else if wOk ws = false then ([], 0, 110) else (nightsZ ns ws, furZ (wAt (nightsZ ns ws)) (wAt (splitZ (sumW ns) ws)) ws.length, 0)) := rfl
  have HVB : Hid (nightB ns = (allB ns 0 1000000000 && inB (sumW ns) 0 1000000000)) := rfl
  have HA : Hid (∀ x X, Calls Try.prog 41 #[.int .i64 x] X fun e w' => e = .returned (.bool (inB x 0 1000000000)) ∧ X = w') := fun x X => (ramount_any _ X).mono fun e w' h => ⟨h.1, h.2.symm⟩
  have HT : Hid (∀ X, Below w.heap.size w X → Calls Try.prog 27 #[.slice A ns.length ca] X fun e w' => e = .returned (.int .i64 (sumW ns)) ∧ X = w') := fun X hX => rSum_any ns A ns.length ca B X (hr.below (hX.mono hB)) hm
  have H2 := Lib.hid (weighted_any ws A2 c2 B w hB hr2 hm2)
  have HAs := Lib.hid (HA.out (sumW ns))
  have hrd := Lib.hid hr
  have hrd2 := Lib.hid hr2
  have B0 := Lib.hid (Below.refl w.heap.size w)
  have HL := Lib.hid (nightsZ_len ns ws)
  clear hr hr2 hm2
  unfold maxLen at hm
  generalize ngtR ns ws = R at HV ⊢
  by_cases h60 : 60 < ns.length
  · rw [if_pos h60] at HV
    rw [HV.out]
    have hz : (60 : Int) < (ns.length : Int) := by omega
    go_enter Try.func36, Try.ntmps36
    go_wp2_with fail
    go_ret3
    exact ⟨none, 0, rfl, Reads.none_, Below.refl _ _⟩
  rw [if_neg h60] at HV
  have hz : ¬ (60 : Int) < (ns.length : Int) := by omega
  go_enter Try.func36, Try.ntmps36
  go_wp2_with fail
  go_loop [7] (fun i => ∃ k : Nat, k ≤ ns.length ∧ i = .int .i64 k ∧ Hid (allB (ns.take k) 0 1000000000 = true)) (fun i => ns.length - (intOf i).toNat)
  case atStart => exact ⟨0, Nat.zero_le _, rfl, rfl⟩
  case round =>
    obtain ⟨k, hk, rfl, Hall⟩ := hrel
    by_cases hlt : k < ns.length
    · have i1 : (k : Int) < (ns.length : Int) := by omega
      have i0' : ¬ (k : Int) < 0 := by omega
      have ew : IntKind.i64.wrap ((k : Int) + 1) = (k : Int) + 1 := IntWalk.i64_in _ (by omega)
      obtain ⟨b, o, rfl, hb, hcc⟩ := hrd.out.at1 hlt
      have cw := hcc k hlt
      have lb : b < w.heap.size := by omega
      have Han : Hid (allB (ns.take (k + 1)) 0 1000000000 = (allB (ns.take k) 0 1000000000 && inB (ns[k]?.getD 0) 0 1000000000)) := allT_snoc ns k 0 1000000000 hlt
      have Hno := Lib.hid (allT_out ns k 0 1000000000 hlt)
      have HAx := Lib.hid (HA.out (ns[k]?.getD 0))
      generalize ns[k]?.getD 0 = x at cw Han Hno HAx
      clear hcc
      cases hin : inB x 0 1000000000 with
      | false =>
        have HN := Lib.hid (Hno.out hin)
        rw [hin] at HAx
        clear hin Hno Han
        have HR : Hid (R = ([], 0, 1)) := by show _ = _; rw [HV.out, if_pos (by rw [HVB.out, HN.out]; rfl)]
        go_wp2_with (go_at_call 41; refine (HAx.out _).mono ?_; rintro e w' ⟨rfl, rfl⟩)
        go_ret3
        rw [HR.out]
        exact ⟨none, 0, rfl, Reads.none_, Below.refl _ _⟩
      | true =>
        rw [hin] at HAx Han
        clear hin Hno
        go_wp2_with (go_at_call 41; refine (HAx.out _).mono ?_; rintro e w' ⟨rfl, rfl⟩)
        refine ⟨⟨k + 1, by omega, by go_num, by show _ = _; rw [Han.out, Hall.out]; rfl⟩, by simp [intOf]; omega⟩
    · have ek : k = ns.length := by omega
      have hge : ¬ (k : Int) < (ns.length : Int) := by omega
      have hall : allB ns 0 1000000000 = true := by have := Hall.out; rw [ek, List.take_length] at this; exact this
      rw [hall] at HVB
      clear ek Hall
      have HAll := Lib.hid fun j (hj : j < ns.length) => allB_at hall hj
      cases hi : inB (sumW ns) 0 1000000000 with
      | false =>
        rw [hi] at HVB HAs
        rw [if_pos (by rw [HVB.out]; rfl)] at HV
        clear hi hall
        go_wp2_with (first | (go_at_call 27; with_reducible refine (HT.out _ B0.out).mono ?_; rintro e w' ⟨rfl, rfl⟩) | (go_at_call 41; refine (HAs.out _).mono ?_; rintro e w' ⟨rfl, rfl⟩))
        go_ret3
        rw [HV.out]
        exact ⟨none, 0, rfl, Reads.none_, Below.refl _ _⟩
      | true =>
        rw [hi] at HVB HAs
        have HSu := Lib.hid (inB_le hi)
        rw [if_neg (by rw [HVB.out]; decide)] at HV
        clear hi hall
        cases hw : wOk ws with
        | false =>
          rw [hw] at H2
          rw [if_pos hw] at HV
          clear hw
          go_wp2_with (first | (go_at_call 27; with_reducible refine (HT.out _ B0.out).mono ?_; rintro e w' ⟨rfl, rfl⟩) | (go_at_call 41; refine (HAs.out _).mono ?_; rintro e w' ⟨rfl, rfl⟩) | (go_at_call 42; refine H2.out.mono ?_; rintro e w' ⟨rfl, rfl⟩))
          go_ret3
          rw [HV.out]
          exact ⟨none, 0, rfl, Reads.none_, Below.refl _ _⟩
        | true =>
          have h : WOk ws := wOk_of hw
          rw [if_neg (by rw [hw]; decide)] at HV
          rw [hw] at H2
          have l10 := h.l10
          have HSp : Hid (∀ (c : Int) X, 0 ≤ c → c ≤ 1000000000 → Below w.heap.size w X → Calls Try.prog 43 #[.int .i64 c, .slice A2 ws.length c2] X fun e w' => ∃ g ca', e = .returned (.slice (some ⟨g, 0, none⟩) ws.length ca') ∧ X.heap.size ≤ g ∧ Row w' g 3 ((splitZ c ws).map (Value.int .i64)) ∧ Below X.heap.size X w') := fun c X h0 h1 hX => rsplit_any c ws h h0 h1 A2 c2 B X (Nat.le_trans hB hX.size) (hrd2.out.below (hX.mono hB))
          have HBd : Hid (∀ k i, k ≤ ns.length → i < ws.length → 0 ≤ nAt ns ws k i ∧ nAt ns ws k i ≤ k * 1000000000001) := fun k i hk hi => nAt_bd h HAll.out hk hi
          have HTp : Hid (∀ c i, 0 ≤ c → c ≤ 1000000000 → i < ws.length → 0 ≤ wAt (splitZ c ws) i ∧ wAt (splitZ c ws) i ≤ 1000000000001) := fun c i h0 h1 hi => part_top h h0 h1 hi
          have HLn : Hid (∀ c, (splitZ c ws).length = ws.length) := fun c => splitZ_ln c ws
          have HE : Hid (nightsZ ns ws = (List.range ws.length).map (nAt ns ws ns.length)) := rfl
          have HNa : Hid (∀ i, i < ws.length → wAt (nightsZ ns ws) i = nAt ns ws ns.length i) := fun i hi => nightsZ_at ns ws hi
          obtain ⟨n, hn⟩ : ∃ n, n = ws.length := ⟨_, rfl⟩
          have Hn := Lib.hid hn
          rw [← hn] at HSp HBd HTp HLn HE HNa HL HV l10 H2
          rw [← hn]
          clear hn hw h
          obtain ⟨M0, hM0, hmk0⟩ := run_mkT n (by omega) w
          obtain ⟨W1, hW1⟩ : ∃ W, W = w.alloc (.cells M0 3) := ⟨_, rfl⟩
          have HR1 : Hid (Row W1 w.heap.size 3 (((List.range n).map (nAt ns ws 0)).map (Value.int .i64))) := by
            show Row _ _ _ _
            rw [nights_zero, ← hM0, hW1]; exact Row.new w _ M0
          have HW1 : Hid (Below w.heap.size w W1) := by show Below _ _ _; rw [hW1]; exact (Below.refl _ _).alloc (Nat.le_refl _) _
          clear hM0
          go_upto_region 12 with (first | (go_at_call 27; with_reducible refine (HT.out _ B0.out).mono ?_; rintro e w' ⟨rfl, rfl⟩) | (go_at_call 41; refine (HAs.out _).mono ?_; rintro e w' ⟨rfl, rfl⟩) | (go_at_call 42; refine H2.out.mono ?_; rintro e w' ⟨rfl, rfl⟩))
          go_upto_region 13 with fail
          rw [← hW1]
          clear hmk0 hW1
          go_wp2_with fail
          go_loopw [9, 10, 11] (fun i _ _ wr => ∃ k : Nat, k ≤ ns.length ∧ i = .int .i64 k ∧ Below w.heap.size w wr ∧ Row wr w.heap.size 3 (((List.range n).map (nAt ns ws k)).map (Value.int .i64))) (fun i _ _ _ => ns.length - (intOf i).toNat)
          case atStart => exact ⟨0, Nat.zero_le _, rfl, HW1.out, HR1.out⟩
          case round =>
            obtain ⟨k, hk, rfl, hbel, hrow⟩ := hrel
            have Hbe := Lib.hid hbel
            have HRo := Lib.hid hrow
            by_cases hlt : k < ns.length
            · have hlt' : (k : Int) < (ns.length : Int) := by omega
              have i0 : ¬ (k : Int) < 0 := by omega
              have ew : IntKind.i64.wrap ((k : Int) + 1) = (k : Int) + 1 := IntWalk.i64_in _ (by omega)
              obtain ⟨b1, o1, rfl, hb1, hc1⟩ := cell_at hrd.out hlt
              have v1 : wr.cell? ⟨b1, o1 + k, none⟩ = some (.int .i64 (wAt ns k)) := by rw [hbel.cell (p := ⟨b1, o1 + k, none⟩) (show b1 < w.heap.size by omega)]; exact hc1 k hlt
              have l1 : b1 < wr.heap.size := by have := hbel.size; omega
              have q := HAll.out k hlt
              have HSq := Lib.hid (HSp.out (wAt ns k) wr q.1 q.2 hbel)
              have HTq : Hid (∀ i, i < n → 0 ≤ wAt (splitZ (wAt ns k) ws) i ∧ wAt (splitZ (wAt ns k) ws) i ≤ 1000000000001) := fun i hi => HTp.out _ _ q.1 q.2 hi
              have HAsu : Hid (∀ i, nAt ns ws (k + 1) i = nAt ns ws k i + wAt (splitZ (wAt ns k) ws) i) := fun i => rfl
              have HLq := Lib.hid (HLn.out (wAt ns k))
              generalize splitZ (wAt ns k) ws = S at HSq HTq HAsu HLq
              generalize wAt ns k = c at v1 HSq
              clear hc1 q hbel hrow
              go_upto_region 17 with (go_at_call 43; refine HSq.out.mono ?_; rintro e Y ⟨g, c', rfl, hg, hrY, hY⟩)
              have hsz := Hbe.out.size
              have BY := Lib.hid (Hbe.out.trans (hY.mono hsz))
              have RY := Lib.hid hrY
              have RP : Hid (Row Y w.heap.size 3 ((mixL (nAt ns ws (k + 1)) (nAt ns ws k) n 0).map (Value.int .i64))) := by
                show Row _ _ _ _
                rw [mixL_zero]
                exact HRo.out.below hY HRo.out.lt
              have lP := HRo.out.lt
              have gne : ¬ g = w.heap.size := by omega
              clear hY hrY HSq hg
              go_wp2_with fail
              go_loopw [11] (fun i Z => ∃ j : Nat, j ≤ n ∧ i = .int .i64 j ∧ Below w.heap.size w Z ∧ Row Z g 3 (S.map (Value.int .i64)) ∧ Row Z w.heap.size 3 ((mixL (nAt ns ws (k + 1)) (nAt ns ws k) n j).map (Value.int .i64))) (fun i _ => n - (intOf i).toNat)
              case atStart => exact ⟨0, Nat.zero_le _, rfl, BY.out, RY.out, RP.out⟩
              case round =>
                obtain ⟨j, hj, rfl, bZ, rS, rP⟩ := hrel
                have BZ := Lib.hid bZ
                have RS := Lib.hid rS
                have RPz := Lib.hid rP
                by_cases hjn : j < n
                · have j1 : (j : Int) < (n : Int) := by omega
                  have j0 : ¬ (j : Int) < 0 := by omega
                  have ewj : IntKind.i64.wrap ((j : Int) + 1) = (j : Int) + 1 := IntWalk.i64_in _ (by omega)
                  have s1 : wr.cell? ⟨g, j, none⟩ = some (.int .i64 (wAt S j)) := by rw [rS.cell (by simp [HLq.out]; exact hjn)]; exact intsL_at _ (by rw [HLq.out]; exact hjn)
                  have p1 : wr.cell? ⟨w.heap.size, j, none⟩ = some (.int .i64 (nAt ns ws k j)) := by
                    rw [rP.cell (by simp [mixL_len]; exact hjn), intsL_at _ (by rw [mixL_len]; exact hjn), mixL_at _ _ hjn, if_neg (by omega)]
                  have f1 := rP.frozen j
                  have l2 := rS.lt
                  have l3 := rP.lt
                  have b1 := HBd.out k j hk hjn
                  have b2 := HTq.out j hjn
                  have HSe := Lib.hid (HAsu.out j)
                  have eS : IntKind.i64.wrap (nAt ns ws k j + wAt S j) = nAt ns ws k j + wAt S j := IntWalk.i64_in _ (by omega)
                  generalize wAt S j = x at s1 HSe eS
                  generalize hy : nAt ns ws k j = y at p1 HSe eS
                  clear bZ rS rP b1 b2 hy
                  go_upto_region 20 with fail
                  go_big_region
                  go_wp2_with fail
                  go_roundw
                  case rel =>
                    refine ⟨j + 1, by omega, by go_num, (BZ.out.setCell (Nat.le_refl _) _).drew, (RS.out.far gne _).drew, ?_⟩
                    rw [← mixL_set, ← intsL_set, HSe.out]
                    exact (RPz.out.set j _).drew
                  case measure => simp [intOf]; omega
                · have ej : j = n := by omega
                  subst ej
                  have hge : ¬ (j : Int) < (j : Int) := by omega
                  clear bZ rS rP
                  go_wp2_with fail
                  go_roundw
                  case rel =>
                    refine ⟨k + 1, by omega, by go_num, BZ.out, ?_⟩
                    rw [← mixL_all (nAt ns ws (k + 1)) (nAt ns ws k)]
                    exact RPz.out
                  case measure => simp [intOf]; omega
            · have ek : k = ns.length := by omega
              subst ek
              have hge : ¬ (ns.length : Int) < (ns.length : Int) := by omega
              have HR5 : Hid (Row wr w.heap.size 3 ((nightsZ ns ws).map (Value.int .i64))) := by show Row _ _ _ _; rw [HE.out]; exact hrow
              have HSq := Lib.hid (HSp.out (sumW ns) wr HSu.out.1 HSu.out.2 hbel)
              clear hbel hrow HRo
              go_upto_region 21 with fail
              go_upto_region 22 with (first | (go_at_call 27; with_reducible refine (HT.out _ Hbe.out).mono ?_; rintro e w' ⟨rfl, rfl⟩) | (go_at_call 43; refine HSq.out.mono ?_; rintro e Y ⟨g, c', rfl, hg, hrY, hY⟩))
              have BY := Lib.hid (Hbe.out.trans (hY.mono Hbe.out.size))
              have RY := Lib.hid hrY
              have RN := Lib.hid (HR5.out.below hY HR5.out.lt)
              have HTq : Hid (∀ i, i < n → 0 ≤ wAt (splitZ (sumW ns) ws) i ∧ wAt (splitZ (sumW ns) ws) i ≤ 1000000000001) := fun i hi => HTp.out _ _ HSu.out.1 HSu.out.2 hi
              have HNq : Hid (∀ i, i < n → 0 ≤ wAt (nightsZ ns ws) i ∧ wAt (nightsZ ns ws) i ≤ 60000000000060) := fun i hi => by
                rw [HNa.out i hi]
                have := HBd.out ns.length i (Nat.le_refl _) hi
                omega
              have HLq := Lib.hid (HLn.out (sumW ns))
              generalize splitZ (sumW ns) ws = S at HTq HLq HV RY
              generalize nightsZ ns ws = P at HNq HL HV RN
              have HF : Hid (∀ k, k ≤ n → 0 ≤ furZ (wAt P) (wAt S) k ∧ furZ (wAt P) (wAt S) k ≤ 2000000000000000) := fun k hk => furZ_bd (by omega) k fun i hi => by
                have := HNq.out i (by omega)
                have := HTq.out i (by omega)
                omega
              clear hY hrY HSq HR5 HSp HBd HTp HE HNa
              go_wp2_with fail
              go_loopw [13, 14] (fun m i Z => ∃ j : Nat, j ≤ n ∧ i = .int .i64 j ∧ m = .int .i64 (furZ (wAt P) (wAt S) j) ∧ Below Y.heap.size Y Z) (fun _ i _ => n - (intOf i).toNat)
              case atStart => exact ⟨0, Nat.zero_le _, rfl, rfl, Below.refl _ _⟩
              case round =>
                obtain ⟨j, hj, rfl, rfl, bZ⟩ := hrel
                have BZ := Lib.hid bZ
                by_cases hjn : j < n
                · have j1 : (j : Int) < (n : Int) := by omega
                  have j0 : ¬ (j : Int) < 0 := by omega
                  have ewj : IntKind.i64.wrap ((j : Int) + 1) = (j : Int) + 1 := IntWalk.i64_in _ (by omega)
                  have s1 : wr.cell? ⟨g, j, none⟩ = some (.int .i64 (wAt S j)) := by rw [bZ.cell (p := ⟨g, j, none⟩) RY.out.lt, RY.out.cell (by simp [HLq.out]; exact hjn)]; exact intsL_at _ (by rw [HLq.out]; exact hjn)
                  have p1 : wr.cell? ⟨w.heap.size, j, none⟩ = some (.int .i64 (wAt P j)) := by rw [bZ.cell (p := ⟨w.heap.size, j, none⟩) RN.out.lt, RN.out.cell (by simp [HL.out]; exact hjn)]; exact intsL_at _ (by rw [HL.out]; exact hjn)
                  have l2 : g < wr.heap.size := Nat.lt_of_lt_of_le RY.out.lt bZ.size
                  have l3 : w.heap.size < wr.heap.size := Nat.lt_of_lt_of_le RN.out.lt bZ.size
                  have HS : Hid (furZ (wAt P) (wAt S) (j + 1) = max (max (furZ (wAt P) (wAt S) j) (wAt P j - wAt S j)) (wAt S j - wAt P j)) := rfl
                  have q1 := HNq.out j hjn
                  have q2 := HTq.out j hjn
                  have q3 := HF.out j hj
                  generalize furZ (wAt P) (wAt S) j = F at q3 HS
                  generalize wAt P j = x at p1 q1 HS
                  generalize wAt S j = y at s1 q2 HS
                  have e1 : IntKind.i64.wrap (x - y) = x - y := IntWalk.i64_in _ (by omega)
                  have e2 : IntKind.i64.wrap (y - x) = y - x := IntWalk.i64_in _ (by omega)
                  clear bZ q1 q2 q3
                  go_upto_region 26 with fail
                  go_quiet (fail)
                  go_wp2_with fail
                  go_roundw
                  case rel => exact ⟨j + 1, by omega, by go_num, by rw [HS.out]; congr 1; (repeat' split) <;> omega, below_drewN BZ.out _⟩
                  case measure => simp [intOf]; omega
                · have ej : j = n := by omega
                  subst ej
                  have hge : ¬ (j : Int) < (j : Int) := by omega
                  clear bZ
                  go_wp2_with fail
                  go_ret3
                  rw [HV.out]
                  exact ⟨some ⟨w.heap.size, 0, none⟩, j, by simp only [HL.out]; rfl, (RN.out.below BZ.out RN.out.lt).reads (by simp) (Nat.lt_of_lt_of_le RN.out.lt BZ.out.size), BY.out.trans (BZ.out.mono BY.out.size)⟩
end Go.Proofs.Ytdechfjlbdbbnaa
