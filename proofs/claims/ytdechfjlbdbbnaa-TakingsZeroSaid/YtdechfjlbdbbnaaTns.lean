/- The walk of TakingsZero. Conditions: spendings that read as data. -/
import Derived.Test.YtdechfjlbdbbnaaTnr
import Derived.Test.YtdechfjlbdbbnaaTkn
import Derived.Deep.DeepMust
namespace Go.Proofs.Ytdechfjlbdbbnaa
open Go.RowKit Go.Shelf

theorem balR_bad {n : Int} {l : List SpZ} (h : ¬ chkS n l = 0) : balR n l = ([], chkS n l) := by unfold balR; rw [if_neg h]
theorem balR_good {n : Int} {l : List SpZ} (h : chkS n l = 0) : balR n l = (spendN n.toNat l l.length, 0) := by unfold balR; rw [if_pos h]
set_option maxHeartbeats 8000000 in
set_option maxRecDepth 100000 in
theorem zero_walk {w : World} (n : Int) (l : List SpZ) (rs : List (Option Addr × Nat)) (A : Option Addr) (ca : Nat) (hl : SpIn w w.heap.size A rs l) (l2 : List SpZ) (rs2 : List (Option Addr × Nat)) (A2 : Option Addr) (c2 : Nat) (hl2 : SpIn w w.heap.size A2 rs2 l2) :
    Calls Try.prog 12 #[.int .i64 n, .slice A l.length ca, .slice A2 l2.length c2] w (TrueT w) := by
  obtain ⟨j0, hj, hy0, hy1, hy2⟩ := info_parts Try.info_spent
  have HW : Hid (∀ X, Below w.heap.size w X → Calls Try.prog 20 #[] X fun e w' => e = .returned (.bool true) ∧ Below w.heap.size w w') := fun X hX => (works_any X).mono fun e w' h => ⟨h.1, hX.trans (h.2.mono hX.size)⟩
  have H1 := Lib.hid (Balances_any n l A ca w.heap.size rs w (Nat.le_refl _) hl)
  have H2 : Hid (∀ X, Below w.heap.size w X → Calls Try.prog 23 #[.int .i64 n, .slice A2 l2.length c2] X (TkTo X (balR n l2).1 (balR n l2).2)) := fun X hX => Balances_any n l2 A2 c2 w.heap.size rs2 X hX.size (hl2.below hX)
  have HI1 := Lib.hid hl
  have HI2 := Lib.hid hl2
  have hm1 := hl.len
  have hm2 := hl2.len
  unfold maxLen at hm1 hm2
  clear hl hl2
  by_cases hk1 : ¬ chkS n l = 0
  · rw [balR_bad hk1] at H1
    generalize balR n l2 = R at H2
    obtain ⟨L2, e2⟩ := R
    generalize chkS n l = e1 at H1 hk1
    dsimp only at H1 H2
    go_enter Try.func12, Try.ntmps12
    go_upto_region 2 with (go_at_call 23; (with_reducible refine H1.out.mono ?_); rintro e X ⟨A3, c3, rfl, hr3, hX⟩)
    have HX := Lib.hid hX
    clear hX hr3 H1
    go_upto_region 3 with (go_at_call 23; (with_reducible refine (H2.out X HX.out).mono ?_); rintro e Y ⟨A4, c4, rfl, hr4, hY⟩)
    have HY := Lib.hid (HX.out.trans (hY.mono HX.out.size))
    clear hY hr4 H2
    go_wp2_with (go_at_call 20; refine (HW.out _ HY.out).mono ?_; rintro e w' ⟨rfl, hb⟩; have BW := Lib.hid hb; clear hb)
    go_ret
    exact ⟨rfl, BW.out⟩
  have hk1' : chkS n l = 0 := by omega
  rw [balR_good hk1'] at H1
  by_cases hk2 : ¬ chkS n l2 = 0
  · rw [balR_bad hk2] at H2
    generalize chkS n l2 = e2 at H2 hk2
    dsimp only at H1 H2
    clear hk1 hk1'
    go_enter Try.func12, Try.ntmps12
    go_upto_region 2 with (go_at_call 23; (with_reducible refine H1.out.mono ?_); rintro e X ⟨A3, c3, rfl, hr3, hX⟩)
    have HX := Lib.hid hX
    clear hX hr3 H1
    go_upto_region 3 with (go_at_call 23; (with_reducible refine (H2.out X HX.out).mono ?_); rintro e Y ⟨A4, c4, rfl, hr4, hY⟩)
    have HY := Lib.hid (HX.out.trans (hY.mono HX.out.size))
    clear hY hr4 H2
    go_wp2_with (go_at_call 20; refine (HW.out _ HY.out).mono ?_; rintro e w' ⟨rfl, hb⟩; have BW := Lib.hid hb; clear hb)
    go_ret
    exact ⟨rfl, BW.out⟩
  have hk2' : chkS n l2 = 0 := by omega
  rw [balR_good hk2'] at H2
  obtain ⟨m, rfl, hm0, hm10, h60, ho1⟩ := chkS_ok hk1'
  have h602 : l2.length ≤ 60 := by
    obtain ⟨_, _, _, _, h, _⟩ := chkS_ok hk2'
    exact h
  have ho2 : ∀ k, k < l2.length → SpOk m (spAt l2 k) := by
    obtain ⟨m', e, _, _, _, h⟩ := chkS_ok hk2'
    rw [show m = m' by omega]; exact h
  rw [show (m : Int).toNat = m by omega] at H1 H2
  have hab : IntKind.i64.wrap ((l.length : Int) + (l2.length : Int)) = (l.length : Int) + (l2.length : Int) := IntWalk.i64_in _ (by omega)
  by_cases h12 : 60 < l.length + l2.length
  · have hz : (60 : Int) < (l.length : Int) + (l2.length : Int) := by omega
    dsimp only at H1 H2
    clear hk1 hk1' hk2 hk2' ho1 ho2
    go_enter Try.func12, Try.ntmps12
    go_upto_region 2 with (go_at_call 23; (with_reducible refine H1.out.mono ?_); rintro e X ⟨A3, c3, rfl, hr3, hX⟩)
    have HX := Lib.hid hX
    clear hX hr3 H1
    go_upto_region 3 with (go_at_call 23; (with_reducible refine (H2.out X HX.out).mono ?_); rintro e Y ⟨A4, c4, rfl, hr4, hY⟩)
    have HY := Lib.hid (HX.out.trans (hY.mono HX.out.size))
    clear hY hr4 H2
    go_wp2_with (go_at_call 20; refine (HW.out _ HY.out).mono ?_; rintro e w' ⟨rfl, hb⟩; have BW := Lib.hid hb; clear hb)
    go_ret
    exact ⟨rfl, BW.out⟩
  have hz : ¬ (60 : Int) < (l.length : Int) + (l2.length : Int) := by omega
  have hk3 := chkS_both hk1' hk2' (by omega)
  have hg3 := balR_good hk3
  rw [show (m : Int).toNat = m by omega] at hg3
  have HG3 := Lib.hid hg3
  have hs1 := spend_zeroW hm10 h60 ho1
  have hs2 := spend_zeroW hm10 h602 ho2
  have HBo : Hid (∀ j, j < m → wAt (spendN m (l ++ l2) (l ++ l2).length) j = wAt (spendN m l l.length) j + wAt (spendN m l2 l2.length) j) := fun j hj => spend_both ho1 ho2 hj
  have HBa : Hid (∀ j, j < m → -1000000000000 ≤ wAt (spendN m l l.length) j ∧ wAt (spendN m l l.length) j ≤ 1000000000000) := fun j hj => by
    have := spendN_bd hm10 ho1 l.length (Nat.le_refl _) j hj
    omega
  have HBb : Hid (∀ j, j < m → -1000000000000 ≤ wAt (spendN m l2 l2.length) j ∧ wAt (spendN m l2 l2.length) j ≤ 1000000000000) := fun j hj => by
    have := spendN_bd hm10 ho2 l2.length (Nat.le_refl _) j hj
    omega
  have HFar : Hid (∀ i, i < m → touN l (i : Int) l.length = false → wAt (spendN m l l.length) i = 0) := fun i hi ht => spend_far ho1 hi l.length (Nat.le_refl _) ht
  have HLa := Lib.hid (spendN_len m l l.length)
  have HLb := Lib.hid (spendN_len m l2 l2.length)
  have HLc := Lib.hid (spendN_len m (l ++ l2) (l ++ l2).length)
  dsimp only at H1 H2
  generalize spendN m l l.length = a at H1 hs1 HBo HBa HFar HLa
  generalize spendN m l2 l2.length = b at H2 hs2 HBo HBb HLb
  generalize spendN m (l ++ l2) (l ++ l2).length = bo at HG3 HBo HLc
  clear hk1 hk1' hk2 hk2' hk3 hg3 ho1 ho2
  have hz1 : (0 : Int) = sumW a := hs1.symm
  have HS1 := Lib.hid hs1
  have HS2 := Lib.hid hs2
  clear hs1 hs2 hz1
  go_enter Try.func12, Try.ntmps12
  go_upto_region 2 with (go_at_call 23; (with_reducible refine H1.out.mono ?_); rintro e X ⟨A3, c3, rfl, hr3, hX⟩)
  have HX := Lib.hid hX
  have HR3 := Lib.hid hr3
  clear hX hr3 H1
  go_upto_region 3 with (go_at_call 23; (with_reducible refine (H2.out X HX.out).mono ?_); rintro e Y ⟨A4, c4, rfl, hr4, hY⟩)
  have HY := Lib.hid (HX.out.trans (hY.mono HX.out.size))
  have HR3' := Lib.hid ((HR3.out.below hY).more hY.size)
  have HR4 := Lib.hid hr4
  clear hY hr4 H2 HR3
  have hys := HY.out.size
  have hrd1 := HI1.out.reads.below HY.out
  have po1 := sps_one rs l
  have m1 : 0 + l.length ≤ maxLen := by unfold maxLen; omega
  have m2 : (0 + l.length) * 40 ≤ 140737488355328 := by omega
  go_upto_region 5 with fail
  go_upto_region 6 with (at_builtin; refine wpList_app _ rfl _ _ 34 rfl Y.heap.size 54 j0 _ 3 40 Try.underlying34 hj hy0 hy1 hy2 rfl (by decide) (.slice none 0 0) 0 [] rfl (owns_nil _ _ _ _) w.heap.size A l.length ca (spsL rs l) rfl hrd1 po1 m1 m2 (Nat.le_refl _) ?_)
  intro v1 V1 o1 b1
  have o1' : V1.ownsRow Y.heap.size 54 3 v1 l.length (spsL rs l) := by simpa using o1
  clear o1
  have hrd2 := HI2.out.reads.below (HY.out.trans (b1.mono hys))
  have po2 := sps_one rs2 l2
  have m3 : l.length + l2.length ≤ maxLen := by unfold maxLen; omega
  have m4 : (l.length + l2.length) * 40 ≤ 140737488355328 := by omega
  go_upto_region 6 with (at_builtin; go_must (refine wpList_app _ rfl _ _ 34 rfl Y.heap.size 54 j0 _ 3 40 Try.underlying34 hj hy0 hy1 hy2 rfl (by decide) v1 l.length (spsL rs l) rfl o1' w.heap.size A2 l2.length c2 (spsL rs2 l2) rfl hrd2 po2 m3 m4 b1.size ?_))
  intro v2 V2 o2 b2
  have o2' : V2.ownsRow Y.heap.size 54 3 v2 (l ++ l2).length (spsL rs l ++ spsL rs2 l2) := by simpa using o2
  obtain ⟨A5, c5, rfl, hr5⟩ := nown_rdT o2'
  have b12 := b1.trans b2
  have bV2 := HY.out.trans (b12.mono hys)
  have hin5 := HI1.out.both HI2.out (by unfold maxLen; omega) bV2 bV2.size hr5
  have h5 := Balances_any (m : Int) (l ++ l2) A5 c5 V2.heap.size _ V2 (Nat.le_refl _) hin5
  rw [HG3.out, List.length_append] at h5
  have H5 := Lib.hid h5
  have HV2 := Lib.hid bV2
  have HR3v := Lib.hid ((HR3'.out.below b12).more b12.size)
  have HR4v := Lib.hid ((HR4.out.below b12).more b12.size)
  have HI1v := Lib.hid (HI1.out.below bV2)
  clear hrd1 po1 m1 m2 o1' b1 hrd2 po2 m3 m4 o2 b2 o2' hr5 b12 bV2 hin5 h5 HR3' HR4 hys HI1 HI2
  go_upto_region 6 with (go_at_call 23; (with_reducible refine H5.out.mono ?_); rintro e V ⟨A6, c6, rfl, hr6, hV⟩)
  have HV := Lib.hid (HV2.out.trans (hV.mono HV2.out.size))
  have hra := (HR3v.out.below hV).more hV.size
  have hrb := (HR4v.out.below hV).more hV.size
  have HI1w := Lib.hid (HI1v.out.below (hV.mono HV2.out.size))
  have q1 := rSum_any a A3 a.length c3 V.heap.size V hra (by rw [HLa.out]; unfold maxLen; omega)
  have q2 := rSum_any b A4 b.length c4 V.heap.size V hrb (by rw [HLb.out]; unfold maxLen; omega)
  rw [HS1.out] at q1
  rw [HS2.out] at q2
  have HQ1 := Lib.hid q1
  have HQ2 := Lib.hid q2
  have na : a.length = m := HLa.out
  have nb : b.length = m := HLb.out
  have nc : bo.length = m := HLc.out
  obtain ⟨g1, o1, rfl, gb1, gc1⟩ := cell_at hra (k := 0) (by omega)
  obtain ⟨g2, o2, rfl, gb2, gc2⟩ := cell_at hrb (k := 0) (by omega)
  obtain ⟨g3, o3, rfl, gb3, gc3⟩ := cell_at hr6 (k := 0) (by omega)
  have HVa : Hid (∀ Z, Below V.heap.size V Z → ∀ i, i < m → Z.cell? ⟨g1, o1 + i, none⟩ = some (.int .i64 (wAt a i)) ∧ g1 < Z.heap.size) := fun Z hZ i hi => ⟨by rw [hZ.cell (p := ⟨g1, o1 + i, none⟩) gb1]; exact gc1 i (by omega), Nat.lt_of_lt_of_le gb1 hZ.size⟩
  have HVb : Hid (∀ Z, Below V.heap.size V Z → ∀ i, i < m → Z.cell? ⟨g2, o2 + i, none⟩ = some (.int .i64 (wAt b i)) ∧ g2 < Z.heap.size) := fun Z hZ i hi => ⟨by rw [hZ.cell (p := ⟨g2, o2 + i, none⟩) gb2]; exact gc2 i (by omega), Nat.lt_of_lt_of_le gb2 hZ.size⟩
  have HVc : Hid (∀ Z, Below V.heap.size V Z → ∀ i, i < m → Z.cell? ⟨g3, o3 + i, none⟩ = some (.int .i64 (wAt bo i)) ∧ g3 < Z.heap.size) := fun Z hZ i hi => ⟨by rw [hZ.cell (p := ⟨g3, o3 + i, none⟩) gb3]; exact gc3 i (by omega), Nat.lt_of_lt_of_le gb3 hZ.size⟩
  rw [na] at HQ1
  rw [nb] at HQ2
  clear hV hra hrb hr6 q1 q2 gc1 gc2 gc3 gb1 gb2 gb3 H5 HR3v HR4v HI1v
  rw [na, nb, nc]
  go_upto_region 8 with (first | (go_at_call 27; with_reducible refine HQ1.out.mono ?_; rintro e w' ⟨rfl, rfl⟩) | (go_at_call 27; with_reducible refine HQ2.out.mono ?_; rintro e w' ⟨rfl, rfl⟩))
  have HIx : Hid (∀ Z, Below V.heap.size V Z → SpIn Z w.heap.size A rs l) := fun Z hZ => HI1w.out.below (hZ.mono HV.out.size)
  clear HQ1 HQ2 na nb nc HI1w
  go_wp2_with fail
  go_loopw [12] (fun i wr => ∃ k : Nat, k ≤ m ∧ i = .int .i64 k ∧ Below V.heap.size V wr) (fun i _ => m - (intOf i).toNat)
  case atStart => exact ⟨0, Nat.zero_le _, rfl, Below.refl _ _⟩
  case round =>
    obtain ⟨i, hi, rfl, bI⟩ := hrel
    have HBI := Lib.hid bI
    by_cases him : i < m
    · have HIM := Lib.hid him
      have i1 : (i : Int) < (m : Int) := by omega
      have i0 : ¬ (i : Int) < 0 := by omega
      have ewi : IntKind.i64.wrap ((i : Int) + 1) = (i : Int) + 1 := IntWalk.i64_in _ (by omega)
      obtain ⟨va, la⟩ := HVa.out _ bI i him
      obtain ⟨vb, lb⟩ := HVb.out _ bI i him
      obtain ⟨vc, lc⟩ := HVc.out _ bI i him
      rw [HBo.out i him] at vc
      have hxa := HBa.out i him
      have hxb := HBb.out i him
      have HF := Lib.hid (HFar.out i him)
      have es : IntKind.i64.wrap (wAt a i + wAt b i) = wAt a i + wAt b i := IntWalk.i64_in _ (by omega)
      have HVx : Hid (∀ Z, Below V.heap.size V Z → Z.cell? ⟨g1, o1 + i, none⟩ = some (.int .i64 (wAt a i)) ∧ g1 < Z.heap.size) := fun Z hZ => HVa.out Z hZ i HIM.out
      generalize wAt a i = x at va vc es hxa HF HVx
      generalize wAt b i = y at vb vc es hxb
      clear bI him hxa hxb
      go_upto_region 11 with fail
      go_quiet (fail)
      go_upto_region 14 with fail
      clear va vb vc la lb lc es
      go_wp2_with fail
      go_loopw [13, 14] (fun t i' Z => ∃ (k : Nat) (tb : Bool), k ≤ l.length ∧ i' = .int .i64 k ∧ t = .bool tb ∧ tb = touN l (i : Int) k ∧ Below V.heap.size V Z) (fun _ i' _ => l.length - (intOf i').toNat)
      case atStart => exact ⟨0, false, Nat.zero_le _, rfl, rfl, rfl, below_drewN HBI.out _⟩
      case round =>
        obtain ⟨k, tb, hk, rfl, rfl, htb, bK⟩ := hrel
        have HBK := Lib.hid bK
        have HTB := Lib.hid htb
        by_cases hlt : k < l.length
        · have hlt' : (k : Int) < (l.length : Int) := by omega
          have HLT := Lib.hid hlt
          have k0 : ¬ (k : Int) < 0 := by omega
          have ewk : IntKind.i64.wrap ((k : Int) + 1) = (k : Int) + 1 := IntWalk.i64_in _ (by omega)
          have hIx := HIx.out _ bK
          obtain ⟨bb, oo, rfl, hbb, hcs⟩ := hIx.outer (by omega)
          have hbV : bb < V.heap.size := Nat.lt_of_lt_of_le hbb HV.out.size
          have HCs : Hid (∀ Z, Below V.heap.size V Z → Z.cell? ⟨bb, oo + k * 3 + 2, none⟩ = some (.slice (rs.getD k default).1 (spAt l k).fr.length (rs.getD k default).2) ∧ Reads Z w.heap.size 1 (rs.getD k default).1 (spAt l k).fr.length ((spAt l k).fr.map (Value.int .i64)) ∧ bb < Z.heap.size) := fun Z hZ => by
            have h := HIx.out Z hZ
            obtain ⟨b', o', e, _, hc⟩ := h.outer (by omega)
            simp only [Option.some.injEq, Addr.mk.injEq, and_true] at e
            obtain ⟨rfl, rfl⟩ := e
            exact ⟨(hc k HLT.out).2.2, h.inner k HLT.out, Nat.lt_of_lt_of_le hbV hZ.size⟩
          have p0 := (hcs k hlt).1
          have lbb : bb < wr.heap.size := Nat.lt_of_lt_of_le hbV bK.size
          have HN : Hid (touN l (i : Int) (k + 1) = (touN l (i : Int) k || decide ((spAt l k).by_ = (i : Int)) || touF (spAt l k).fr (i : Int) (spAt l k).fr.length)) := rfl
          have hll := hIx.lens k hlt
          unfold maxLen at hll
          generalize spAt l k = s at HCs p0 HN hll
          generalize rs.getD k default = q at HCs
          obtain ⟨A9, c9⟩ := q
          obtain ⟨f, c, fr⟩ := s
          dsimp only at HCs p0 HN hll
          obtain ⟨T, hT⟩ : ∃ T, T = (tb || decide (f = (i : Int))) := ⟨_, rfl⟩
          have HT := Lib.hid hT
          have HN' : Hid (touN l (i : Int) (k + 1) = (T || touF fr (i : Int) fr.length)) := by show _ = _; rw [HN.out, ← HTB.out, hT]
          clear hcs hIx bK htb hT hbb hbV hlt HN
          have h1 : (tb = true ∧ T = true) ∨ (tb = false ∧ f = (i : Int) ∧ T = true) ∨ (tb = false ∧ ¬ f = (i : Int) ∧ T = false) := by
            rw [HT.out]
            cases tb
            · by_cases e : f = (i : Int)
              · exact .inr (.inl ⟨rfl, e, by rw [decide_eq_true e]; rfl⟩)
              · exact .inr (.inr ⟨rfl, e, by rw [decide_eq_false e]; rfl⟩)
            · exact .inl ⟨rfl, rfl⟩
          rcases h1 with h1 | h1 | h1
          · obtain ⟨rfl, HTv⟩ := h1
            have HTv := Lib.hid HTv
            clear HT
            go_upto_region 18 with fail
            clear p0
            go_wp2_with fail
            go_loopw [13, 15] (fun t i' Z => ∃ (j : Nat) (tb : Bool), j ≤ fr.length ∧ i' = .int .i64 j ∧ t = .bool tb ∧ tb = (T || touF fr (i : Int) j) ∧ Below V.heap.size V Z) (fun _ i' _ => fr.length - (intOf i').toNat)
            case atStart => exact ⟨0, true, Nat.zero_le _, rfl, rfl, by rw [HTv.out]; rfl, HBK.out⟩
            case round =>
              obtain ⟨j, tc, hj, rfl, rfl, htc, bJ⟩ := hrel
              have HBJ := Lib.hid bJ
              have HTC := Lib.hid htc
              obtain ⟨cs2, hrd, lz⟩ := HCs.out _ bJ
              by_cases hjn : j < fr.length
              · have HJN := Lib.hid hjn
                have jj1 : (j : Int) < (fr.length : Int) := by omega
                have jj0 : ¬ (j : Int) < 0 := by omega
                have ewj : IntKind.i64.wrap ((j : Int) + 1) = (j : Int) + 1 := IntWalk.i64_in _ (by omega)
                obtain ⟨b9, o9, rfl, hb9, hc9⟩ := cell_at hrd hjn
                have v9 := hc9 j hjn
                have l9 : b9 < wr.heap.size := Nat.lt_of_lt_of_le hb9 (Nat.le_trans HV.out.size bJ.size)
                have HTn : Hid (touF fr (i : Int) (j + 1) = (touF fr (i : Int) j || decide (wAt fr j = (i : Int)))) := rfl
                generalize wAt fr j = x at v9 HTn
                clear bJ htc hrd hb9 hc9 hjn
                cases tc with
                | true =>
                  go_wp2_with fail
                  go_roundw
                  case rel => exact ⟨j + 1, true, by have := HJN.out; omega, by go_num, rfl, by rw [HTn.out, ← Bool.or_assoc, ← HTC.out]; rfl, HBJ.out⟩
                  case measure => have := HJN.out; simp [intOf]; omega
                | false =>
                  by_cases hx : x = (i : Int)
                  · subst hx
                    go_wp2_with fail
                    go_roundw
                    case rel => exact ⟨j + 1, true, by have := HJN.out; omega, by go_num, rfl, by rw [HTn.out, ← Bool.or_assoc, ← HTC.out]; simp, HBJ.out⟩
                    case measure => have := HJN.out; simp [intOf]; omega
                  · have HX9 := Lib.hid (decide_eq_false hx)
                    have hxb : (x == (i : Int)) = false := by simpa using hx
                    go_wp2_with fail
                    go_roundw
                    case rel => exact ⟨j + 1, false, by have := HJN.out; omega, by go_num, rfl, by rw [HTn.out, ← Bool.or_assoc, ← HTC.out, HX9.out]; rfl, HBJ.out⟩
                    case measure => have := HJN.out; simp [intOf]; omega
              · have ej : j = fr.length := by omega
                have hge : ¬ (j : Int) < (fr.length : Int) := by omega
                have HTD : Hid (tc = touN l (i : Int) (k + 1)) := by show _ = _; rw [HN'.out, htc, ej]
                clear bJ htc hrd ej HTC
                go_wp2_with fail
                go_roundw
                case rel => exact ⟨k + 1, tc, by have := HLT.out; omega, by go_num, rfl, HTD.out, HBJ.out⟩
                case measure => have := HLT.out; simp [intOf]; omega
          · obtain ⟨rfl, rfl, HTv⟩ := h1
            have HTv := Lib.hid HTv
            clear HT
            go_upto_region 18 with fail
            clear p0
            go_wp2_with fail
            go_loopw [13, 15] (fun t i' Z => ∃ (j : Nat) (tb : Bool), j ≤ fr.length ∧ i' = .int .i64 j ∧ t = .bool tb ∧ tb = (T || touF fr (i : Int) j) ∧ Below V.heap.size V Z) (fun _ i' _ => fr.length - (intOf i').toNat)
            case atStart => exact ⟨0, true, Nat.zero_le _, rfl, rfl, by rw [HTv.out]; rfl, HBK.out⟩
            case round =>
              obtain ⟨j, tc, hj, rfl, rfl, htc, bJ⟩ := hrel
              have HBJ := Lib.hid bJ
              have HTC := Lib.hid htc
              obtain ⟨cs2, hrd, lz⟩ := HCs.out _ bJ
              by_cases hjn : j < fr.length
              · have HJN := Lib.hid hjn
                have jj1 : (j : Int) < (fr.length : Int) := by omega
                have jj0 : ¬ (j : Int) < 0 := by omega
                have ewj : IntKind.i64.wrap ((j : Int) + 1) = (j : Int) + 1 := IntWalk.i64_in _ (by omega)
                obtain ⟨b9, o9, rfl, hb9, hc9⟩ := cell_at hrd hjn
                have v9 := hc9 j hjn
                have l9 : b9 < wr.heap.size := Nat.lt_of_lt_of_le hb9 (Nat.le_trans HV.out.size bJ.size)
                have HTn : Hid (touF fr (i : Int) (j + 1) = (touF fr (i : Int) j || decide (wAt fr j = (i : Int)))) := rfl
                generalize wAt fr j = x at v9 HTn
                clear bJ htc hrd hb9 hc9 hjn
                cases tc with
                | true =>
                  go_wp2_with fail
                  go_roundw
                  case rel => exact ⟨j + 1, true, by have := HJN.out; omega, by go_num, rfl, by rw [HTn.out, ← Bool.or_assoc, ← HTC.out]; rfl, HBJ.out⟩
                  case measure => have := HJN.out; simp [intOf]; omega
                | false =>
                  by_cases hx : x = (i : Int)
                  · subst hx
                    go_wp2_with fail
                    go_roundw
                    case rel => exact ⟨j + 1, true, by have := HJN.out; omega, by go_num, rfl, by rw [HTn.out, ← Bool.or_assoc, ← HTC.out]; simp, HBJ.out⟩
                    case measure => have := HJN.out; simp [intOf]; omega
                  · have HX9 := Lib.hid (decide_eq_false hx)
                    have hxb : (x == (i : Int)) = false := by simpa using hx
                    go_wp2_with fail
                    go_roundw
                    case rel => exact ⟨j + 1, false, by have := HJN.out; omega, by go_num, rfl, by rw [HTn.out, ← Bool.or_assoc, ← HTC.out, HX9.out]; rfl, HBJ.out⟩
                    case measure => have := HJN.out; simp [intOf]; omega
              · have ej : j = fr.length := by omega
                have hge : ¬ (j : Int) < (fr.length : Int) := by omega
                have HTD : Hid (tc = touN l (i : Int) (k + 1)) := by show _ = _; rw [HN'.out, htc, ej]
                clear bJ htc hrd ej HTC
                go_wp2_with fail
                go_roundw
                case rel => exact ⟨k + 1, tc, by have := HLT.out; omega, by go_num, rfl, HTD.out, HBJ.out⟩
                case measure => have := HLT.out; simp [intOf]; omega
          · obtain ⟨rfl, hfi, HTv⟩ := h1
            have hfb : (f == (i : Int)) = false := by simpa using hfi
            have HTv := Lib.hid HTv
            clear HT
            go_upto_region 18 with fail
            clear p0
            go_wp2_with fail
            go_loopw [13, 15] (fun t i' Z => ∃ (j : Nat) (tb : Bool), j ≤ fr.length ∧ i' = .int .i64 j ∧ t = .bool tb ∧ tb = (T || touF fr (i : Int) j) ∧ Below V.heap.size V Z) (fun _ i' _ => fr.length - (intOf i').toNat)
            case atStart => exact ⟨0, false, Nat.zero_le _, rfl, rfl, by rw [HTv.out]; rfl, HBK.out⟩
            case round =>
              obtain ⟨j, tc, hj, rfl, rfl, htc, bJ⟩ := hrel
              have HBJ := Lib.hid bJ
              have HTC := Lib.hid htc
              obtain ⟨cs2, hrd, lz⟩ := HCs.out _ bJ
              by_cases hjn : j < fr.length
              · have HJN := Lib.hid hjn
                have jj1 : (j : Int) < (fr.length : Int) := by omega
                have jj0 : ¬ (j : Int) < 0 := by omega
                have ewj : IntKind.i64.wrap ((j : Int) + 1) = (j : Int) + 1 := IntWalk.i64_in _ (by omega)
                obtain ⟨b9, o9, rfl, hb9, hc9⟩ := cell_at hrd hjn
                have v9 := hc9 j hjn
                have l9 : b9 < wr.heap.size := Nat.lt_of_lt_of_le hb9 (Nat.le_trans HV.out.size bJ.size)
                have HTn : Hid (touF fr (i : Int) (j + 1) = (touF fr (i : Int) j || decide (wAt fr j = (i : Int)))) := rfl
                generalize wAt fr j = x at v9 HTn
                clear bJ htc hrd hb9 hc9 hjn
                cases tc with
                | true =>
                  go_wp2_with fail
                  go_roundw
                  case rel => exact ⟨j + 1, true, by have := HJN.out; omega, by go_num, rfl, by rw [HTn.out, ← Bool.or_assoc, ← HTC.out]; rfl, HBJ.out⟩
                  case measure => have := HJN.out; simp [intOf]; omega
                | false =>
                  by_cases hx : x = (i : Int)
                  · subst hx
                    go_wp2_with fail
                    go_roundw
                    case rel => exact ⟨j + 1, true, by have := HJN.out; omega, by go_num, rfl, by rw [HTn.out, ← Bool.or_assoc, ← HTC.out]; simp, HBJ.out⟩
                    case measure => have := HJN.out; simp [intOf]; omega
                  · have HX9 := Lib.hid (decide_eq_false hx)
                    have hxb : (x == (i : Int)) = false := by simpa using hx
                    go_wp2_with fail
                    go_roundw
                    case rel => exact ⟨j + 1, false, by have := HJN.out; omega, by go_num, rfl, by rw [HTn.out, ← Bool.or_assoc, ← HTC.out, HX9.out]; rfl, HBJ.out⟩
                    case measure => have := HJN.out; simp [intOf]; omega
              · have ej : j = fr.length := by omega
                have hge : ¬ (j : Int) < (fr.length : Int) := by omega
                have HTD : Hid (tc = touN l (i : Int) (k + 1)) := by show _ = _; rw [HN'.out, htc, ej]
                clear bJ htc hrd ej HTC
                go_wp2_with fail
                go_roundw
                case rel => exact ⟨k + 1, tc, by have := HLT.out; omega, by go_num, rfl, HTD.out, HBJ.out⟩
                case measure => have := HLT.out; simp [intOf]; omega
        · have ek : k = l.length := by omega
          have hge : ¬ (k : Int) < (l.length : Int) := by omega
          obtain ⟨va, la⟩ := HVx.out _ bK
          rw [ek] at htb
          clear ek bK HTB
          cases tb with
          | true =>
            clear htb
            go_wp2_with fail
            go_roundw
            case rel => exact ⟨i + 1, by have := HIM.out; omega, by go_num, HBK.out⟩
            case measure => have := HIM.out; simp [intOf]; omega
          | false =>
            have hx0 := HF.out htb.symm
            subst hx0
            clear htb
            go_wp2_with fail
            go_roundw
            case rel => exact ⟨i + 1, by have := HIM.out; omega, by go_num, HBK.out⟩
            case measure => have := HIM.out; simp [intOf]; omega
    · have e : i = m := by omega
      have hge : ¬ (i : Int) < (m : Int) := by omega
      have HBw := Lib.hid (HV.out.trans (bI.mono HV.out.size))
      clear bI e
      go_wp2_with (go_at_call 20; refine (HW.out _ HBw.out).mono ?_; rintro e w' ⟨rfl, hb⟩; have BW := Lib.hid hb; clear hb)
      go_ret
      exact ⟨rfl, BW.out⟩
end Go.Proofs.Ytdechfjlbdbbnaa
