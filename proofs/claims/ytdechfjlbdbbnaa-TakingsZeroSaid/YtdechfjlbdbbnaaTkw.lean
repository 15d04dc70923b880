/- The walk of TakingsExact. Conditions: numbers that read as data. -/
import Derived.Test.YtdechfjlbdbbnaaTkv
import Derived.Test.YtdechfjlbdbbnaaTkn
namespace Go.Proofs.Ytdechfjlbdbbnaa
open Go.RowKit Go.Shelf

theorem cell_at {X : World} {B : Nat} {A : Option Addr} {l : List Int} {n : Nat} (h : Reads X B 1 A n (l.map (Value.int .i64))) {k : Nat} (hk : k < n) : ∃ b o, A = some ⟨b, o, none⟩ ∧ b < B ∧ ∀ j, j < n → X.cell? ⟨b, o + j, none⟩ = some (.int .i64 (wAt l j)) := by
  obtain ⟨b, o, e, hb, hc⟩ := h.at1 hk
  exact ⟨b, o, e, hb, fun j hj => hc j hj⟩
theorem splR_cases (c : Int) (ws : List Int) : ((splR c ws).1 = [] ∧ (splR c ws).2 ≠ 0) ∨ (splR c ws = (splitZ c ws, 0) ∧ WOk ws ∧ 0 ≤ c ∧ c ≤ 1000000000) := by
  unfold splR
  by_cases h1 : inB c 0 1000000000 = false
  · rw [if_pos h1]; exact .inl ⟨rfl, by decide⟩
  rw [if_neg h1]
  by_cases h2 : wOk ws = false
  · rw [if_pos h2]; exact .inl ⟨rfl, by decide⟩
  rw [if_neg h2]
  have hc := inB_le (x := c) (lo := 0) (hi := 1000000000) (by simpa using h1)
  exact .inr ⟨rfl, wOk_of (by simpa using h2), hc.1, hc.2⟩
theorem clmR_cases (c : Int) (cl ws : List Int) : ((clmR c cl ws).2.2 ≠ 0) ∨ (clmR c cl ws = (paidL c cl, splitZ (remZ c cl cl.length) ws, 0) ∧ cl.length ≤ 10 ∧ ∀ i, i < cl.length → 0 ≤ wAt cl i ∧ wAt cl i ≤ 1000000000) := by
  unfold clmR
  by_cases h1 : clmB c cl = false
  · rw [if_pos h1]; exact .inl (by decide)
  rw [if_neg h1]
  by_cases h2 : wOk ws = false
  · rw [if_pos h2]; exact .inl (by decide)
  rw [if_neg h2]
  have hb : clmB c cl = true := by simpa using h1
  unfold clmB at hb
  simp only [Bool.and_eq_true, decide_eq_true_eq] at hb
  exact .inr ⟨rfl, hb.1.2, fun i hi => allB_at hb.2 hi⟩
/-- Is one of the first claims not paid in full? -/
def shortB (c : Int) (cl : List Int) : Nat → Bool
  | 0 => false
  | k + 1 => shortB c cl k || decide (wAt (paidL c cl) k < wAt cl k)
theorem short_rem {c : Int} {cl : List Int} (h0 : 0 ≤ c) (hc : ∀ i, i < cl.length → 0 ≤ wAt cl i) : ∀ k, k ≤ cl.length → shortB c cl k = true → remZ c cl k = 0 := by
  intro k
  induction k with
  | zero => intro _ h; cases h
  | succ k ih =>
    intro hk h
    simp only [shortB, Bool.or_eq_true, decide_eq_true_eq] at h
    rcases h with h | h
    · exact rem_zero hc (ih (by omega) h) (k + 1) (by omega) hk
    · exact short_zero h0 hc (by omega) h
set_option maxHeartbeats 8000000 in
set_option maxRecDepth 100000 in
theorem exact_walk {w : World} (c : Int) (cl : List Int) (A : Option Addr) (ca : Nat) (hr : Reads w w.heap.size 1 A cl.length (cl.map (Value.int .i64))) (hm : cl.length ≤ maxLen) (ws : List Int) (A2 : Option Addr) (c2 : Nat) (hr2 : Reads w w.heap.size 1 A2 ws.length (ws.map (Value.int .i64))) (hm2 : ws.length ≤ maxLen) :
    Calls Try.prog 10 #[.int .i64 c, .slice A cl.length ca, .slice A2 ws.length c2] w (TrueT w) := by
  have HW : Hid (∀ X, Below w.heap.size w X → Calls Try.prog 20 #[] X fun e w' => e = .returned (.bool true) ∧ Below w.heap.size w w') := fun X hX => (works_any X).mono fun e w' h => ⟨h.1, hX.trans (h.2.mono hX.size)⟩
  have B0 := Lib.hid (Below.refl w.heap.size w)
  have HSp := Split_any c ws A2 c2 w.heap.size w (Nat.le_refl _) hr2 hm2
  rcases splR_cases c ws with ⟨g1, g2⟩ | ⟨g1, hok, h0, h1⟩
  · rw [g1] at HSp
    generalize (splR c ws).2 = k at HSp g2
    have HC := Lib.hid HSp
    clear HSp g1 hr hr2
    go_enter Try.func10, Try.ntmps10
    go_upto_region 2 with (go_at_call 15; refine HC.out.mono ?_; rintro e X ⟨A', c', rfl, hrd', hX⟩; have BX := Lib.hid hX; clear hX hrd' HC)
    go_wp2_with (go_at_call 20; refine (HW.out _ BX.out).mono ?_; rintro e w' ⟨rfl, hb⟩; have BW := Lib.hid hb; clear hb)
    go_ret
    exact ⟨rfl, BW.out⟩
  rw [g1] at HSp
  have HC := Lib.hid HSp
  have HCl : Hid (∀ X, Below w.heap.size w X → Calls Try.prog 18 #[.int .i64 c, .slice A cl.length ca, .slice A2 ws.length c2] X (TkTo2 X (clmR c cl ws).1 (clmR c cl ws).2.1 (clmR c cl ws).2.2)) := fun X hX => Claims_any c cl ws A A2 ca c2 w.heap.size X hX.size (hr.below hX) hm (hr2.below hX) hm2
  have HOk := Lib.hid hok
  have hrd2 := Lib.hid hr2
  have hrd := Lib.hid hr
  have hln := splitZ_ln c ws
  have hsum := split_sumW hok h0 h1
  have hT := hok.pos
  have hT1 : ¬ sumW ws < 1 := by omega
  have hn1 := hok.l1
  have hn10 := hok.l10
  clear HSp g1 hr hr2 hok
  go_enter Try.func10, Try.ntmps10
  go_upto_region 2 with (go_at_call 15; refine HC.out.mono ?_; rintro e X ⟨A1, c1, rfl, hrd1, hX⟩)
  rw [hln] at hrd1
  have HS1 := Lib.hid (rSum_any ws A2 ws.length c2 w.heap.size X (hrd2.out.below hX) hm2)
  have hs2 := rSum_any (splitZ c ws) A1 ws.length c1 X.heap.size X hrd1 hm2
  rw [hsum] at hs2
  have HS2 := Lib.hid hs2
  have HX := Lib.hid hX
  have HD1 := Lib.hid hrd1
  have HLn := Lib.hid hln
  clear hX hrd1 hs2 hsum HC hln
  go_upto_region 7 with (first | (go_at_call 27; with_reducible refine HS1.out.mono ?_; rintro e w' ⟨rfl, rfl⟩) | (go_at_call 27; with_reducible refine HS2.out.mono ?_; rintro e w' ⟨rfl, rfl⟩))
  clear HS1 HS2 hT1
  go_wp2_with fail
  go_loopw [10] (fun i wr => ∃ k : Nat, k ≤ ws.length ∧ i = .int .i64 k ∧ Below X.heap.size X wr) (fun i _ => ws.length - (intOf i).toNat)
  case atStart => exact ⟨0, Nat.zero_le _, rfl, Below.refl _ _⟩
  case round =>
    obtain ⟨k, hk, rfl, hbel⟩ := hrel
    have Hbe := Lib.hid hbel
    by_cases hlt : k < ws.length
    · have hlt' : (k : Int) < (ws.length : Int) := by omega
      have i0 : ¬ (k : Int) < 0 := by omega
      have ew : IntKind.i64.wrap ((k : Int) + 1) = (k : Int) + 1 := IntWalk.i64_in _ (by omega)
      obtain ⟨b, o, rfl, hbB, hcw⟩ := cell_at hrd2.out hlt
      obtain ⟨b1, o1, rfl, hbB1, hcp⟩ := cell_at HD1.out hlt
      have HVW : Hid (∀ Z, Below X.heap.size X Z → ∀ j, j < ws.length → Z.cell? ⟨b, o + j, none⟩ = some (.int .i64 (wAt ws j)) ∧ b < Z.heap.size) := fun Z hZ j hj => ⟨by rw [(HX.out.trans (hZ.mono HX.out.size)).cell (p := ⟨b, o + j, none⟩) hbB]; exact hcw j hj, Nat.lt_of_lt_of_le hbB (Nat.le_trans HX.out.size hZ.size)⟩
      have HVP : Hid (∀ Z, Below X.heap.size X Z → ∀ j, j < ws.length → Z.cell? ⟨b1, o1 + j, none⟩ = some (.int .i64 (wAt (splitZ c ws) j)) ∧ b1 < Z.heap.size) := fun Z hZ j hj => ⟨by rw [hZ.cell (p := ⟨b1, o1 + j, none⟩) hbB1]; exact hcp j hj, Nat.lt_of_lt_of_le hbB1 hZ.size⟩
      obtain ⟨v0, lv0⟩ := HVW.out wr hbel k hlt
      obtain ⟨v1, lv1⟩ := HVP.out wr hbel k hlt
      have hm3 := share_bd HOk.out h0 h1 k hlt
      have HD := Lib.hid (flo_cut HOk.out h0 k hlt)
      obtain ⟨p1, p2, p3⟩ := part_bd HOk.out h0 hlt
      have e1 : IntKind.i64.wrap (c * wAt ws k) = c * wAt ws k := IntWalk.i64_in _ (by omega)
      have hle : floZ c ws k ≤ c * wAt ws k := Int.ediv_le_self _ hm3.1
      have e2 : IntKind.i64.wrap ((c * wAt ws k).tdiv (sumW ws)) = floZ c ws k := by
        rw [Int.tdiv_eq_ediv_of_nonneg hm3.1]
        exact IntWalk.i64_in _ ⟨by have := HD.out.2.2.2; unfold floZ at this; omega, by unfold floZ at hle; omega⟩
      have hz : ¬ sumW ws = 0 := by omega
      have hq0 := HD.out.2.2.2
      have ewq : IntKind.i64.wrap (floZ c ws k + 1) = floZ c ws k + 1 := IntWalk.i64_in _ (by omega)
      have hcz : floZ c ws k < wAt (splitZ c ws) k → ¬ c * wAt ws k % sumW ws = 0 := p3
      have HYk : Hid (∀ m, m < k → wAt ws m = wAt ws k → wAt (splitZ c ws) k ≤ wAt (splitZ c ws) m ∧ wAt (splitZ c ws) m ≤ wAt (splitZ c ws) k + 1) := fun m hm he => part_same hlt hm he
      have hYb : wAt (splitZ c ws) k ≤ 10000000000000 ∧ 0 ≤ wAt (splitZ c ws) k := by omega
      have HYb := Lib.hid hYb
      generalize wAt (splitZ c ws) k = y at v1 p1 p2 hcz HYk HYb
      have d1 : ¬ y < floZ c ws k := by omega
      have d2 : ¬ floZ c ws k + 1 < y := by omega
      have HMU : Hid (True) := trivial
      generalize wAt ws k = x at v0 e1 e2 hcz HYk hm3 hle
      clear p1 p2 p3 hYb hcw hcp hbel hle hq0
      have Hcut : Hid (∀ Z, Below X.heap.size X Z → Z.cell? ⟨b, o + k, none⟩ = some (.int .i64 x) ∧ Z.cell? ⟨b1, o1 + k, none⟩ = some (.int .i64 y)) := fun Z hZ => ⟨by rw [hZ.cell (p := ⟨b, o + k, none⟩) (Nat.lt_of_lt_of_le hbB HX.out.size), ← Hbe.out.cell (p := ⟨b, o + k, none⟩) (Nat.lt_of_lt_of_le hbB HX.out.size)]; exact v0, by rw [hZ.cell (p := ⟨b1, o1 + k, none⟩) hbB1, ← Hbe.out.cell (p := ⟨b1, o1 + k, none⟩) hbB1]; exact v1⟩
      by_cases hqy : floZ c ws k < y
      · have hcz2 : ((c * x).tmod (sumW ws) == 0) = false := by
          rw [Int.tmod_eq_emod_of_nonneg hm3.1]
          have := hcz hqy
          simpa using this
        clear hcz hm3
        go_upto_region 13 with fail
        go_wp2_with fail
        go_loopw [12] (fun i Z => ∃ m : Nat, m ≤ k ∧ i = .int .i64 m ∧ Below X.heap.size X Z) (fun i _ => k - (intOf i).toNat)
        case atStart => exact ⟨0, Nat.zero_le _, rfl, Hbe.out⟩
        case round =>
          obtain ⟨m, hmk, rfl, hbZ⟩ := hrel
          have HbZ := Lib.hid hbZ
          by_cases hmlt : m < k
          · have hmlt' : (m : Int) < (k : Int) := by omega
            have mw : (m : Int) < (ws.length : Int) := by omega
            have m0 : ¬ (m : Int) < 0 := by omega
            have ewm : IntKind.i64.wrap ((m : Int) + 1) = (m : Int) + 1 := IntWalk.i64_in _ (by omega)
            obtain ⟨u0, lu0⟩ := HVW.out wr hbZ m (by omega)
            obtain ⟨u1, lu1⟩ := HVP.out wr hbZ m (by omega)
            obtain ⟨u2, u3⟩ := Hcut.out wr hbZ
            have hy5 := HYk.out m hmlt
            have ewy : IntKind.i64.wrap (y + 1) = y + 1 := IntWalk.i64_in _ (by have := HYb.out; omega)
            generalize wAt (splitZ c ws) m = ym at u1 hy5
            generalize wAt ws m = xm at u0 hy5
            clear hbZ
            by_cases he : xm = x
            · obtain ⟨a1, a2⟩ := hy5 he
              have g1 : ¬ ym < y := by omega
              have g2 : ¬ y + 1 < ym := by omega
              have HE := Lib.hid he
              subst he
              clear hy5 a1 a2
              go_upto_region 16 with fail
              go_quiet (fail)
              go_wp2_with fail
              go_roundw
              case rel => exact ⟨m + 1, by omega, by go_num, below_drewN HbZ.out _⟩
              case measure => simp [intOf]; omega
            · have g1 : (xm == x) = false := by simpa using he
              clear hy5
              go_upto_region 16 with fail
              go_quiet (fail)
              go_wp2_with fail
              go_roundw
              case rel => exact ⟨m + 1, by omega, by go_num, below_drewN HbZ.out _⟩
              case measure => simp [intOf]; omega
          · have hge2 : ¬ (m : Int) < (k : Int) := by omega
            clear hbZ
            go_wp2_with fail
            go_roundw
            case rel => exact ⟨k + 1, by omega, by go_num, HbZ.out⟩
            case measure => simp [intOf]; omega
      · clear hcz hm3
        go_upto_region 13 with fail
        go_wp2_with fail
        go_loopw [12] (fun i Z => ∃ m : Nat, m ≤ k ∧ i = .int .i64 m ∧ Below X.heap.size X Z) (fun i _ => k - (intOf i).toNat)
        case atStart => exact ⟨0, Nat.zero_le _, rfl, Hbe.out⟩
        case round =>
          obtain ⟨m, hmk, rfl, hbZ⟩ := hrel
          have HbZ := Lib.hid hbZ
          by_cases hmlt : m < k
          · have hmlt' : (m : Int) < (k : Int) := by omega
            have mw : (m : Int) < (ws.length : Int) := by omega
            have m0 : ¬ (m : Int) < 0 := by omega
            have ewm : IntKind.i64.wrap ((m : Int) + 1) = (m : Int) + 1 := IntWalk.i64_in _ (by omega)
            obtain ⟨u0, lu0⟩ := HVW.out wr hbZ m (by omega)
            obtain ⟨u1, lu1⟩ := HVP.out wr hbZ m (by omega)
            obtain ⟨u2, u3⟩ := Hcut.out wr hbZ
            have hy5 := HYk.out m hmlt
            have ewy : IntKind.i64.wrap (y + 1) = y + 1 := IntWalk.i64_in _ (by have := HYb.out; omega)
            generalize wAt (splitZ c ws) m = ym at u1 hy5
            generalize wAt ws m = xm at u0 hy5
            clear hbZ
            by_cases he : xm = x
            · obtain ⟨a1, a2⟩ := hy5 he
              have g1 : ¬ ym < y := by omega
              have g2 : ¬ y + 1 < ym := by omega
              have HE := Lib.hid he
              subst he
              clear hy5 a1 a2
              go_upto_region 16 with fail
              go_quiet (fail)
              go_wp2_with fail
              go_roundw
              case rel => exact ⟨m + 1, by omega, by go_num, below_drewN HbZ.out _⟩
              case measure => simp [intOf]; omega
            · have g1 : (xm == x) = false := by simpa using he
              clear hy5
              go_upto_region 16 with fail
              go_quiet (fail)
              go_wp2_with fail
              go_roundw
              case rel => exact ⟨m + 1, by omega, by go_num, below_drewN HbZ.out _⟩
              case measure => simp [intOf]; omega
          · have hge2 : ¬ (m : Int) < (k : Int) := by omega
            clear hbZ
            go_wp2_with fail
            go_roundw
            case rel => exact ⟨k + 1, by omega, by go_num, HbZ.out⟩
            case measure => simp [intOf]; omega
    · have hge : ¬ (k : Int) < (ws.length : Int) := by omega
      have HX2 := Lib.hid (HX.out.trans (hbel.mono HX.out.size))
      have HC2 := Lib.hid (HCl.out wr HX2.out)
      clear hbel
      rcases clmR_cases c cl ws with g2 | ⟨g1, h10, hcl⟩
      · generalize clmR c cl ws = R at HC2 g2
        obtain ⟨R1, R2, R3⟩ := R
        dsimp only at g2 HC2
        go_upto_region 19 with (go_at_call 18; refine HC2.out.mono ?_; rintro e Y ⟨A3, c3, A4, c4, rfl, hr3, hr4, hY⟩; have BX := Lib.hid (HX2.out.trans (hY.mono HX2.out.size)); clear hY hr3 hr4 HC2)
        go_wp2_with (go_at_call 20; refine (HW.out _ BX.out).mono ?_; rintro e w' ⟨rfl, hb⟩; have BW := Lib.hid hb; clear hb)
        go_ret
        exact ⟨rfl, BW.out⟩
      rw [g1] at HC2
      clear g1
      go_upto_region 19 with (go_at_call 18; refine HC2.out.mono ?_; rintro e Y ⟨A3, c3, A4, c4, rfl, hr3, hr4, hY⟩)
      have hlp := paidL_len c cl
      have hls := splitZ_ln (remZ c cl cl.length) ws
      simp only [hlp, hls] at hr3 hr4 ⊢
      have hrb := rem_bd h0 (fun i hi => (hcl i hi).1) cl.length (Nat.le_refl _)
      have hps := paid_sum c cl cl.length (Nat.le_refl _)
      have hpl : sumW (paidL c cl) = c - remZ c cl cl.length := by
        have e := sumW_eq (zs := paidL c cl) (fun i hi => by rw [hlp] at hi; rw [paidL_at c cl hi]; have a := (hcl i hi).1; have b := (rem_bd h0 (fun i hi => (hcl i hi).1) i (by omega)).1; omega) (by rw [hlp]; omega)
        rw [e, hlp]; omega
      have hss : sumW (splitZ (remZ c cl cl.length) ws) = remZ c cl cl.length := split_sumW HOk.out hrb.1 (by omega)
      have hs3 := rSum_any (paidL c cl) A3 cl.length c3 Y.heap.size Y hr3 hm
      have hs4 := rSum_any (splitZ (remZ c cl cl.length) ws) A4 ws.length c4 Y.heap.size Y hr4 hm2
      have hs5 := fun Z (hZ : Below Y.heap.size Y Z) => rSum_any (splitZ (remZ c cl cl.length) ws) A4 ws.length c4 Y.heap.size Z (hr4.below hZ) hm2
      rw [hss] at hs5
      rw [hpl] at hs3
      rw [hss] at hs4
      have HSh : Hid (∀ k, k ≤ cl.length → shortB c cl k = true → remZ c cl k = 0) := fun k hk h => short_rem h0 (fun i hi => (hcl i hi).1) k hk h
      have HRb : Hid (∀ k, k ≤ cl.length → 0 ≤ remZ c cl k) := fun k hk => (rem_bd h0 (fun i hi => (hcl i hi).1) k hk).1
      have HSn := Lib.hid (HSh.out cl.length (Nat.le_refl _))
      generalize remZ c cl cl.length = r at hrb hs3 hs4 hs5 HSn
      have ewr : IntKind.i64.wrap (c - r + r) = c := by rw [show c - r + r = c by omega]; exact IntWalk.i64_in _ (by omega)
      have HS3 := Lib.hid hs3
      have HS4 := Lib.hid hs4
      have HS5 := Lib.hid hs5
      have HY := Lib.hid (HX2.out.trans (hY.mono HX2.out.size))
      have HD3 := Lib.hid hr3
      have HCL := Lib.hid hcl
      clear hs3 hs4 hs5 hpl hss hps hr3 hr4 hY hlp hls hcl hrb
      go_upto_region 23 with (first | (go_at_call 27; with_reducible refine HS3.out.mono ?_; rintro e w' ⟨rfl, rfl⟩) | (go_at_call 27; with_reducible refine HS4.out.mono ?_; rintro e w' ⟨rfl, rfl⟩))
      clear ewr HS3 HS4
      go_wp2_with fail
      go_loopw [15, 16] (fun sv i Z => ∃ m : Nat, m ≤ cl.length ∧ i = .int .i64 m ∧ sv = .bool (shortB c cl m) ∧ RowKit.Below Y.heap.size Y Z) (fun _ i _ => cl.length - (intOf i).toNat)
      case atStart => exact ⟨0, Nat.zero_le _, rfl, rfl, Below.refl _ _⟩
      case round =>
        obtain ⟨m, hmk, rfl, rfl, hbZ⟩ := hrel
        have HbZ := Lib.hid hbZ
        by_cases hmlt : m < cl.length
        · have hmlt' : (m : Int) < (cl.length : Int) := by omega
          have m0 : ¬ (m : Int) < 0 := by omega
          have ewm : IntKind.i64.wrap ((m : Int) + 1) = (m : Int) + 1 := IntWalk.i64_in _ (by omega)
          obtain ⟨b, o, rfl, hbB, hcw⟩ := cell_at hrd.out hmlt
          obtain ⟨b1, o1, rfl, hbB1, hcp⟩ := cell_at HD3.out hmlt
          have lbY : b < Y.heap.size := Nat.lt_of_lt_of_le hbB HY.out.size
          have u0 : wr.cell? ⟨b, o + m, none⟩ = some (.int .i64 (wAt cl m)) := by rw [hbZ.cell (p := ⟨b, o + m, none⟩) lbY, HY.out.cell (p := ⟨b, o + m, none⟩) hbB]; exact hcw m hmlt
          have u1 : wr.cell? ⟨b1, o1 + m, none⟩ = some (.int .i64 (wAt (paidL c cl) m)) := by rw [hbZ.cell (p := ⟨b1, o1 + m, none⟩) hbB1]; exact hcp m hmlt
          have lu0 : b < wr.heap.size := Nat.lt_of_lt_of_le lbY hbZ.size
          have lu1 : b1 < wr.heap.size := Nat.lt_of_lt_of_le hbB1 hbZ.size
          have HN : Hid (shortB c cl (m + 1) = (shortB c cl m || decide (wAt (paidL c cl) m < wAt cl m))) := rfl
          have hsh := HSh.out m hmk
          have hr0 := HRb.out m hmk
          have hx0 := (HCL.out m hmlt).1
          have hpa := paidL_at c cl hmlt
          generalize wAt (paidL c cl) m = y at u1 HN hpa
          generalize wAt cl m = x at u0 HN hpa hx0
          generalize remZ c cl m = rm at hsh hr0 hpa
          have d1 : ¬ y < 0 := by omega
          have d2 : ¬ x < y := by omega
          clear hcw hcp hbZ
          cases hsb : shortB c cl m with
          | true =>
            have hrm := hsh hsb
            have hy0 : y = 0 := by omega
            subst hy0
            rw [hsb] at HN
            clear hsh hpa hrm hsb
            go_upto_region 27 with fail
            go_quiet (fail)
            go_upto_region 29 with fail
            go_quiet (fail)
            go_wp2_with fail
            go_roundw
            case rel => exact ⟨m + 1, by omega, by go_num, by rw [HN.out]; rfl, below_drewN HbZ.out _⟩
            case measure => simp [intOf]; omega
          | false =>
            rw [hsb] at HN
            clear hsh hpa hsb
            go_upto_region 27 with fail
            go_quiet (fail)
            go_upto_region 29 with fail
            go_quiet (fail)
            go_wp2_with fail
            go_roundw
            case rel => exact ⟨m + 1, by omega, by go_num, by rw [HN.out]; rfl, below_drewN HbZ.out _⟩
            case measure => simp [intOf]; omega
        · have em : m = cl.length := by omega
          have hge2 : ¬ (m : Int) < (cl.length : Int) := by omega
          have HZ2 := Lib.hid (HY.out.trans (hbZ.mono HY.out.size))
          have HSm : Hid (shortB c cl m = true → r = 0) := by rw [em]; exact HSn.out
          have HSu := Lib.hid (HS5.out wr hbZ)
          clear hbZ em HS5 HSn
          cases hsb : shortB c cl m with
          | true =>
            have hr0 := HSm.out hsb
            subst hr0
            clear hsb HSm
            go_wp2_with (first | (go_at_call 27; with_reducible refine HSu.out.mono ?_; rintro e w' ⟨rfl, rfl⟩) | (go_at_call 20; refine (HW.out _ HZ2.out).mono ?_; rintro e w' ⟨rfl, hb⟩; have BW := Lib.hid hb; clear hb))
            go_ret
            exact ⟨ret_boolT (by simp), BW.out⟩
          | false =>
            clear hsb HSm
            go_wp2_with (first | (go_at_call 27; with_reducible refine HSu.out.mono ?_; rintro e w' ⟨rfl, rfl⟩) | (go_at_call 20; refine (HW.out _ HZ2.out).mono ?_; rintro e w' ⟨rfl, hb⟩; have BW := Lib.hid hb; clear hb))
            go_ret
            exact ⟨ret_boolT (by simp), BW.out⟩
end Go.Proofs.Ytdechfjlbdbbnaa
