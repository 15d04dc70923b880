/- Contract of the specification's Cycle. Conditions: an evening and groups that read as data. -/
import Derived.Test.YtijbhcdnbaaobaaCb
import Derived.Test.YtijbhcdnbaaobaaDt
namespace Go.Proofs.Ytijbhcdnbaaobaa
open Go.RowKit

theorem cyOk_ref (f : EveZ) (ride low high : Int) : cyOk f ride low high = (inB ride 0 ((f.rides.length : Int) - 1) && inB low 1 100 && inB high low 100 && decide (high - low ≤ 20)) := by
  unfold cyOk vcB
  rw [Bool.eq_iff_iff]
  simp only [Bool.and_eq_true, inB_iff, decide_eq_true_eq]
  omega
set_option maxRecDepth 100000 in
set_option maxHeartbeats 2000000 in
theorem rCycle_any (f : EveZ) (l : List GrpZ) (A A2 : Option Addr) (c c2 B : Nat) (rs : List (Option Addr × Nat)) (ride low high : Int) (w : World) (hB : B ≤ w.heap.size) (hr : Reads w B 5 A f.rides.length (bthCells f.rides)) (hn : f.rides.length ≤ maxLen) (hl : GrpsIn w B A2 rs l) :
    Calls Try.prog 39 #[eveV f A c, .slice A2 l.length c2, .int .i64 ride, .int .i64 low, .int .i64 high] w fun e w' => e = .returned (.tuple #[.int .i64 (cyR f l ride low high).1, .int .i64 (cyR f l ride low high).2]) ∧ Below w.heap.size w w' := by
  obtain ⟨W, hW⟩ : ∃ W, W = w.alloc (.cells #[.slice A f.rides.length c, .int .i64 f.walk] 24) := ⟨_, rfl⟩
  have bW : Below w.heap.size w W := by subst hW; exact (Below.refl _ _).alloc (Nat.le_refl _) _
  have r0 : Row W w.heap.size 24 [.slice A f.rides.length c, .int .i64 f.walk] := by subst hW; exact Row.new w _ _
  have q0 : W.cell? ⟨w.heap.size, 0, none⟩ = some (.slice A f.rides.length c) := r0.cell (j := 0) (by simp)
  have q1 : W.cell? ⟨w.heap.size, 1, none⟩ = some (.int .i64 f.walk) := r0.cell (j := 1) (by simp)
  have lW : w.heap.size < W.heap.size := r0.lt
  have HBW := Lib.hid bW
  have HR0 := Lib.hid r0
  have hBW := Nat.le_trans hB bW.size
  have HR : Hid (∀ X, Below w.heap.size w X → Reads X B 5 A f.rides.length (bthCells f.rides) ∧ GrpsIn X B A2 rs l) := fun X hX => ⟨hr.below (hX.mono hB), hl.below (hX.mono hB)⟩
  have HC := Lib.hid (rCheck_any f l A A2 c c2 B rs W hBW (hr.below (bW.mono hB)) hn (hl.below (bW.mono hB)))
  by_cases hc : checkQ f l = 0
  · have n8 := (eve_lens8 hc).1
    rw [hc] at HC
    have ew : IntKind.i64.wrap ((f.rides.length : Int) - 1) = (f.rides.length : Int) - 1 := IntWalk.i64_in _ (by omega)
    have HCC : Hid (checkQ f l = 0) := hc
    unfold eveV at HC ⊢
    clear hr hl hn r0 bW hc
    go_enter Try.func39, Try.ntmps39
    go_upto_region 1 with (fail)
    rw [← hW]
    clear hW
    go_upto_region 4 with (go_at_call 20; refine HC.out.mono ?_; rintro e w1 ⟨rfl, hb1⟩; have HB1 := Lib.hid hb1; clear hb1 HC)
    have r1 := HR0.out.below HB1.out HR0.out.lt
    have q0 : w1.cell? ⟨w.heap.size, 0, none⟩ = some (.slice A f.rides.length c) := r1.cell (j := 0) (by simp)
    have q1 : w1.cell? ⟨w.heap.size, 1, none⟩ = some (.int .i64 f.walk) := r1.cell (j := 1) (by simp)
    have lW : w.heap.size < w1.heap.size := r1.lt
    have B1 := Lib.hid (HBW.out.trans (HB1.out.mono HBW.out.size))
    have R1 := Lib.hid r1
    clear r1 HB1 HR0 HBW
    have HF1 : Hid (∀ X : World, Calls Try.prog 45 #[.int .i64 ride, .int .i64 0, .int .i64 ((f.rides.length : Int) - 1)] X fun e w' => e = .returned (.bool (inB ride 0 ((f.rides.length : Int) - 1))) ∧ X = w') := fun X => rfrom_any _ _ _ X
    have HF2 : Hid (∀ X : World, Calls Try.prog 45 #[.int .i64 low, .int .i64 1, .int .i64 100] X fun e w' => e = .returned (.bool (inB low 1 100)) ∧ X = w') := fun X => rfrom_any _ _ _ X
    have HF3 : Hid (∀ X : World, Calls Try.prog 45 #[.int .i64 high, .int .i64 low, .int .i64 100] X fun e w' => e = .returned (.bool (inB high low 100)) ∧ X = w') := fun X => rfrom_any _ _ _ X
    have HZ0 : Hid (cyOk f ride low high = false → cyR f l ride low high = (0, 1)) := fun hk => by unfold cyR; rw [if_neg (by rw [HCC.out]; simp), if_pos hk]
    have HOK := Lib.hid (cyOk_ref f ride low high)
    cases i1 : inB ride 0 ((f.rides.length : Int) - 1) with
    | false =>
      rw [i1] at HF1 HOK
      have HZ := Lib.hid (HZ0.out HOK.out)
      clear i1
      go_wp2_with (go_at_call 45; refine (HF1.out _).mono ?_; rintro e w' ⟨rfl, rfl⟩; clear HF1)
      go_ret2
      exact ⟨by rw [HZ.out]; rfl, B1.out⟩
    | true =>
      rw [i1] at HF1 HOK
      cases i2 : inB low 1 100 with
      | false =>
        rw [i2] at HF2 HOK
        have HZ := Lib.hid (HZ0.out HOK.out)
        clear i1 i2
        go_wp2_with (first | (go_at_call 45; refine (HF1.out _).mono ?_; rintro e w' ⟨rfl, rfl⟩; clear HF1) | (go_at_call 45; refine (HF2.out _).mono ?_; rintro e w' ⟨rfl, rfl⟩; clear HF2))
        go_ret2
        exact ⟨by rw [HZ.out]; rfl, B1.out⟩
      | true =>
        rw [i2] at HF2 HOK
        cases i3 : inB high low 100 with
        | false =>
          rw [i3] at HF3 HOK
          have HZ := Lib.hid (HZ0.out HOK.out)
          clear i1 i2 i3
          go_wp2_with (first | (go_at_call 45; refine (HF1.out _).mono ?_; rintro e w' ⟨rfl, rfl⟩; clear HF1) | (go_at_call 45; refine (HF2.out _).mono ?_; rintro e w' ⟨rfl, rfl⟩; clear HF2) | (go_at_call 45; refine (HF3.out _).mono ?_; rintro e w' ⟨rfl, rfl⟩; clear HF3))
          go_ret2
          exact ⟨by rw [HZ.out]; rfl, B1.out⟩
        | true =>
          rw [i3] at HF3 HOK
          have b2 := inB_le i2
          have b3 := inB_le i3
          have ew2 : IntKind.i64.wrap (high - low) = high - low := IntWalk.i64_in _ (by omega)
          by_cases h4 : high - low ≤ 20
          · have d4 : decide (high - low ≤ 20) = true := by simpa using h4
            have h5 : ¬ 20 < high - low := by omega
            rw [d4] at HOK
            have hok : cyOk f ride low high = true := HOK.out
            obtain ⟨⟨⟨k0, k1⟩, k2⟩, k3, k4, k5, k6, k7⟩ := cyOk_get hok
            have HZ : Hid (cyR f l ride low high = if 0 < (bcGo f l ride.toNat low (high - low + 1).toNat).2.2 then ((bcGo f l ride.toNat low (high - low + 1).toNat).1, 0) else (0, 3)) := by show _ = _; unfold cyR; rw [if_neg (by rw [HCC.out]; simp), if_neg (by rw [hok]; simp)]
            obtain ⟨r, hr9⟩ : ∃ r, r = ride.toNat := ⟨_, rfl⟩
            obtain ⟨n, hn9⟩ : ∃ n, n = (high - low + 1).toNat := ⟨_, rfl⟩
            rw [← hr9, ← hn9] at HZ
            rw [← hr9] at k1 k2
            rw [← hn9] at k7
            subst k2
            clear hr9 hn9 HZ0 HOK i1 i2 i3 d4 hok k0
            go_wp2_with (first | (go_at_call 45; refine (HF1.out _).mono ?_; rintro e w' ⟨rfl, rfl⟩; clear HF1) | (go_at_call 45; refine (HF2.out _).mono ?_; rintro e w' ⟨rfl, rfl⟩; clear HF2) | (go_at_call 45; refine (HF3.out _).mono ?_; rintro e w' ⟨rfl, rfl⟩; clear HF3))
            go_loopw [13, 14, 15, 16] (fun b s g cv wr => ∃ k : Nat, k ≤ n ∧ cv = .int .i64 (low + (k : Int)) ∧ b = .int .i64 (bcGo f l r low k).1 ∧ s = .int .i64 (bcGo f l r low k).2.1 ∧ g = .int .i64 (bcGo f l r low k).2.2 ∧ Below w.heap.size w wr ∧ Row wr w.heap.size 24 [.slice A f.rides.length c, .int .i64 f.walk]) (fun _ _ _ cv _ => (high + 1 - intOf cv).toNat)
            case atStart => exact ⟨0, Nat.zero_le _, by rw [show low + ((0 : Nat) : Int) = low by omega], rfl, rfl, rfl, B1.out, R1.out⟩
            case round =>
              obtain ⟨k, hk, rfl, rfl, rfl, rfl, hbel, q0⟩ := hrel
              obtain ⟨cy, hcyy⟩ : ∃ cy, cy = low + (k : Int) := ⟨_, rfl⟩
              rw [← hcyy]
              have HCY := Lib.hid hcyy
              by_cases hlt : k < n
              · have hcyh : cy ≤ high := by omega
                have hcb : 1 ≤ cy ∧ cy ≤ 100 := by omega
                have hch := cyc_check HCC.out k1 hcb
                have x0 : wr.cell? ⟨w.heap.size, 0, none⟩ = some (.slice A f.rides.length c) := q0.cell (j := 0) (by simp)
                have x1 : wr.cell? ⟨w.heap.size, 1, none⟩ = some (.int .i64 f.walk) := q0.cell (j := 1) (by simp)
                have l0 := q0.lt
                have HCP := Lib.hid (rCopy_any f A c B wr (Nat.le_trans hB hbel.size) (HR.out wr hbel).1 (by omega))
                have Q0 := Lib.hid q0
                have HBl := Lib.hid hbel
                have HCH := Lib.hid hch
                unfold eveV at HCP
                clear q0 hbel hch hcyy
                go_upto_region 11 with (go_at_call 18; refine HCP.out.mono ?_; rintro e w2 ⟨A5, c5, rfl, hb2, ho2⟩; unfold eveV)
                obtain ⟨g, cap, e, hg, hlg⟩ := World.ownsRow.form ho2 (by omega)
                injection e with e1 _ e2
                subst e1 e2
                have rG := (Row.of_own ho2).1.alloc (.cells #[.slice (some ⟨g, 0, none⟩) f.rides.length c5, .int .i64 f.walk] 24)
                have rE := Row.new w2 24 #[.slice (some ⟨g, 0, none⟩) f.rides.length c5, .int .i64 f.walk]
                have bX := hb2.alloc hb2.size (.cells #[.slice (some ⟨g, 0, none⟩) f.rides.length c5, .int .i64 f.walk] 24)
                have hgE : wr.heap.size ≤ w2.heap.size := hb2.size
                have hgne : w2.heap.size ≠ g := by omega
                generalize w2.alloc (.cells #[.slice (some ⟨g, 0, none⟩) f.rides.length c5, .int .i64 f.walk] 24) = X at rG rE bX ⊢
                generalize w2.heap.size = ge at rE hgE hgne ⊢
                clear ho2 hb2 hlg
                have y0 : X.cell? ⟨ge, 0, none⟩ = some (.slice (some ⟨g, 0, none⟩) f.rides.length c5) := rE.cell (j := 0) (by simp)
                have lE := rE.lt
                have lG := rG.lt
                have hat := bthCells_at f.rides r k1 2 (by omega)
                have hlen := bth_len f.rides
                have hgc : X.cell? ⟨g, r * 5 + 2, none⟩ = some (.int .i64 (f.rides.getD r default).cycle) := by
                  rw [rG.cell (j := r * 5 + 2) (by omega), hat]
                  rfl
                have fG := rG.frozen (r * 5 + 2)
                have ri0 : ¬ (r : Int) < 0 := by omega
                have ri1 : (r : Int) < (f.rides.length : Int) := by omega
                have rGY := rG.set (r * 5 + 2) (.int .i64 cy)
                rw [cyc_cells f k1] at rGY
                have rEY := rE.far (p := ⟨g, r * 5 + 2, none⟩) hgne (.int .i64 cy)
                have bY := bX.setCell (p := ⟨g, r * 5 + 2, none⟩) (by show wr.heap.size ≤ g; omega) (.int .i64 cy)
                have HGY := Lib.hid rGY
                have HEY := Lib.hid rEY
                have HBY := Lib.hid bY
                clear rG rE bX hat hlen rGY rEY bY
                go_upto_region 12 with fail
                have bZ := HBY.out
                have rE := HEY.out
                have rG := HGY.out
                generalize X.setCell ⟨g, r * 5 + 2, none⟩ (.int .i64 cy) = Z at bZ rE rG ⊢
                clear y0 lE lG hgc fG ri0 ri1 HGY HEY HBY
                have y0 : Z.cell? ⟨ge, 0, none⟩ = some (.slice (some ⟨g, 0, none⟩) f.rides.length c5) := rE.cell (j := 0) (by simp)
                have y1 : Z.cell? ⟨ge, 1, none⟩ = some (.int .i64 f.walk) := rE.cell (j := 1) (by simp)
                have lE := rE.lt
                have hbz := HBl.out.trans (bZ.mono HBl.out.size)
                have hzz : Reads Z Z.heap.size 5 (some ⟨g, 0, none⟩) (f.cyc r cy).rides.length (bthCells (f.cyc r cy).rides) := rG.reads (bth_len _) rG.lt
                have HWT : Hid (∀ x9 : RawR, RefOk (f.cyc r cy) l x9 → Calls Try.prog 56 #[eveV (f.cyc r cy) (some ⟨g, 0, none⟩) c5, .slice A2 l.length c2] Z fun e w' => e = .returned (.tuple #[.int .i64 (bcW f l r cy).1, .int .i64 (bcW f l r cy).2]) ∧ Below Z.heap.size Z w') := fun x9 h9 => rwaits_any (f.cyc r cy) l (some ⟨g, 0, none⟩) A2 c5 c2 Z.heap.size rs Z (Nat.le_refl _) hzz ((HR.out Z hbz).2.more (Nat.le_trans hB hbz.size)) HCH.out x9 (h9.ok HCH.out) _ (h9.vis HCH.out) (wt_ok HCH.out)
                obtain ⟨x9, h9⟩ := ref_ok (f.cyc r cy) l
                have HW := Lib.hid (HWT.out x9 h9)
                clear HWT h9 hzz
                unfold eveV at HW
                rw [cyc_len, show (f.cyc r cy).walk = f.walk from rfl] at HW
                obtain ⟨⟨b1, b2⟩, b3, b4⟩ := bcW_bd HCC.out k1 hcb
                obtain ⟨⟨d1, d2⟩, ⟨d3, d4⟩, d5⟩ := bcGo_bd HCC.out k1 k3 k (by omega)
                have hst : bcGo f l r low (k + 1) = bcStep f l r (bcGo f l r low k) cy := by rw [HCY.out]; rfl
                unfold bcStep at hst
                generalize hpw : bcW f l r cy = pw at *
                obtain ⟨pa, pb⟩ := pw
                generalize hpg : bcGo f l r low k = pg at *
                obtain ⟨bb, sg, gg⟩ := pg
                have HST := Lib.hid hst
                have Q1 := Lib.hid (Q0.out.below bZ l0)
                have HBZ := Lib.hid hbz
                clear hst hpw hpg rG rE bZ hbz x0 x1 HCP Q0 HBl
                simp only at b1 b2 b3 b4 d1 d2 d3 d4 d5 ⊢
                go_upto_region 13 with (go_at_call 56; refine HW.out.mono ?_; rintro e w4 ⟨rfl, hb4⟩)
                have HB4 := Lib.hid (HBZ.out.trans (hb4.mono HBZ.out.size))
                have Q4 := Lib.hid (Q1.out.below hb4 Q1.out.lt)
                have ec : IntKind.i64.wrap (cy + 1) = cy + 1 := IntWalk.i64_in _ (by omega)
                have ek : low + ((k + 1 : Nat) : Int) = cy + 1 := by have := HCY.out; omega
                have HEK := Lib.hid ek
                clear hb4 HBZ Q1 HW HCH y0 y1 lE ek
                by_cases hp : 0 < pb
                · by_cases hz : bb = 0
                  · have hlp : lessP pa pb sg gg = true := by unfold lessP; rw [if_pos (.inr (d5.1 hz))]; simpa using hp
                    rw [hlp, if_pos rfl] at HST
                    clear hlp d5 b1 b2 b3 b4 d1 d2 d3 d4
                    subst hz
                    go_wp2_with fail
                    go_roundw
                    case rel => exact ⟨k + 1, by omega, by rw [HEK.out], by rw [HST.out], by rw [HST.out], by rw [HST.out], HB4.out, Q4.out⟩
                    case measure => simp only [intOf]; omega
                  · have hg0 : ¬ gg = 0 := fun e => hz (d5.2 e)
                    have hp0 : ¬ pb = 0 := by omega
                    have m1 := Int.mul_nonneg b1 d3
                    have m2 := Int.mul_le_mul b2 d4 d3 (by omega)
                    have m3 := Int.mul_nonneg d1 b3
                    have m4 := Int.mul_le_mul d2 b4 b3 (by omega)
                    have em1 : IntKind.i64.wrap (pa * gg) = pa * gg := IntWalk.i64_in _ (by omega)
                    have em2 : IntKind.i64.wrap (sg * pb) = sg * pb := IntWalk.i64_in _ (by omega)
                    have hlp : lessP pa pb sg gg = decide (pa * gg < sg * pb) := by unfold lessP; rw [if_neg (by rintro (h | h) <;> contradiction)]
                    clear m1 m2 m3 m4 b1 b2 b3 b4 d1 d2 d3 d4 d5 hg0 hp0
                    by_cases hm : pa * gg < sg * pb
                    · rw [hlp, if_pos (by simpa using hm)] at HST
                      clear hlp
                      go_wp2_with fail
                      go_roundw
                      case rel => exact ⟨k + 1, by omega, by rw [HEK.out], by rw [HST.out], by rw [HST.out], by rw [HST.out], HB4.out, Q4.out⟩
                      case measure => simp only [intOf]; omega
                    · rw [hlp, if_neg (by simpa using hm)] at HST
                      clear hlp
                      go_wp2_with fail
                      go_roundw
                      case rel => exact ⟨k + 1, by omega, by rw [HEK.out], by rw [HST.out], by rw [HST.out], by rw [HST.out], HB4.out, Q4.out⟩
                      case measure => simp only [intOf]; omega
                · have hlp : lessP pa pb sg gg = false := by
                    unfold lessP
                    split
                    · simpa using hp
                    · rename_i h
                      exact absurd (.inl (by omega)) h
                  rw [hlp, if_neg (by simp)] at HST
                  clear hlp d5 b1 b2 d1 d2 d3 d4
                  go_wp2_with fail
                  go_roundw
                  case rel => exact ⟨k + 1, by omega, by rw [HEK.out], by rw [HST.out], by rw [HST.out], by rw [HST.out], HB4.out, Q4.out⟩
                  case measure => simp only [intOf]; omega
              · have hge : ¬ cy ≤ high := by omega
                have HKN : Hid (k = n) := by show _ = _; omega
                have HBl := Lib.hid hbel
                clear hbel q0 hcyy
                rw [HKN.out]
                by_cases hd : 0 < (bcGo f l r low n).2.2
                · have h8 : ¬ (bcGo f l r low n).1 = 0 := fun e => by
                    have := (bcGo_bd HCC.out k1 k3 n (by omega)).2.2.1 e
                    omega
                  rw [if_pos hd] at HZ
                  generalize bcGo f l r low n = st at h8 HZ ⊢
                  go_wp2_with fail
                  go_ret2
                  exact ⟨by rw [HZ.out]; rfl, HBl.out⟩
                · have h8 : (bcGo f l r low n).1 = 0 := by
                    have h7 := bcGo_bd HCC.out k1 k3 n (by omega)
                    exact h7.2.2.2 (by omega)
                  rw [if_neg hd] at HZ
                  generalize bcGo f l r low n = st at h8 HZ ⊢
                  go_wp2_with fail
                  go_ret2
                  exact ⟨by rw [HZ.out]; rfl, HBl.out⟩
          · have d4 : decide (high - low ≤ 20) = false := by simpa using h4
            have h5 : 20 < high - low := by omega
            rw [d4] at HOK
            have HZ := Lib.hid (HZ0.out HOK.out)
            clear i1 i2 i3 d4 h4
            go_wp2_with (first | (go_at_call 45; refine (HF1.out _).mono ?_; rintro e w' ⟨rfl, rfl⟩; clear HF1) | (go_at_call 45; refine (HF2.out _).mono ?_; rintro e w' ⟨rfl, rfl⟩; clear HF2) | (go_at_call 45; refine (HF3.out _).mono ?_; rintro e w' ⟨rfl, rfl⟩; clear HF3))
            go_ret2
            exact ⟨by rw [HZ.out]; rfl, B1.out⟩
  · have HZ : Hid (cyR f l ride low high = (0, checkQ f l)) := if_pos hc
    generalize checkQ f l = k at hc HC HZ
    unfold eveV at HC ⊢
    clear hr hl hn r0 bW HR0
    go_enter Try.func39, Try.ntmps39
    go_upto_region 1 with (fail)
    rw [← hW]
    clear hW
    go_wp2_with (go_at_call 20; refine HC.out.mono ?_; rintro e w1 ⟨rfl, hb1⟩; have HB1 := Lib.hid (HBW.out.trans (hb1.mono HBW.out.size)); clear hb1)
    all_goals first | (go_ret2; rw [HZ.out]; exact ⟨rfl, HB1.out⟩) | (exfalso; omega) | trace_state
end Go.Proofs.Ytijbhcdnbaaobaa
