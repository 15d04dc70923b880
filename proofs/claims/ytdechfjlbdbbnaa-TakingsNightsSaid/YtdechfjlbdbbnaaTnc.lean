/- Contract of takings' Nights. Conditions: numbers that read as data. -/
import Derived.Test.YtdechfjlbdbbnaaTnb
namespace Go.Proofs.Ytdechfjlbdbbnaa
open Go.RowKit Go.Shelf

/-- Facts about what Nights returns. -/
structure NgtOk (ns ws : List Int) : Prop where
  l60 : ns.length ≤ 60
  all : ∀ j, j < ns.length → 0 ≤ wAt ns j ∧ wAt ns j ≤ 1000000000
  sum : 0 ≤ sumW ns ∧ sumW ns ≤ 1000000000
  ok : WOk ws
theorem furth_row (ns ws : List Int) (h : NgtOk ns ws) (g g2 c c2 : Nat) (X : World) (r1 : Row X g 3 ((nightsZ ns ws).map (Value.int .i64))) (r2 : Row X g2 3 ((splitZ (sumW ns) ws).map (Value.int .i64))) :
    Calls Try.prog 67 #[.slice (some ⟨g, 0, none⟩) ws.length c, .slice (some ⟨g2, 0, none⟩) ws.length c2] X fun e w' => e = .returned (.int .i64 (furZ (wAt (nightsZ ns ws)) (wAt (splitZ (sumW ns) ws)) ws.length)) ∧ Below X.heap.size X w' := by
  have l10 := h.ok.l10
  have l60 := h.l60
  have := furthest_any (nightsZ ns ws) (splitZ (sumW ns) ws) (by rw [nightsZ_len, splitZ_ln]) (by rw [nightsZ_len]; exact l10) (fun i hi => by
    rw [nightsZ_len] at hi
    rw [nightsZ_at ns ws hi]
    have := nAt_bd h.ok h.all (Nat.le_refl _) hi
    omega) (fun i hi => by
    rw [nightsZ_len] at hi
    have := part_top h.ok h.sum.1 h.sum.2 hi
    omega) (some ⟨g, 0, none⟩) (some ⟨g2, 0, none⟩) c c2 X.heap.size X (Nat.le_refl _) (r1.reads (n := (nightsZ ns ws).length) (size := 1) (by simp) r1.lt) (r2.reads (n := (splitZ (sumW ns) ws).length) (size := 1) (by simp) r2.lt)
  rw [nightsZ_len, splitZ_ln] at this
  exact this
set_option maxHeartbeats 4000000 in
set_option maxRecDepth 100000 in
theorem Nights_any (ns ws : List Int) (A A2 : Option Addr) (ca c2 B : Nat) (w : World) (hB : B ≤ w.heap.size) (hr : Reads w B 1 A ns.length (ns.map (Value.int .i64))) (hm : ns.length ≤ maxLen) (hr2 : Reads w B 1 A2 ws.length (ws.map (Value.int .i64))) (hm2 : ws.length ≤ maxLen) :
    Calls Try.prog 35 #[.slice A ns.length ca, .slice A2 ws.length c2] w (TkToN w (ngtR ns ws).1 (ngtR ns ws).2.1 (ngtR ns ws).2.2) := by
  have HV : Hid (ngtR ns ws = if 60 < ns.length then ([], 0, 2) else if nightB ns = false then ([], 0, 1) else if wOk ws = false then ([], 0, 110) else (nightsZ ns ws, furZ (wAt (nightsZ ns ws)) (wAt (splitZ (sumW ns) ws)) ws.length, 0)) := rfl
  have HVB : Hid (nightB ns = (allB ns 0 1000000000 && inB (sumW ns) 0 1000000000)) := rfl
  have HA := Lib.hid (areAmounts_any ns A ns.length ca B w hr hm)
  have HT : Hid (∀ X, Below w.heap.size w X → Calls Try.prog 47 #[.slice A ns.length ca] X fun e w' => e = .returned (.int .i64 (sumW ns)) ∧ X = w') := fun X hX => total_any ns A ns.length ca B X (hr.below (hX.mono hB)) hm
  obtain ⟨W, hW⟩ : ∃ W, W = w.alloc (.cells #[.int .i64 (sumW ns)] 3) := ⟨_, rfl⟩
  have bW : Below w.heap.size w W := by subst hW; exact (Below.refl _ _).alloc (Nat.le_refl _) _
  have H1 : Hid (∀ k, Calls Try.prog 38 #[.slice (some ⟨w.heap.size, 0, none⟩) 1 k] (w.alloc (.cells #[.int .i64 (sumW ns)] 3)) fun e w' => e = .returned (.bool (inB (sumW ns) 0 1000000000)) ∧ w' = W) := fun k => by
    rw [hW]
    exact (am_new w k (sumW ns)).mono fun e w' h => ⟨h.1, h.2.symm⟩
  have H2 := Lib.hid (validWeights_any ws A2 c2 B W (Nat.le_trans hB bW.size) (hr2.below (bW.mono hB)) hm2)
  have H3 : Hid (NgtOk ns ws → ∀ X, Below w.heap.size w X → Calls Try.prog 66 #[.slice A ns.length ca, .slice A2 ws.length c2] X fun e w' => ∃ g c', e = .returned (.slice (some ⟨g, 0, none⟩) ws.length c') ∧ X.heap.size ≤ g ∧ Row w' g 3 ((nightsZ ns ws).map (Value.int .i64)) ∧ Below X.heap.size X w') := fun h X hX => splitNights_any ns ws h.ok h.l60 h.all A A2 ca c2 B X (Nat.le_trans hB hX.size) (hr.below (hX.mono hB)) (hr2.below (hX.mono hB))
  have H4 : Hid (NgtOk ns ws → ∀ X, Below w.heap.size w X → Calls Try.prog 40 #[.int .i64 (sumW ns), .slice A2 ws.length c2] X fun e w' => ∃ g ca', e = .returned (.slice (some ⟨g, 0, none⟩) ws.length ca') ∧ X.heap.size ≤ g ∧ Row w' g 3 ((splitZ (sumW ns) ws).map (Value.int .i64)) ∧ Below X.heap.size X w') := fun h X hX => split_any _ ws h.ok h.sum.1 h.sum.2 A2 c2 B X (Nat.le_trans hB hX.size) (hr2.below (hX.mono hB))
  have HB := Lib.hid bW
  have B0 := Lib.hid (Below.refl w.heap.size w)
  have HL := Lib.hid (nightsZ_len ns ws)
  clear hr hr2 hW bW hm2
  unfold maxLen at hm
  generalize ngtR ns ws = R at HV ⊢
  by_cases h60 : 60 < ns.length
  · rw [if_pos h60] at HV
    rw [HV.out]
    have hz : (60 : Int) < (ns.length : Int) := by omega
    go_enter Try.func35, Try.ntmps35
    go_wp2_with fail
    go_ret3
    exact ⟨none, 0, rfl, Reads.none_, Below.refl _ _⟩
  rw [if_neg h60] at HV
  have hz : ¬ (60 : Int) < (ns.length : Int) := by omega
  cases ha : allB ns 0 1000000000 with
  | false =>
    rw [ha] at HA HVB
    rw [if_pos (by rw [HVB.out]; rfl)] at HV
    rw [HV.out]
    clear ha
    go_enter Try.func35, Try.ntmps35
    go_wp2_with (go_at_call 38; with_reducible refine HA.out.mono ?_; rintro e w' ⟨rfl, rfl⟩)
    go_ret3
    exact ⟨none, 0, rfl, Reads.none_, Below.refl _ _⟩
  | true =>
    rw [ha] at HA HVB
    have HAll := Lib.hid fun j (hj : j < ns.length) => allB_at ha hj
    clear ha
    cases hi : inB (sumW ns) 0 1000000000 with
    | false =>
      rw [hi] at H1 HVB
      rw [if_pos (by rw [HVB.out]; rfl)] at HV
      rw [HV.out]
      clear hi
      go_enter Try.func35, Try.ntmps35
      go_wp2_with (first | (go_at_call 38; with_reducible refine HA.out.mono ?_; rintro e w' ⟨rfl, rfl⟩) | (go_at_call 47; with_reducible refine (HT.out _ B0.out).mono ?_; rintro e w' ⟨rfl, rfl⟩) | (go_at_call 38; with_reducible refine (H1.out _).mono ?_; rintro e w' ⟨rfl, rfl⟩))
      go_ret3
      exact ⟨none, 0, rfl, Reads.none_, HB.out⟩
    | true =>
      rw [hi] at H1 HVB
      have HSu := Lib.hid (inB_le hi)
      rw [if_neg (by rw [HVB.out]; decide)] at HV
      clear hi
      cases hw : wOk ws with
      | false =>
        rw [hw] at H2
        rw [if_pos hw] at HV
        rw [HV.out]
        clear hw
        go_enter Try.func35, Try.ntmps35
        go_wp2_with (first | (go_at_call 38; with_reducible refine HA.out.mono ?_; rintro e w' ⟨rfl, rfl⟩) | (go_at_call 47; with_reducible refine (HT.out _ B0.out).mono ?_; rintro e w' ⟨rfl, rfl⟩) | (go_at_call 38; with_reducible refine (H1.out _).mono ?_; rintro e w' ⟨rfl, rfl⟩) | (go_at_call 39; refine H2.out.mono ?_; rintro e X ⟨rfl, hX⟩; have HX := Lib.hid (HB.out.trans (hX.mono HB.out.size)); clear hX H2))
        go_ret3
        exact ⟨none, 0, rfl, Reads.none_, HX.out⟩
      | true =>
        have hok : NgtOk ns ws := ⟨by omega, HAll.out, HSu.out, wOk_of hw⟩
        rw [if_neg (by rw [hw]; decide)] at HV
        rw [HV.out]
        rw [hw] at H2
        have H5 := Lib.hid (H3.out hok)
        have H6 := Lib.hid (H4.out hok)
        have H7 : Hid (∀ (g g2 c c2 : Nat) (X : World) (_ : Row X g 3 ((nightsZ ns ws).map (Value.int .i64))) (_ : Row X g2 3 ((splitZ (sumW ns) ws).map (Value.int .i64))), Calls Try.prog 67 #[.slice (some ⟨g, 0, none⟩) ws.length c, .slice (some ⟨g2, 0, none⟩) ws.length c2] X fun e w' => e = .returned (.int .i64 (furZ (wAt (nightsZ ns ws)) (wAt (splitZ (sumW ns) ws)) ws.length)) ∧ Below X.heap.size X w') := furth_row ns ws hok
        clear hw hok H3 H4 HV HVB
        go_enter Try.func35, Try.ntmps35
        go_upto_region 5 with (first | (go_at_call 38; with_reducible refine HA.out.mono ?_; rintro e w' ⟨rfl, rfl⟩) | (go_at_call 47; with_reducible refine (HT.out _ B0.out).mono ?_; rintro e w' ⟨rfl, rfl⟩) | (go_at_call 38; with_reducible refine (H1.out _).mono ?_; rintro e w' ⟨rfl, rfl⟩))
        go_upto_region 7 with (go_at_call 39; refine H2.out.mono ?_; rintro e X ⟨rfl, hX⟩; have HX := Lib.hid (HB.out.trans (hX.mono HB.out.size)); clear hX H2)
        go_upto_region 8 with (go_at_call 66; refine (H5.out _ HX.out).mono ?_; rintro e Y ⟨g, c', rfl, hg, hrow, hY⟩; have HY := Lib.hid (HX.out.trans (hY.mono HX.out.size)); have HRW := Lib.hid hrow; clear hY H5 hrow)
        go_wp2_with (first | (go_at_call 47; with_reducible refine (HT.out _ HY.out).mono ?_; rintro e w' ⟨rfl, rfl⟩) | (go_at_call 40; refine (H6.out _ HY.out).mono ?_; rintro e Z ⟨g2, c3, rfl, hg2, hrow2, hZ⟩; have HZ := Lib.hid (HY.out.trans (hZ.mono HY.out.size)); have HRW2 := Lib.hid hrow2; have HRW3 := Lib.hid (HRW.out.below hZ HRW.out.lt); clear hZ H6 hrow2) | (go_at_call 67; with_reducible refine (H7.out _ _ _ _ _ HRW3.out HRW2.out).mono ?_; rintro e V ⟨rfl, hV⟩; have HVw := Lib.hid (HZ.out.trans (hV.mono HZ.out.size)); have HRW4 := Lib.hid (HRW3.out.below hV HRW3.out.lt); clear hV H7))
        go_ret3
        exact ⟨some ⟨g, 0, none⟩, c', by simp only [HL.out]; rfl, HRW4.out.reads (by simp) HRW4.out.lt, HVw.out⟩
end Go.Proofs.Ytdechfjlbdbbnaa
