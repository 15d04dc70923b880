/- The walk of TakingsNights. Conditions: numbers that read as data. -/
import Derived.Test.YtdechfjlbdbbnaaTnd
import Derived.Test.YtdechfjlbdbbnaaTkn
namespace Go.Proofs.Ytdechfjlbdbbnaa
open Go.RowKit Go.Shelf

theorem ngtR_cases (ns ws : List Int) : ((ngtR ns ws).2.2 ≠ 0) ∨ ((ngtR ns ws).2.2 = 0 ∧ 0 ≤ (ngtR ns ws).2.1 ∧ (ngtR ns ws).2.1 ≤ ns.length ∧ sumW (ngtR ns ws).1 = sumW ns) := by
  unfold ngtR
  by_cases h60 : 60 < ns.length
  · rw [if_pos h60]; exact .inl (by decide)
  rw [if_neg h60]
  by_cases h1 : nightB ns = false
  · rw [if_pos h1]; exact .inl (by decide)
  rw [if_neg h1]
  by_cases h2 : wOk ws = false
  · rw [if_pos h2]; exact .inl (by decide)
  rw [if_neg h2]
  have hb : nightB ns = true := by simpa using h1
  unfold nightB at hb
  simp only [Bool.and_eq_true] at hb
  have hok := wOk_of (ws := ws) (by simpa using h2)
  have hall := fun j (hj : j < ns.length) => allB_at hb.1 hj
  have f := furZ_bd (f := wAt (nightsZ ns ws)) (g := wAt (splitZ (sumW ns) ws)) (b := (ns.length : Int)) (by omega) ws.length fun i hi => nights_near hok hall (by omega) hi
  exact .inr ⟨rfl, f.1, f.2, nights_sumN hok hall (by omega)⟩
theorem ngtR_len (ns ws : List Int) : (ngtR ns ws).1.length ≤ 1000 := by
  unfold ngtR
  by_cases h60 : 60 < ns.length
  · rw [if_pos h60]; simp
  rw [if_neg h60]
  by_cases h1 : nightB ns = false
  · rw [if_pos h1]; simp
  rw [if_neg h1]
  by_cases h2 : wOk ws = false
  · rw [if_pos h2]; simp
  rw [if_neg h2]
  have := (wOk_of (ws := ws) (by simpa using h2)).l10
  simp only [nightsZ_len]; omega
set_option maxHeartbeats 4000000 in
set_option maxRecDepth 100000 in
theorem nights_walk {w : World} (ns : List Int) (A : Option Addr) (ca : Nat) (hr : Reads w w.heap.size 1 A ns.length (ns.map (Value.int .i64))) (hm : ns.length ≤ maxLen) (ws : List Int) (A2 : Option Addr) (c2 : Nat) (hr2 : Reads w w.heap.size 1 A2 ws.length (ws.map (Value.int .i64))) (hm2 : ws.length ≤ maxLen) :
    Calls Try.prog 9 #[.slice A ns.length ca, .slice A2 ws.length c2] w (TrueT w) := by
  have HW : Hid (∀ X, Below w.heap.size w X → Calls Try.prog 20 #[] X fun e w' => e = .returned (.bool true) ∧ Below w.heap.size w w') := fun X hX => (works_any X).mono fun e w' h => ⟨h.1, hX.trans (h.2.mono hX.size)⟩
  have hl := ngtR_len ns ws
  have hcs := ngtR_cases ns ws
  have h1 := Nights_any ns ws A A2 ca c2 w.heap.size w (Nat.le_refl _) hr hm hr2 hm2
  have h2 : ∀ X, Below w.heap.size w X → Calls Try.prog 36 #[.slice A ns.length ca, .slice A2 ws.length c2] X (TkToN X (ngtR ns ws).1 (ngtR ns ws).2.1 (ngtR ns ws).2.2) := fun X hX => rNights_any ns ws A A2 ca c2 w.heap.size X hX.size (hr.below hX) hm (hr2.below hX) hm2
  have HSn : Hid (∀ X, Below w.heap.size w X → Calls Try.prog 27 #[.slice A ns.length ca] X fun e w' => e = .returned (.int .i64 (sumW ns)) ∧ X = w') := fun X hX => rSum_any ns A ns.length ca w.heap.size X (hr.below hX) hm
  generalize ngtR ns ws = R at hl hcs h1 h2
  obtain ⟨L, off, e0⟩ := R
  dsimp only at hl hcs h1 h2
  have H1 := Lib.hid h1
  have H2 := Lib.hid h2
  unfold maxLen at hm
  clear hr hr2 h1 h2 hm2
  rcases hcs with hc | ⟨rfl, ho0, ho1, hs⟩
  · go_enter Try.func9, Try.ntmps9
    go_upto_region 2 with (go_at_call 35; refine H1.out.mono ?_; rintro e X ⟨A3, c3, rfl, hr3, hX⟩)
    have HX := Lib.hid hX
    have HR3 := Lib.hid hr3
    clear hX hr3 H1
    go_upto_region 3 with (go_at_call 36; refine (H2.out X HX.out).mono ?_; rintro e Y ⟨A4, c4, rfl, hr4, hY⟩)
    have HY := Lib.hid (HX.out.trans (hY.mono HX.out.size))
    have HS1 := Lib.hid (tsame_eq L A3 A4 c3 c4 Y.heap.size Y.heap.size Y ((HR3.out.below hY).more hY.size) hr4 (Nat.le_refl _) (Nat.le_refl _) hl)
    clear hY hr4 H2 HR3
    go_upto_region 5 with (go_at_call 17; refine HS1.out.mono ?_; rintro e Z ⟨rfl, hZ⟩)
    have HZ := Lib.hid (HY.out.trans (hZ.mono HY.out.size))
    clear hZ HS1
    go_wp2_with (go_at_call 20; refine (HW.out _ HZ.out).mono ?_; rintro e w' ⟨rfl, hb⟩; have BW := Lib.hid hb; clear hb)
    go_ret
    exact ⟨ret_boolT (by simp), BW.out⟩
  · go_enter Try.func9, Try.ntmps9
    go_upto_region 2 with (go_at_call 35; refine H1.out.mono ?_; rintro e X ⟨A3, c3, rfl, hr3, hX⟩)
    have HX := Lib.hid hX
    have HR3 := Lib.hid hr3
    clear hX hr3 H1
    go_upto_region 3 with (go_at_call 36; refine (H2.out X HX.out).mono ?_; rintro e Y ⟨A4, c4, rfl, hr4, hY⟩)
    have HY := Lib.hid (HX.out.trans (hY.mono HX.out.size))
    have HS1 := Lib.hid (tsame_eq L A3 A4 c3 c4 Y.heap.size Y.heap.size Y ((HR3.out.below hY).more hY.size) hr4 (Nat.le_refl _) (Nat.le_refl _) hl)
    have HR5 := Lib.hid ((HR3.out.below hY).more hY.size)
    clear hY hr4 H2 HR3
    go_upto_region 5 with (go_at_call 17; refine HS1.out.mono ?_; rintro e Z ⟨rfl, hZ⟩)
    have HZ := Lib.hid (HY.out.trans (hZ.mono HY.out.size))
    have hS2 := rSum_any L A3 L.length c3 Y.heap.size Z (HR5.out.below hZ) (by unfold maxLen; omega)
    rw [hs] at hS2
    have HS2 := Lib.hid hS2
    have HS3 := Lib.hid (HSn.out Z HZ.out)
    clear hZ HS1 HR5 hS2 hs
    go_wp2_with (first | (go_at_call 27; with_reducible refine HS2.out.mono ?_; rintro e w' ⟨rfl, rfl⟩) | (go_at_call 27; with_reducible refine HS3.out.mono ?_; rintro e w' ⟨rfl, rfl⟩) | (go_at_call 20; refine (HW.out _ HZ.out).mono ?_; rintro e w' ⟨rfl, hb⟩; have BW := Lib.hid hb; clear hb))
    go_ret
    exact ⟨ret_boolT (by simp), BW.out⟩
end Go.Proofs.Ytdechfjlbdbbnaa
