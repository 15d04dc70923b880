/- The walk of TakingsSplits. Conditions: numbers that read as data. -/
import Derived.Test.YtdechfjlbdbbnaaTky
namespace Go.Proofs.Ytdechfjlbdbbnaa
open Go.RowKit Go.Shelf

theorem splR_len (c : Int) (ws : List Int) : (splR c ws).1.length ≤ 1000 := by
  unfold splR
  split
  · simp
  · split
    · simp
    · have h := wOk_of (ws := ws) (by simp_all)
      have := h.l10
      simp only [splitZ_len]; omega
theorem clmR_len (c : Int) (cl ws : List Int) : (clmR c cl ws).1.length ≤ 1000 ∧ (clmR c cl ws).2.1.length ≤ 1000 := by
  unfold clmR
  by_cases h1 : clmB c cl = false
  · rw [if_pos h1]; simp
  rw [if_neg h1]
  by_cases h2 : wOk ws = false
  · rw [if_pos h2]; simp
  rw [if_neg h2]
  have h := wOk_of (ws := ws) (by simpa using h2)
  have := h.l10
  have hb : clmB c cl = true := by simpa using h1
  unfold clmB at hb
  simp only [Bool.and_eq_true, decide_eq_true_eq] at hb
  simp only [splitZ_len, paidL_len]
  omega
set_option maxHeartbeats 4000000 in
set_option maxRecDepth 100000 in
theorem splits_walk {w : World} (c : Int) (cl : List Int) (A : Option Addr) (ca : Nat) (hr : Reads w w.heap.size 1 A cl.length (cl.map (Value.int .i64))) (hm : cl.length ≤ maxLen) (ws : List Int) (A2 : Option Addr) (c2 : Nat) (hr2 : Reads w w.heap.size 1 A2 ws.length (ws.map (Value.int .i64))) (hm2 : ws.length ≤ maxLen) :
    Calls Try.prog 3 #[.int .i64 c, .slice A cl.length ca, .slice A2 ws.length c2] w (TrueT w) := by
  have HW : Hid (∀ X, Below w.heap.size w X → Calls Try.prog 20 #[] X fun e w' => e = .returned (.bool true) ∧ Below w.heap.size w w') := fun X hX => (works_any X).mono fun e w' h => ⟨h.1, hX.trans (h.2.mono hX.size)⟩
  have hl := splR_len c ws
  have hl2 := clmR_len c cl ws
  have h1 : ∀ X, Below w.heap.size w X → Calls Try.prog 15 #[.int .i64 c, .slice A2 ws.length c2] X (TkTo X (splR c ws).1 (splR c ws).2) := fun X hX => Split_any c ws A2 c2 w.heap.size X hX.size (hr2.below hX) hm2
  have h2 : ∀ X, Below w.heap.size w X → Calls Try.prog 16 #[.int .i64 c, .slice A2 ws.length c2] X (TkTo X (splR c ws).1 (splR c ws).2) := fun X hX => rSplit_any c ws A2 c2 w.heap.size X hX.size (hr2.below hX) hm2
  have h3 : ∀ X, Below w.heap.size w X → Calls Try.prog 18 #[.int .i64 c, .slice A cl.length ca, .slice A2 ws.length c2] X (TkTo2 X (clmR c cl ws).1 (clmR c cl ws).2.1 (clmR c cl ws).2.2) := fun X hX => Claims_any c cl ws A A2 ca c2 w.heap.size X hX.size (hr.below hX) hm (hr2.below hX) hm2
  have h4 : ∀ X, Below w.heap.size w X → Calls Try.prog 19 #[.int .i64 c, .slice A cl.length ca, .slice A2 ws.length c2] X (TkTo2 X (clmR c cl ws).1 (clmR c cl ws).2.1 (clmR c cl ws).2.2) := fun X hX => rClaims_any c cl ws A A2 ca c2 w.heap.size X hX.size (hr.below hX) hm (hr2.below hX) hm2
  generalize splR c ws = R at hl h1 h2
  generalize clmR c cl ws = S at hl2 h3 h4
  obtain ⟨L, e1⟩ := R
  obtain ⟨M, N, e2⟩ := S
  dsimp only at hl h1 h2 hl2 h3 h4
  have H1 := Lib.hid (h1 w (Below.refl _ _))
  have H2 := Lib.hid h2
  have H3 := Lib.hid h3
  have H4 := Lib.hid h4
  clear hr hr2 h1 h2 h3 h4
  go_enter Try.func3, Try.ntmps3
  go_upto_region 2 with (go_at_call 15; refine H1.out.mono ?_; rintro e X ⟨A3, c3, rfl, hr3, hX⟩)
  have HX := Lib.hid hX
  have HR3 := Lib.hid hr3
  clear hX hr3 H1
  go_upto_region 3 with (go_at_call 16; refine (H2.out X HX.out).mono ?_; rintro e Y ⟨A4, c4, rfl, hr4, hY⟩)
  have HY := Lib.hid (HX.out.trans (hY.mono HX.out.size))
  have HS1 := Lib.hid (tsame_eq L A3 A4 c3 c4 Y.heap.size Y.heap.size Y ((HR3.out.below hY).more hY.size) hr4 (Nat.le_refl _) (Nat.le_refl _) hl)
  clear hY hr4 H2 HR3
  go_upto_region 5 with (go_at_call 17; refine HS1.out.mono ?_; rintro e Z ⟨rfl, hZ⟩)
  have HZ := Lib.hid (HY.out.trans (hZ.mono HY.out.size))
  clear hZ HS1
  go_upto_region 6 with (go_at_call 18; refine (H3.out _ HZ.out).mono ?_; rintro e U ⟨A5, c5, A6, c6, rfl, hr5, hr6, hU⟩)
  have HU := Lib.hid (HZ.out.trans (hU.mono HZ.out.size))
  have HR5 := Lib.hid hr5
  have HR6 := Lib.hid hr6
  clear hU hr5 hr6 H3
  go_upto_region 7 with (go_at_call 19; refine (H4.out _ HU.out).mono ?_; rintro e V ⟨A7, c7, A8, c8, rfl, hr7, hr8, hV⟩)
  have HV := Lib.hid (HU.out.trans (hV.mono HU.out.size))
  have HS2 := Lib.hid (tsame_eq M A5 A7 c5 c7 V.heap.size V.heap.size V ((HR5.out.below hV).more hV.size) hr7 (Nat.le_refl _) (Nat.le_refl _) hl2.1)
  have HS3 : Hid (∀ K, Below V.heap.size V K → Calls Try.prog 17 #[.slice A6 N.length c6, .slice A8 N.length c8] K fun e w' => e = .returned (.bool true) ∧ Below K.heap.size K w') := fun K hK => tsame_eq N A6 A8 c6 c8 K.heap.size K.heap.size K ((((HR6.out.below hV).more hV.size).below hK).more hK.size) ((hr8.below hK).more hK.size) (Nat.le_refl _) (Nat.le_refl _) hl2.2
  clear hV hr7 hr8 H4 HR5 HR6
  go_wp2_with (first | (go_at_call 17; with_reducible refine HS2.out.mono ?_; rintro e K ⟨rfl, hK⟩; have HK0 := Lib.hid hK; have HK := Lib.hid (HV.out.trans (hK.mono HV.out.size)); clear hK) | (go_at_call 17; with_reducible refine (HS3.out _ HK0.out).mono ?_; rintro e K2 ⟨rfl, hK2⟩; have HK2 := Lib.hid (HK.out.trans (hK2.mono HK.out.size)); clear hK2) | (go_at_call 20; refine (HW.out _ HK2.out).mono ?_; rintro e w' ⟨rfl, hb⟩; have BW := Lib.hid hb; clear hb))
  go_ret
  exact ⟨ret_boolT (by simp), BW.out⟩
end Go.Proofs.Ytdechfjlbdbbnaa
