/- The walk of TakingsPays. Conditions: numbers and payments that read as data. -/
import Derived.Test.YtdechfjlbdbbnaaTme
namespace Go.Proofs.Ytdechfjlbdbbnaa
open Go.RowKit Go.Shelf

set_option maxHeartbeats 4000000 in
set_option maxRecDepth 100000 in
theorem pays_walk {w : World} (b : List Int) (A : Option Addr) (ca : Nat) (hr : Reads w w.heap.size 1 A b.length (b.map (Value.int .i64))) (hm : b.length ≤ maxLen) (l : List PyZ) (A2 : Option Addr) (c2 : Nat) (hr2 : Reads w w.heap.size 3 A2 l.length (pyCells l)) (hm2 : l.length ≤ maxLen) :
    Calls Try.prog 6 #[.slice A b.length ca, .slice A2 l.length c2] w (TrueT w) := by
  have HW : Hid (∀ X, Below w.heap.size w X → Calls Try.prog 20 #[] X fun e w' => e = .returned (.bool true) ∧ Below w.heap.size w w') := fun X hX => (works_any X).mono fun e w' h => ⟨h.1, hX.trans (h.2.mono hX.size)⟩
  have h1 := Pay_any b l A A2 ca c2 w.heap.size w (Nat.le_refl _) hr hm hr2 hm2
  have h2 : ∀ X, Below w.heap.size w X → Calls Try.prog 26 #[.slice A b.length ca, .slice A2 l.length c2] X (TkTo X (payR b l).1 (payR b l).2) := fun X hX => rPay_any b l A A2 ca c2 w.heap.size X hX.size (hr.below hX) hm (hr2.below hX) hm2
  have hl : (payR b l).1.length ≤ 1000 := by
    rcases payR_cases b l with ⟨h, _⟩ | ⟨h, h10, _⟩
    · rw [h]; simp
    · rw [h]; simp only [payN_len]; omega
  have hs := payR_sum (b := b) (l := l)
  generalize payR b l = R at h1 h2 hl hs
  obtain ⟨L, e0⟩ := R
  dsimp only at h1 h2 hl hs
  have H1 := Lib.hid h1
  have H2 := Lib.hid h2
  have hrd := Lib.hid hr
  clear hr hr2 h1 h2
  go_enter Try.func6, Try.ntmps6
  go_upto_region 2 with (go_at_call 25; refine H1.out.mono ?_; rintro e X ⟨A3, c3, rfl, hr3, hX⟩)
  have HX := Lib.hid hX
  have HR3 := Lib.hid hr3
  clear hX hr3 H1
  go_upto_region 3 with (go_at_call 26; refine (H2.out X HX.out).mono ?_; rintro e Y ⟨A4, c4, rfl, hr4, hY⟩)
  have HY := Lib.hid (HX.out.trans (hY.mono HX.out.size))
  have hr3Y := (HR3.out.below hY).more hY.size
  have HS1 := Lib.hid (tsame_eq L A3 A4 c3 c4 Y.heap.size Y.heap.size Y hr3Y hr4 (Nat.le_refl _) (Nat.le_refl _) hl)
  have HR4 := Lib.hid hr3Y
  clear hY hr4 hr3Y H2 HR3
  go_upto_region 5 with (go_at_call 17; refine HS1.out.mono ?_; rintro e Z ⟨rfl, hZ⟩)
  have HZ := Lib.hid (HY.out.trans (hZ.mono HY.out.size))
  have HU1 := Lib.hid (rSum_any L A3 L.length c3 Z.heap.size Z ((HR4.out.below hZ).more hZ.size) (by unfold maxLen; omega))
  have HU2 := Lib.hid (rSum_any b A b.length ca w.heap.size Z (hrd.out.below HZ.out) hm)
  clear hZ HS1 HR4
  by_cases he : e0 = 0
  · rw [hs he] at HU1
    subst he
    clear hs
    go_wp2_with (first | (go_at_call 27; with_reducible refine HU1.out.mono ?_; rintro e w' ⟨rfl, rfl⟩) | (go_at_call 27; with_reducible refine HU2.out.mono ?_; rintro e w' ⟨rfl, rfl⟩) | (go_at_call 20; refine (HW.out _ HZ.out).mono ?_; rintro e w' ⟨rfl, hb⟩; have BW := Lib.hid hb; clear hb))
    go_ret
    exact ⟨ret_boolT (by simp), BW.out⟩
  · have heb : (e0 == 0) = false := by simpa using he
    clear hs
    go_wp2_with (go_at_call 20; refine (HW.out _ HZ.out).mono ?_; rintro e w' ⟨rfl, hb⟩; have BW := Lib.hid hb; clear hb)
    go_ret
    exact ⟨ret_boolT (by simp), BW.out⟩
end Go.Proofs.Ytdechfjlbdbbnaa
