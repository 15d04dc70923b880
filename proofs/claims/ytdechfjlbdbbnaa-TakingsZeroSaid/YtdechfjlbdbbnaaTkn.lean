/- The walk of TakingsBounds. Conditions: brackets that read as data. -/
import Derived.Test.YtdechfjlbdbbnaaTkl
namespace Go.Proofs.Ytdechfjlbdbbnaa
open Go.RowKit Go.Shelf

/-- The law's end. -/
def TrueT (w : World) (e : Ending) (w' : World) : Prop := e = .returned (.bool true) ∧ Below w.heap.size w w'
set_option maxHeartbeats 4000000 in
set_option maxRecDepth 100000 in
theorem bounds_walk {w : World} (c more : Int) (l : List BrZ) (A : Option Addr) (ca : Nat) (hr : Reads w w.heap.size 2 A l.length (brCells l)) (hm : l.length ≤ maxLen) :
    Calls Try.prog 14 #[.int .i64 c, .int .i64 more, .slice A l.length ca] w (TrueT w) := by
  have HT : Hid (∀ x X, Below w.heap.size w X → Calls Try.prog 31 #[.int .i64 x, .slice A l.length ca] X fun e w' => e = .returned (.tuple #[.int .i64 (taxR x l).1, .int .i64 (taxR x l).2]) ∧ Below w.heap.size w w') := fun x X hX => (Tax_any l A ca w.heap.size x X hX.size (hr.below hX) hm).mono fun e w' h => ⟨h.1, hX.trans (h.2.mono hX.size)⟩
  have HN : Hid (∀ x X, Below w.heap.size w X → Calls Try.prog 33 #[.int .i64 x, .slice A l.length ca] X fun e w' => ∃ n e', e = .returned (.tuple #[.int .i64 n, .int .i64 e']) ∧ NetR x l n e' ∧ Below w.heap.size w w') := fun x X hX => (Net_any l A ca w.heap.size x X hX.size (hr.below hX) hm).mono fun e w' ⟨n, e', h1, h2, h3⟩ => ⟨n, e', h1, h2, hX.trans (h3.mono hX.size)⟩
  have HW : Hid (∀ X, Below w.heap.size w X → Calls Try.prog 20 #[] X fun e w' => e = .returned (.bool true) ∧ Below w.heap.size w w') := fun X hX => (works_any X).mono fun e w' h => ⟨h.1, hX.trans (h.2.mono hX.size)⟩
  have B0 := Lib.hid (Below.refl w.heap.size w)
  clear hr hm
  by_cases h1 : inB c 0 1000000000 = false
  · have e1 : taxR c l = (0, 1) := by unfold taxR; rw [if_pos h1]
    have H1 : Hid (∀ X, Below w.heap.size w X → Calls Try.prog 31 #[.int .i64 c, .slice A l.length ca] X fun e w' => e = .returned (.tuple #[.int .i64 0, .int .i64 1]) ∧ Below w.heap.size w w') := fun X hX => by
      have := HT.out c X hX
      rw [e1] at this
      exact this
    clear HT HN e1
    go_enter Try.func14, Try.ntmps14
    go_upto_region 2 with (go_at_call 31; refine (H1.out _ B0.out).mono ?_; rintro e w' ⟨rfl, hb⟩; have B1 := Lib.hid hb; clear hb)
    go_wp2_with (go_at_call 20; refine (HW.out _ B1.out).mono ?_; rintro e w' ⟨rfl, hb⟩; have BW := Lib.hid hb; clear hb)
    go_ret
    exact ⟨rfl, BW.out⟩
  by_cases h2 : brB l = false
  · have e1 : taxR c l = (0, 110) := by unfold taxR; rw [if_neg h1, if_pos h2]
    have H1 : Hid (∀ X, Below w.heap.size w X → Calls Try.prog 31 #[.int .i64 c, .slice A l.length ca] X fun e w' => e = .returned (.tuple #[.int .i64 0, .int .i64 110]) ∧ Below w.heap.size w w') := fun X hX => by
      have := HT.out c X hX
      rw [e1] at this
      exact this
    clear HT HN e1
    go_enter Try.func14, Try.ntmps14
    go_upto_region 2 with (go_at_call 31; refine (H1.out _ B0.out).mono ?_; rintro e w' ⟨rfl, hb⟩; have B1 := Lib.hid hb; clear hb)
    go_wp2_with (go_at_call 20; refine (HW.out _ B1.out).mono ?_; rintro e w' ⟨rfl, hb⟩; have BW := Lib.hid hb; clear hb)
    go_ret
    exact ⟨rfl, BW.out⟩
  have hok := brB_ok (l := l) (by simpa using h2)
  have hc := inB_le (x := c) (lo := 0) (hi := 1000000000) (by simpa using h1)
  have hv : ∀ x, inB x 0 1000000000 = true → taxR x l = (taxZ x l, 0) := fun x hx => by unfold taxR; rw [if_neg (by simp [hx]), if_neg h2]
  have hi : ∀ x, 0 ≤ x → x ≤ 1000000000 → inB x 0 1000000000 = true := fun x a b => by unfold inB; simp; omega
  obtain ⟨ta, hta⟩ : ∃ ta, ta = taxZ c l := ⟨_, rfl⟩
  have ha := tax_le hok hc.1
  rw [← hta] at ha
  have e1 : taxR c l = (ta, 0) := by rw [hta]; exact hv c (hi c hc.1 hc.2)
  have H1 : Hid (∀ X, Below w.heap.size w X → Calls Try.prog 31 #[.int .i64 c, .slice A l.length ca] X fun e w' => e = .returned (.tuple #[.int .i64 ta, .int .i64 0]) ∧ Below w.heap.size w w') := fun X hX => by
    have := HT.out c X hX
    rw [e1] at this
    exact this
  have HNN : Hid (∀ n e', NetR c l n e' → ∃ r, NetIs l c r ∧ ((1000000000 < r ∧ n = 0 ∧ e' = 3) ∨ (r ≤ 1000000000 ∧ n = r ∧ e' = 0))) := fun n e' h => by
    unfold NetR at h
    rw [if_neg h1, if_neg h2] at h
    exact h
  have HTV : Hid (∀ x X, 0 ≤ x → x ≤ 1000000000 → Below w.heap.size w X → Calls Try.prog 31 #[.int .i64 x, .slice A l.length ca] X fun e w' => e = .returned (.tuple #[.int .i64 (taxZ x l), .int .i64 0]) ∧ Below w.heap.size w w') := fun x X a b hX => by
    have := HT.out x X hX
    rw [hv x (hi x a b)] at this
    exact this
  have a0 : ¬ ta < 0 := by omega
  have a1 : ¬ c < ta := by omega
  by_cases h3 : inB more 0 1000000000 = false
  · have e2 : taxR more l = (0, 1) := by unfold taxR; rw [if_pos h3]
    have H2 : Hid (∀ X, Below w.heap.size w X → Calls Try.prog 31 #[.int .i64 more, .slice A l.length ca] X fun e w' => e = .returned (.tuple #[.int .i64 0, .int .i64 1]) ∧ Below w.heap.size w w') := fun X hX => by
      have := HT.out more X hX
      rw [e2] at this
      exact this
    clear HT hv e1 e2 h1 h2 h3 hi hta
    go_enter Try.func14, Try.ntmps14
    go_upto_region 6 with (go_at_call 31; refine (H1.out _ B0.out).mono ?_; rintro e w' ⟨rfl, hb⟩; have B1 := Lib.hid hb; clear hb)
    go_upto_region 9 with (go_at_call 31; refine (H2.out _ B1.out).mono ?_; rintro e w' ⟨rfl, hb⟩; have B2 := Lib.hid hb; clear hb)
    go_upto_region 10 with (go_at_call 33; refine (HN.out _ _ B2.out).mono ?_; rintro e w' ⟨n, e', rfl, hn, hb⟩)
    have B3 := Lib.hid hb
    obtain ⟨r, hr, hcase⟩ := HNN.out n e' hn
    clear hb hn HNN HN
    rcases hcase with ⟨hr1, rfl, rfl⟩ | ⟨hr1, rfl, rfl⟩
    · have hr9 : r = 1000000001 := by have := hr.2.1; omega
      have hlow := hr.2.2.2 (by omega)
      rw [hr9] at hlow
      have H5 := Lib.hid (fun X hX => HTV.out 1000000000 X (by decide) (by decide) hX)
      have hb5 := tax_le hok (c := 1000000000) (by decide)
      have hlow2 : 1000000000 - taxZ 1000000000 l < c := hlow
      generalize taxZ 1000000000 l = tt at H5 hb5 hlow2
      have ew : IntKind.i64.wrap (1000000000 - tt) = 1000000000 - tt := IntWalk.i64_in _ (by omega)
      clear hr hlow HTV
      go_upto_region 12 with (go_at_call 31; refine (H5.out _ B3.out).mono ?_; rintro e w' ⟨rfl, hb⟩; have B4 := Lib.hid hb; clear hb)
      go_wp2_with (go_at_call 20; refine (HW.out _ B4.out).mono ?_; rintro e w' ⟨rfl, hb⟩; have BW := Lib.hid hb; clear hb)
      go_ret
      exact ⟨ret_boolT (by simp), BW.out⟩
    · have hge := hr.2.2.1 hr1
      have hr0 := hr.1
      have H6 := Lib.hid (fun X hX => HTV.out n X hr0 hr1 hX)
      have hb6 := tax_le hok hr0
      have hlow : 0 < n → n - 1 - taxZ (n - 1) l < c := hr.2.2.2
      generalize taxZ n l = t6 at H6 hb6 hge
      have ew : IntKind.i64.wrap (n - t6) = n - t6 := IntWalk.i64_in _ (by omega)
      have g1 : ¬ n - t6 < c := by omega
      by_cases hn0 : 0 < n
      · have H7 := Lib.hid (fun X hX => HTV.out (n - 1) X (by omega) (by omega) hX)
        have hb7 := tax_le hok (c := n - 1) (by omega)
        have hlow2 := hlow hn0
        generalize taxZ (n - 1) l = t7 at H7 hb7 hlow2
        have ew1 : IntKind.i64.wrap (n - 1) = n - 1 := IntWalk.i64_in _ (by omega)
        have ew2 : IntKind.i64.wrap (n - 1 - t7) = n - 1 - t7 := IntWalk.i64_in _ (by omega)
        clear hr hlow HTV
        go_upto_region 14 with (go_at_call 31; refine (H6.out _ B3.out).mono ?_; rintro e w' ⟨rfl, hb⟩; have B4 := Lib.hid hb; clear hb)
        go_upto_region 18 with (go_at_call 31; refine (H7.out _ B4.out).mono ?_; rintro e w' ⟨rfl, hb⟩; have B5 := Lib.hid hb; clear hb)
        go_wp2_with (go_at_call 20; refine (HW.out _ B5.out).mono ?_; rintro e w' ⟨rfl, hb⟩; have BW := Lib.hid hb; clear hb)
        go_ret
        exact ⟨ret_boolT (by simp), BW.out⟩
      · clear hr hlow HTV
        go_upto_region 14 with (go_at_call 31; refine (H6.out _ B3.out).mono ?_; rintro e w' ⟨rfl, hb⟩; have B4 := Lib.hid hb; clear hb)
        go_wp2_with (go_at_call 20; refine (HW.out _ B4.out).mono ?_; rintro e w' ⟨rfl, hb⟩; have BW := Lib.hid hb; clear hb)
        all_goals go_ret
        all_goals exact ⟨rfl, BW.out⟩
  · obtain ⟨tb, htb⟩ : ∃ tb, tb = taxZ more l := ⟨_, rfl⟩
    have e2 : taxR more l = (tb, 0) := by rw [htb]; exact hv more (by simpa using h3)
    have hcm := inB_le (x := more) (lo := 0) (hi := 1000000000) (by simpa using h3)
    have hbm := tax_le hok hcm.1
    rw [← htb] at hbm
    have hbb : c ≤ more → ta ≤ tb ∧ tb - ta ≤ more - c := fun h => by rw [hta, htb]; exact tax_both hok hc.1 h
    have w1 : IntKind.i64.wrap (tb - ta) = tb - ta := IntWalk.i64_in _ (by omega)
    have w2 : IntKind.i64.wrap (more - c) = more - c := IntWalk.i64_in _ (by omega)
    have H2 : Hid (∀ X, Below w.heap.size w X → Calls Try.prog 31 #[.int .i64 more, .slice A l.length ca] X fun e w' => e = .returned (.tuple #[.int .i64 tb, .int .i64 0]) ∧ Below w.heap.size w w') := fun X hX => by
      have := HT.out more X hX
      rw [e2] at this
      exact this
    clear HT hv e1 e2 h1 h2 h3 hi hta htb
    by_cases hle : c ≤ more
    · have q := hbb hle
      have q1 : ¬ tb < ta := by omega
      have q2 : ¬ more - c < tb - ta := by omega
      clear q hbb
      go_enter Try.func14, Try.ntmps14
      go_upto_region 6 with (go_at_call 31; refine (H1.out _ B0.out).mono ?_; rintro e w' ⟨rfl, hb⟩; have B1 := Lib.hid hb; clear hb)
      go_upto_region 9 with (go_at_call 31; refine (H2.out _ B1.out).mono ?_; rintro e w' ⟨rfl, hb⟩; have B2 := Lib.hid hb; clear hb)
      go_upto_region 10 with (go_at_call 33; refine (HN.out _ _ B2.out).mono ?_; rintro e w' ⟨n, e', rfl, hn, hb⟩)
      have B3 := Lib.hid hb
      obtain ⟨r, hr, hcase⟩ := HNN.out n e' hn
      clear hb hn HNN HN
      rcases hcase with ⟨hr1, rfl, rfl⟩ | ⟨hr1, rfl, rfl⟩
      · have hr9 : r = 1000000001 := by have := hr.2.1; omega
        have hlow := hr.2.2.2 (by omega)
        rw [hr9] at hlow
        have H5 := Lib.hid (fun X hX => HTV.out 1000000000 X (by decide) (by decide) hX)
        have hb5 := tax_le hok (c := 1000000000) (by decide)
        have hlow2 : 1000000000 - taxZ 1000000000 l < c := hlow
        generalize taxZ 1000000000 l = tt at H5 hb5 hlow2
        have ew : IntKind.i64.wrap (1000000000 - tt) = 1000000000 - tt := IntWalk.i64_in _ (by omega)
        clear hr hlow HTV
        go_upto_region 12 with (go_at_call 31; refine (H5.out _ B3.out).mono ?_; rintro e w' ⟨rfl, hb⟩; have B4 := Lib.hid hb; clear hb)
        go_wp2_with (go_at_call 20; refine (HW.out _ B4.out).mono ?_; rintro e w' ⟨rfl, hb⟩; have BW := Lib.hid hb; clear hb)
        go_ret
        exact ⟨ret_boolT (by simp), BW.out⟩
      · have hge := hr.2.2.1 hr1
        have hr0 := hr.1
        have H6 := Lib.hid (fun X hX => HTV.out n X hr0 hr1 hX)
        have hb6 := tax_le hok hr0
        have hlow : 0 < n → n - 1 - taxZ (n - 1) l < c := hr.2.2.2
        generalize taxZ n l = t6 at H6 hb6 hge
        have ew : IntKind.i64.wrap (n - t6) = n - t6 := IntWalk.i64_in _ (by omega)
        have g1 : ¬ n - t6 < c := by omega
        by_cases hn0 : 0 < n
        · have H7 := Lib.hid (fun X hX => HTV.out (n - 1) X (by omega) (by omega) hX)
          have hb7 := tax_le hok (c := n - 1) (by omega)
          have hlow2 := hlow hn0
          generalize taxZ (n - 1) l = t7 at H7 hb7 hlow2
          have ew1 : IntKind.i64.wrap (n - 1) = n - 1 := IntWalk.i64_in _ (by omega)
          have ew2 : IntKind.i64.wrap (n - 1 - t7) = n - 1 - t7 := IntWalk.i64_in _ (by omega)
          clear hr hlow HTV
          go_upto_region 14 with (go_at_call 31; refine (H6.out _ B3.out).mono ?_; rintro e w' ⟨rfl, hb⟩; have B4 := Lib.hid hb; clear hb)
          go_upto_region 18 with (go_at_call 31; refine (H7.out _ B4.out).mono ?_; rintro e w' ⟨rfl, hb⟩; have B5 := Lib.hid hb; clear hb)
          go_wp2_with (go_at_call 20; refine (HW.out _ B5.out).mono ?_; rintro e w' ⟨rfl, hb⟩; have BW := Lib.hid hb; clear hb)
          go_ret
          exact ⟨ret_boolT (by simp), BW.out⟩
        · clear hr hlow HTV
          go_upto_region 14 with (go_at_call 31; refine (H6.out _ B3.out).mono ?_; rintro e w' ⟨rfl, hb⟩; have B4 := Lib.hid hb; clear hb)
          go_wp2_with (go_at_call 20; refine (HW.out _ B4.out).mono ?_; rintro e w' ⟨rfl, hb⟩; have BW := Lib.hid hb; clear hb)
          all_goals go_ret
          all_goals exact ⟨rfl, BW.out⟩
    · clear hbb
      go_enter Try.func14, Try.ntmps14
      go_upto_region 6 with (go_at_call 31; refine (H1.out _ B0.out).mono ?_; rintro e w' ⟨rfl, hb⟩; have B1 := Lib.hid hb; clear hb)
      go_upto_region 9 with (go_at_call 31; refine (H2.out _ B1.out).mono ?_; rintro e w' ⟨rfl, hb⟩; have B2 := Lib.hid hb; clear hb)
      go_upto_region 10 with (go_at_call 33; refine (HN.out _ _ B2.out).mono ?_; rintro e w' ⟨n, e', rfl, hn, hb⟩)
      have B3 := Lib.hid hb
      obtain ⟨r, hr, hcase⟩ := HNN.out n e' hn
      clear hb hn HNN HN
      rcases hcase with ⟨hr1, rfl, rfl⟩ | ⟨hr1, rfl, rfl⟩
      · have hr9 : r = 1000000001 := by have := hr.2.1; omega
        have hlow := hr.2.2.2 (by omega)
        rw [hr9] at hlow
        have H5 := Lib.hid (fun X hX => HTV.out 1000000000 X (by decide) (by decide) hX)
        have hb5 := tax_le hok (c := 1000000000) (by decide)
        have hlow2 : 1000000000 - taxZ 1000000000 l < c := hlow
        generalize taxZ 1000000000 l = tt at H5 hb5 hlow2
        have ew : IntKind.i64.wrap (1000000000 - tt) = 1000000000 - tt := IntWalk.i64_in _ (by omega)
        clear hr hlow HTV
        go_upto_region 12 with (go_at_call 31; refine (H5.out _ B3.out).mono ?_; rintro e w' ⟨rfl, hb⟩; have B4 := Lib.hid hb; clear hb)
        go_wp2_with (go_at_call 20; refine (HW.out _ B4.out).mono ?_; rintro e w' ⟨rfl, hb⟩; have BW := Lib.hid hb; clear hb)
        go_ret
        exact ⟨ret_boolT (by simp), BW.out⟩
      · have hge := hr.2.2.1 hr1
        have hr0 := hr.1
        have H6 := Lib.hid (fun X hX => HTV.out n X hr0 hr1 hX)
        have hb6 := tax_le hok hr0
        have hlow : 0 < n → n - 1 - taxZ (n - 1) l < c := hr.2.2.2
        generalize taxZ n l = t6 at H6 hb6 hge
        have ew : IntKind.i64.wrap (n - t6) = n - t6 := IntWalk.i64_in _ (by omega)
        have g1 : ¬ n - t6 < c := by omega
        by_cases hn0 : 0 < n
        · have H7 := Lib.hid (fun X hX => HTV.out (n - 1) X (by omega) (by omega) hX)
          have hb7 := tax_le hok (c := n - 1) (by omega)
          have hlow2 := hlow hn0
          generalize taxZ (n - 1) l = t7 at H7 hb7 hlow2
          have ew1 : IntKind.i64.wrap (n - 1) = n - 1 := IntWalk.i64_in _ (by omega)
          have ew2 : IntKind.i64.wrap (n - 1 - t7) = n - 1 - t7 := IntWalk.i64_in _ (by omega)
          clear hr hlow HTV
          go_upto_region 14 with (go_at_call 31; refine (H6.out _ B3.out).mono ?_; rintro e w' ⟨rfl, hb⟩; have B4 := Lib.hid hb; clear hb)
          go_upto_region 18 with (go_at_call 31; refine (H7.out _ B4.out).mono ?_; rintro e w' ⟨rfl, hb⟩; have B5 := Lib.hid hb; clear hb)
          go_wp2_with (go_at_call 20; refine (HW.out _ B5.out).mono ?_; rintro e w' ⟨rfl, hb⟩; have BW := Lib.hid hb; clear hb)
          go_ret
          exact ⟨ret_boolT (by simp), BW.out⟩
        · clear hr hlow HTV
          go_upto_region 14 with (go_at_call 31; refine (H6.out _ B3.out).mono ?_; rintro e w' ⟨rfl, hb⟩; have B4 := Lib.hid hb; clear hb)
          go_wp2_with (go_at_call 20; refine (HW.out _ B4.out).mono ?_; rintro e w' ⟨rfl, hb⟩; have BW := Lib.hid hb; clear hb)
          all_goals go_ret
          all_goals exact ⟨rfl, BW.out⟩
end Go.Proofs.Ytdechfjlbdbbnaa
