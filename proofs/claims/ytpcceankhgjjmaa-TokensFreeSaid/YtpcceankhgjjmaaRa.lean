/- Contracts of the specification's within and Check. No conditions but that the fair reads as data. -/
import Derived.Test.YtpcceankhgjjmaaWc
import Derived.Test.YtpcceankhgjjmaaStand
namespace Go.Proofs.Ytpcceankhgjjmaa
open Go.RowKit

set_option maxHeartbeats 400000 in
theorem rwithin_any (n lo hi : Int) (w : World) :
    Calls Try.prog 44 #[.int .i64 n, .int .i64 lo, .int .i64 hi] w fun e w' => e = .returned (.bool (inB n lo hi)) ∧ w = w' := by
  go_enter Try.func44, Try.ntmps44
  go_wp2
  all_goals (go_ret; exact ⟨ret_bool (by simp [inB, *] <;> omega), rfl⟩)
theorem tills_no {F : Fair} (hn : F.cash.length = F.stock.length) (k : Nat) (hk : k < F.stock.length) (h : (inB (geti F.stock k) 0 100000 && inB (geti F.cash k) 0 1000000) = false) : validB F = false := by
  have : tillsB F = false := by
    unfold tillsB
    rcases Bool.and_eq_false_iff.1 h with h | h
    · have := allB_no F.stock k 0 100000 (by simp only [geti, Int.toNat_natCast] at h; rw [h]; rfl)
      rw [this]; simp; omega
    · have := allB_no F.cash k 0 1000000 (by simp only [geti, Int.toNat_natCast] at h; rw [h]; rfl)
      rw [this]; simp; omega
  simp [validB, this]
theorem tills_snoc (F : Fair) (hn : F.cash.length = F.stock.length) (k : Nat) (hk : k < F.stock.length) (h : (allB (F.stock.take k) 0 100000 && allB (F.cash.take k) 0 1000000) = true) (h1 : inB (geti F.stock k) 0 100000 = true) (h2 : inB (geti F.cash k) 0 1000000 = true) :
    (allB (F.stock.take (k + 1)) 0 100000 && allB (F.cash.take (k + 1)) 0 1000000) = true := by
  rw [allB_snoc _ _ _ _ hk, allB_snoc _ _ _ _ (by omega)]
  simp only [geti, Int.toNat_natCast] at h1 h2
  simp only [Bool.and_eq_true] at h ⊢
  exact ⟨⟨h.1, h1⟩, h.2, h2⟩
theorem bund_no {F : Fair} (k : Nat) (hk : k < F.bundles.length) (h : bundleB F.refund (getb F.bundles k) = false) : validB F = false := by
  have : bundlesB F = false := bundles_no _ _ _ hk h
  simp [validB, this]

/-- What Check answers. -/
def chkE (F : Fair) : Int := if validB F then 0 else 10
theorem chk_no {F : Fair} (h : validB F = false) : 10 = chkE F := by simp [chkE, h]
theorem chk_yes {F : Fair} (h : validB F = true) : 0 = chkE F := by simp [chkE, h]

set_option maxHeartbeats 4000000 in
set_option maxRecDepth 100000 in
theorem rCheck_any (F : Fair) (R : Refs) (w : World) (B : Nat) (hB : B ≤ w.heap.size) (hF : FairIn w B F R) :
    Calls Try.prog 17 #[fairV F R] w fun e w' => e = .returned (.int .i64 (chkE F)) ∧ Below w.heap.size w w' := by
  obtain ⟨A1, c1, A2, c2, A3, c3⟩ := R
  have H1 := hF.s1
  have H2 := hF.s2
  have H3 := hF.s3
  have l1 := hF.l1
  have l2 := hF.l2
  have l3 := hF.l3
  unfold maxLen at l1 l2 l3
  dsimp only at H1 H2 H3
  have ba := (Below.refl w.heap.size w).alloc (Nat.le_refl _) (.cells (fairCells F ⟨A1, c1, A2, c2, A3, c3⟩) 25)
  unfold fairCells at ba
  unfold fairV
  dsimp only at ba ⊢
  cases hs : sizesB F with
  | false =>
    have Hv : Hid (validB F = false) := by show _ = _; simp [validB, hs]
    go_enter Try.func17, Try.ntmps17
    go_wp2_with (go_at_call 44; refine (rwithin_any _ _ _ _).mono ?_; rintro e w' ⟨rfl, rfl⟩)
    all_goals first | (go_ret; exact ⟨ret_int (chk_no Hv.out), ba⟩) | (exfalso; revert hs; simp [sizesB, *]; done) | (exfalso; revert hs; simp [sizesB, *]; omega)
  | true =>
    simp only [sizesB, Bool.and_eq_true, decide_eq_true_eq] at hs
    obtain ⟨⟨⟨⟨s1, s2⟩, s3⟩, s4⟩, s5⟩ := hs
    have e2 : F.cash.length = F.stock.length := by omega
    have s2' : ((F.cash.length : Int) != (F.stock.length : Int)) = false := by simp [s2]
    have E2 := Lib.hid e2
    have Hs : Hid (sizesB F = true) := by show _ = _; simp [sizesB, s1, s2, s3, s4, s5]
    clear e2 s2
    go_enter Try.func17, Try.ntmps17
    go_wp2_with (go_at_call 44; refine (rwithin_any _ _ _ _).mono ?_; rintro e w' ⟨rfl, rfl⟩)
    have r0 := Row.new w 25 #[.int .i64 F.purses, .int .i64 F.boxes, .slice A1 F.stock.length c1, .slice A2 F.cash.length c2, .slice A3 F.bundles.length c3, .int .i64 F.refund, .int .i64 F.band, .int .i64 F.hours]
    have K1 := H1.alloc hB (.cells #[.int .i64 F.purses, .int .i64 F.boxes, .slice A1 F.stock.length c1, .slice A2 F.cash.length c2, .slice A3 F.bundles.length c3, .int .i64 F.refund, .int .i64 F.band, .int .i64 F.hours] 25)
    have K2 := H2.alloc hB (.cells #[.int .i64 F.purses, .int .i64 F.boxes, .slice A1 F.stock.length c1, .slice A2 F.cash.length c2, .slice A3 F.bundles.length c3, .int .i64 F.refund, .int .i64 F.band, .int .i64 F.hours] 25)
    have K3 := H3.alloc hB (.cells #[.int .i64 F.purses, .int .i64 F.boxes, .slice A1 F.stock.length c1, .slice A2 F.cash.length c2, .slice A3 F.bundles.length c3, .int .i64 F.refund, .int .i64 F.band, .int .i64 F.hours] 25)
    have zW : w.heap.size < (w.alloc (.cells #[.int .i64 F.purses, .int .i64 F.boxes, .slice A1 F.stock.length c1, .slice A2 F.cash.length c2, .slice A3 F.bundles.length c3, .int .i64 F.refund, .int .i64 F.band, .int .i64 F.hours] 25)).heap.size := by simp
    generalize w.alloc (.cells #[.int .i64 F.purses, .int .i64 F.boxes, .slice A1 F.stock.length c1, .slice A2 F.cash.length c2, .slice A3 F.bundles.length c3, .int .i64 F.refund, .int .i64 F.band, .int .i64 F.hours] 25) = W at *
    have q2 : W.cell? ⟨w.heap.size, 2, none⟩ = some (.slice A1 F.stock.length c1) := r0.cell (j := 2) (by simp)
    have q3 : W.cell? ⟨w.heap.size, 3, none⟩ = some (.slice A2 F.cash.length c2) := r0.cell (j := 3) (by simp)
    have q4 : W.cell? ⟨w.heap.size, 4, none⟩ = some (.slice A3 F.bundles.length c3) := r0.cell (j := 4) (by simp)
    have q5 : W.cell? ⟨w.heap.size, 5, none⟩ = some (.int .i64 F.refund) := r0.cell (j := 5) (by simp)
    have q6 : W.cell? ⟨w.heap.size, 6, none⟩ = some (.int .i64 F.band) := r0.cell (j := 6) (by simp)
    have q7 : W.cell? ⟨w.heap.size, 7, none⟩ = some (.int .i64 F.hours) := r0.cell (j := 7) (by simp)
    go_loop [3] (fun i => ∃ k : Nat, k ≤ F.stock.length ∧ i = .int .i64 k ∧ (allB (F.stock.take k) 0 100000 && allB (F.cash.take k) 0 1000000) = true) (fun i => F.stock.length - (intOf i).toNat)
    case atStart => exact ⟨0, Nat.zero_le _, rfl, rfl⟩
    case round =>
      obtain ⟨k, hk, rfl, hall⟩ := hrel
      have Hall := Lib.hid hall
      clear hall
      by_cases hlt : k < F.stock.length
      · have hlt2 : k < F.cash.length := by have := E2.out; omega
        obtain ⟨b, o, rfl, hb, hc⟩ := K1.at1 hlt
        obtain ⟨b', o', rfl, hb', hc'⟩ := K2.at1 hlt2
        have p1 : W.cell? ⟨b, o + k, none⟩ = some (.int .i64 (geti F.stock k)) := hc k hlt
        have p2 : W.cell? ⟨b', o' + k, none⟩ = some (.int .i64 (geti F.cash k)) := hc' k hlt2
        clear hc hc'
        cases h1 : inB (geti F.stock k) 0 100000 with
        | false =>
          have Hv : Hid (validB F = false) := tills_no E2.out k hlt (by rw [h1]; rfl)
          go_wp2_with (go_at_call 44; refine (rwithin_any _ _ _ _).mono ?_; rintro e w' ⟨rfl, rfl⟩)
          go_ret
          exact ⟨ret_int (chk_no Hv.out), ba⟩
        | true =>
          cases h2 : inB (geti F.cash k) 0 1000000 with
          | false =>
            have Hv : Hid (validB F = false) := tills_no E2.out k hlt (by rw [h1, h2]; rfl)
            go_wp2_with (go_at_call 44; refine (rwithin_any _ _ _ _).mono ?_; rintro e w' ⟨rfl, rfl⟩)
            go_ret
            exact ⟨ret_int (chk_no Hv.out), ba⟩
          | true =>
            have Hn : Hid ((allB (F.stock.take (k + 1)) 0 100000 && allB (F.cash.take (k + 1)) 0 1000000) = true) := tills_snoc F E2.out k hlt Hall.out h1 h2
            go_wp2_with (go_at_call 44; refine (rwithin_any _ _ _ _).mono ?_; rintro e w' ⟨rfl, rfl⟩)
            go_round
            case rel => exact ⟨k + 1, by omega, by go_num, Hn.out⟩
            case measure => simp [intOf]; omega
      · have Ht : Hid (tillsB F = true) := by
          show _ = _
          have := Hall.out
          rw [List.take_of_length_le (by omega), List.take_of_length_le (by have := E2.out; omega)] at this
          exact this
        cases hp : pricesB F with
        | false =>
          have Hv : Hid (validB F = false) := by show _ = _; simp [validB, hp]
          go_wp2_with (go_at_call 44; refine (rwithin_any _ _ _ _).mono ?_; rintro e w' ⟨rfl, rfl⟩)
          all_goals first | (go_ret; exact ⟨ret_int (chk_no Hv.out), ba⟩) | (exfalso; revert hp; simp [pricesB, *]; simp_all; done)
        | true =>
          have Hp := Lib.hid hp
          simp only [pricesB, Bool.and_eq_true] at hp
          obtain ⟨⟨p1, p2⟩, p3⟩ := hp
          go_wp2_with (go_at_call 44; refine (rwithin_any _ _ _ _).mono ?_; rintro e w' ⟨rfl, rfl⟩)
          clear q2 q3 q6 q7
          go_loopw [4] (fun i wr => ∃ k : Nat, k ≤ F.bundles.length ∧ i = .int .i64 k ∧ Below w.heap.size w wr ∧ Below W.heap.size W wr ∧ (F.bundles.take k).all (bundleB F.refund) = true) (fun i _ => F.bundles.length - (intOf i).toNat)
          case atStart => exact ⟨0, Nat.zero_le _, rfl, ba, Below.refl _ _, rfl⟩
          case round =>
            obtain ⟨k, hk, rfl, hbel, hbW, hall⟩ := hrel
            have Hall := Lib.hid hall
            clear hall
            have hs := hbel.size
            have hsW := hbW.size
            have u4 : wr.cell? ⟨w.heap.size, 4, none⟩ = some (.slice A3 F.bundles.length c3) := (hbW.cell (p := ⟨w.heap.size, 4, none⟩) zW).trans q4
            have u5 : wr.cell? ⟨w.heap.size, 5, none⟩ = some (.int .i64 F.refund) := (hbW.cell (p := ⟨w.heap.size, 5, none⟩) zW).trans q5
            clear q4 q5
            by_cases hlt : k < F.bundles.length
            · have h3 := K3.below (hbW.mono (by omega))
              obtain ⟨b, o, rfl, hb, hc0, hc1⟩ := h3.at2 hlt
              have zb : b < wr.heap.size := by omega
              have zw : w.heap.size < wr.heap.size := by omega
              have u0 : ∀ x, (wr.alloc x).cell? ⟨w.heap.size, 5, none⟩ = some (.int .i64 F.refund) := fun x => by rw [World.cell?_alloc_lt _ _ _ zw]; exact u5
              clear h3
              cases hbb : bundleB F.refund (getb F.bundles k) with
              | false =>
                have Hv : Hid (validB F = false) := bund_no k hlt hbb
                have Hbb := Lib.hid hbb
                clear hbb
                go_wp2_with (go_at_call 44; refine (rwithin_any _ _ _ _).mono ?_; rintro e w' ⟨rfl, rfl⟩)
                all_goals first | (go_ret; exact ⟨ret_int (chk_no Hv.out), hbel.alloc hs _⟩) | (exfalso; have := Hbb.out; revert this; simp [bundleB, *]; done) | (exfalso; have := Hbb.out; revert this; simp [bundleB, *]; omega)
              | true =>
                have Hbb := Lib.hid hbb
                simp only [bundleB, Bool.and_eq_true, Bool.not_eq_true', decide_eq_false_iff_not] at hbb
                obtain ⟨⟨b1, b2⟩, b3⟩ := hbb
                go_wp2_with (go_at_call 44; refine (rwithin_any _ _ _ _).mono ?_; rintro e w' ⟨rfl, rfl⟩)
                go_roundw
                case rel => exact ⟨k + 1, by omega, by go_num, hbel.alloc hs _, hbW.alloc hsW _, by rw [bundles_snoc _ _ _ hlt, Hall.out, Hbb.out]; rfl⟩
                case measure => simp [intOf]; omega
            · have Hv : Hid (validB F = true) := by
                show _ = _
                have := Hall.out
                rw [List.take_of_length_le (by omega)] at this
                have hbs : bundlesB F = true := this
                simp [validB, Hs.out, Ht.out, Hp.out, hbs]
              go_wp2
              go_ret
              exact ⟨ret_int (chk_yes Hv.out), hbel⟩
end Go.Proofs.Ytpcceankhgjjmaa
