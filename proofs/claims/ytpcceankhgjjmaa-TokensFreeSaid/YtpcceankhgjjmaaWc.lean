/- Contracts of validBundles, valid and Check. No conditions but that the fair reads as data. -/
import Derived.Test.YtpcceankhgjjmaaWb
namespace Go.Proofs.Ytpcceankhgjjmaa
open Go.RowKit

theorem bundles_snoc (r : Int) (l : List Bundle) (k : Nat) (h : k < l.length) : (l.take (k + 1)).all (bundleB r) = ((l.take k).all (bundleB r) && bundleB r (getb l k)) := by
  rw [List.take_succ_eq_append_getElem h, List.all_append]; simp [getb, List.getElem?_eq_getElem h]
theorem bundles_no (r : Int) (l : List Bundle) (k : Nat) (hk : k < l.length) (h : bundleB r (getb l k) = false) : l.all (bundleB r) = false := by
  rw [List.all_eq_false]
  refine ⟨l[k], List.getElem_mem hk, ?_⟩
  simp only [getb, Int.toNat_natCast, List.getElem?_eq_getElem hk, Option.getD_some] at h
  simp [h]

set_option maxHeartbeats 1000000 in
theorem validBundles_any (F : Fair) (R : Refs) (w : World) (B : Nat) (hB : B ≤ w.heap.size) (hF : FairIn w B F R) :
    Calls Try.prog 66 #[fairV F R] w fun e w' => e = .returned (.bool (bundlesB F)) ∧ Below w.heap.size w w' := by
  obtain ⟨A1, c1, A2, c2, A3, c3⟩ := R
  unfold fairV
  have hl3 := hF.l3
  unfold maxLen at hl3
  go_enter Try.func66, Try.ntmps66
  go_wp2_with fail
  go_loopw [8] (fun i wr => ∃ k : Nat, k ≤ F.bundles.length ∧ i = .int .i64 k ∧ Below w.heap.size w wr ∧ w.heap.size < wr.heap.size ∧ wr.cell? ⟨w.heap.size, 5, none⟩ = some (.int .i64 F.refund) ∧ (F.bundles.take k).all (bundleB F.refund) = true) (fun i _ => F.bundles.length - (intOf i).toNat)
  case atStart => exact ⟨0, Nat.zero_le _, rfl, (Below.refl _ _).alloc (Nat.le_refl _) _, by simp, by simp [World.cell?_alloc_new], rfl⟩
  case round =>
    obtain ⟨k, hk, rfl, hbel, hsz, hc5, hall⟩ := hrel
    have Hall := Lib.hid hall
    clear hall
    have hs := hbel.size
    by_cases hlt : k < F.bundles.length
    · have h3 := (hF.below (hbel.mono hB)).s3
      dsimp only at h3
      obtain ⟨b, o, rfl, hb, hc0, hc1⟩ := h3.at2 hlt
      clear h3
      go_wp2_with (go_at_call 59; refine (within_any _ _ _ _).mono ?_; rintro e w' ⟨rfl, rfl⟩)
      · have h1 : (!inB (getb F.bundles ↑k).price 1 1000000) = true := by assumption
        go_ret
        exact ⟨ret_bool (bundles_no _ _ _ hlt (by simp at h1; simp [bundleB, h1])).symm, hbel.alloc hs _⟩
      · have h1 : (getb F.bundles ↑k).price < wrap64 (F.refund * (getb F.bundles ↑k).tokens) := by assumption
        go_ret
        exact ⟨ret_bool (bundles_no _ _ _ hlt (by simp [bundleB, h1])).symm, hbel.alloc hs _⟩
      · have h1 : inB (getb F.bundles ↑k).tokens 1 1000 = true := by assumption
        have h2 : (!inB (getb F.bundles ↑k).price 1 1000000) = false := by assumption
        have h3 : wrap64 (F.refund * (getb F.bundles ↑k).tokens) ≤ (getb F.bundles ↑k).price := by assumption
        go_roundw
        case rel => exact ⟨k + 1, by omega, by go_num, hbel.alloc hs _, by simp; omega, by simp [World.cell?_alloc_lt, hsz, hc5], by rw [bundles_snoc _ _ _ hlt, Hall.out]; simp at h2; simp [bundleB, h1, h2]; omega⟩
        case measure => simp [intOf]; omega
      · have h1 : ¬inB (getb F.bundles ↑k).tokens 1 1000 = true := by assumption
        go_ret
        exact ⟨ret_bool (bundles_no _ _ _ hlt (by simp [bundleB, h1])).symm, hbel.alloc hs _⟩
    · have e : k = F.bundles.length := by omega
      have He := Lib.hid e
      clear e
      go_wp2
      go_ret
      refine ⟨ret_bool ?_, hbel⟩
      have := Hall.out
      rw [He.out, List.take_length] at this
      exact this.symm

set_option maxHeartbeats 1000000 in
theorem valid_any (F : Fair) (R : Refs) (w : World) (B : Nat) (hB : B ≤ w.heap.size) (hF : FairIn w B F R) :
    Calls Try.prog 43 #[fairV F R] w fun e w' => e = .returned (.bool (validB F)) ∧ Below w.heap.size w w' := by
  unfold fairV
  go_enter Try.func43, Try.ntmps43
  have hF0 := hF.alloc hB (.cells (fairCells F R) 25)
  have ba := (Below.refl w.heap.size w).alloc (Nat.le_refl _) (.cells (fairCells F R) 25)
  go_wp2_with fail
  refine (validSizes_any F R _ hF.l1 hF.l2 hF.l3).mono ?_
  rintro e w1 ⟨rfl, hb1⟩
  obtain ⟨hc1, hf1⟩ := bcell hb1
  have b1 := ba.trans (hb1.mono (by simp))
  have F1 := hF0.below (hb1.mono (by simp; omega))
  have z1 : w.heap.size < w1.heap.size := by have := hb1.size; simp at this; omega
  go_wp2_with fail
  · have h1 : sizesB F = true := by assumption
    refine (validTills_any F R _ B (by omega) F1).mono ?_
    rintro e w2 ⟨rfl, hb2⟩
    obtain ⟨hc2, hf2⟩ := bcell hb2
    have b2 := b1.trans (hb2.mono (by omega))
    have F2 := F1.below (hb2.mono (by omega))
    have z2 : w.heap.size < w2.heap.size := by have := hb2.size; omega
    go_wp2_with fail
    · have h2 : tillsB F = true := by assumption
      refine (validPrices_any F R _).mono ?_
      rintro e w3 ⟨rfl, hb3⟩
      obtain ⟨hc3, hf3⟩ := bcell hb3
      have b3 := b2.trans (hb3.mono (by omega))
      have F3 := F2.below (hb3.mono (by omega))
      have z3 : w.heap.size < w3.heap.size := by have := hb3.size; omega
      go_wp2_with fail
      · have h3 : pricesB F = true := by assumption
        refine (validBundles_any F R _ B (by omega) F3).mono ?_
        rintro e w4 ⟨rfl, hb4⟩
        have b4 := b3.trans (hb4.mono (by omega))
        go_wp2
        go_ret
        exact ⟨ret_bool (by simp [validB, h1, h2, h3]), b4⟩
      · have h3 : ¬pricesB F = true := by assumption
        go_ret
        exact ⟨ret_bool (by simp [validB, h3]), b3⟩
    · have h2 : ¬tillsB F = true := by assumption
      go_ret
      exact ⟨ret_bool (by simp [validB, h2]), b2⟩
  · have h1 : ¬sizesB F = true := by assumption
    go_ret
    exact ⟨ret_bool (by simp [validB, h1]), b1⟩

set_option maxHeartbeats 1000000 in
theorem Check_any (F : Fair) (R : Refs) (w : World) (B : Nat) (hB : B ≤ w.heap.size) (hF : FairIn w B F R) :
    Calls Try.prog 16 #[fairV F R] w fun e w' => e = .returned (.int .i64 (if validB F then 0 else 10)) ∧ Below w.heap.size w w' := by
  unfold fairV
  go_enter Try.func16, Try.ntmps16
  have hF0 := hF.alloc hB (.cells (fairCells F R) 25)
  have ba := (Below.refl w.heap.size w).alloc (Nat.le_refl _) (.cells (fairCells F R) 25)
  go_wp2_with fail
  refine (valid_any F R _ B (by simp; omega) hF0).mono ?_
  rintro e w1 ⟨rfl, hb1⟩
  have b1 := ba.trans (hb1.mono (by simp))
  go_wp2
  all_goals (go_ret; exact ⟨ret_int (by simp_all), b1⟩)
end Go.Proofs.Ytpcceankhgjjmaa
