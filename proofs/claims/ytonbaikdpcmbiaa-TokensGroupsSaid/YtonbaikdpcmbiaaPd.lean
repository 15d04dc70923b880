/- Contract of the specification's prices. Conditions: the fair reads as data and is valid; at most 2000 tokens. -/
import Derived.Test.YtonbaikdpcmbiaaPo
import Derived.Test.YtonbaikdpcmbiaaWk
import Derived.Test.YtonbaikdpcmbiaaRa
namespace Go.Proofs.Ytonbaikdpcmbiaa
open Go.RowKit

theorem minB_snoc (os : List Int) (t : Nat) (bs : List Bundle) (j : Nat) (h : j < bs.length) : ∀ a, minB os t (bs.take (j + 1)) a =
    if (getb bs j).tokens ≤ t then min (minB os t (bs.take j) a) (wrap64 (geti os ((t : Int) - (getb bs j).tokens) + (getb bs j).price)) else minB os t (bs.take j) a := by
  induction bs generalizing j with
  | nil => simp at h
  | cons b bs ih =>
    intro a
    cases j with
    | zero => simp [minB, getb]
    | succ j =>
      have := ih j (by simpa using h)
      simp only [List.take_succ_cons, minB, getb, Int.toNat_natCast, List.getElem?_cons_succ] at *
      exact this _
/-- The list of prices while that of k + 1 tokens is looked for. -/
def midP (bs : List Bundle) (most k : Nat) (a : Int) : List Int := prL bs k ++ a :: List.replicate (most - (k + 1)) 0
def endP (bs : List Bundle) (most k : Nat) : List Int := prL bs k ++ List.replicate (most - k) 0
theorem midP_length (bs : List Bundle) (most k : Nat) (a : Int) (h : k < most) : (midP bs most k a).length = most + 1 := by
  simp [midP, prL_length]; omega
theorem endP_length (bs : List Bundle) (most k : Nat) (h : k ≤ most) : (endP bs most k).length = most + 1 := by
  simp [endP, prL_length]; omega
theorem endP_set (bs : List Bundle) (most k : Nat) (a : Int) (h : k < most) : (endP bs most k).set (k + 1) a = midP bs most k a := by
  have hl := prL_length bs k
  rw [endP, midP, List.set_append_right _ _ (by omega), hl, show most - k = (most - (k + 1)) + 1 from by omega, List.replicate_succ]
  simp
theorem midP_set (bs : List Bundle) (most k : Nat) (a x : Int) : (midP bs most k a).set (k + 1) x = midP bs most k x := by
  have hl := prL_length bs k
  rw [midP, midP, List.set_append_right _ _ (by omega), hl]
  simp
theorem midP_end (bs : List Bundle) (most k : Nat) : midP bs most k (minB (prL bs k) (k + 1) bs 1125899906842624) = endP bs most (k + 1) := by
  simp [midP, endP, prL]
theorem midP_at (bs : List Bundle) (most k : Nat) (a : Int) : geti (midP bs most k a) ((k + 1 : Nat) : Int) = a := by
  have hl := prL_length bs k
  simp only [midP, geti, Int.toNat_natCast]
  rw [List.getElem?_append_right (by omega), hl]
  simp
theorem midP_lo (bs : List Bundle) (most k : Nat) (a : Int) (u : Nat) (h : u ≤ k) : geti (midP bs most k a) u = geti (prL bs k) u := geti_app _ _ _ (by rw [prL_length]; omega)
theorem int_set (l : List Int) (i : Nat) (x : Int) : (intCells l).set i (.int .i64 x) = intCells (l.set i x) := by simp [intCells, List.map_set]
theorem int_at {w : World} {g : Nat} {t : TypeId} {l : List Int} (h : Row w g t (intCells l)) {k : Nat} (hk : k < l.length) : w.cell? ⟨g, k, none⟩ = some (.int .i64 (geti l k)) := by
  rw [h.cell (by simpa [intCells] using hk)]
  simp [intCells, geti, List.getElem?_eq_getElem hk]
theorem Try.info_intP : (Try.prog.info? 3).map (fun i => (i.zero, i.size, i.bytes)) = some (some (.int .i64 0), 1, 8) := by kernel_rfl
theorem getb_in2 (l : List Bundle) (k : Nat) (h : k < l.length) : getb l k ∈ l := by
  simp only [getb, Int.toNat_natCast, List.getElem?_eq_getElem h, Option.getD_some]; exact List.getElem_mem h
def PrRet (w : World) (bs : List Bundle) (most : Nat) (e : Ending) (w' : World) : Prop :=
  ∃ g, Below w.heap.size w w' ∧ w.heap.size ≤ g ∧ Row w' g 3 (intCells (prL bs most)) ∧ e = .returned (.slice (some ⟨g, 0, none⟩) (most + 1) (most + 1))

set_option maxHeartbeats 4000000 in
set_option maxRecDepth 100000 in
theorem prices_any (F : Fair) (R : Refs) (fr most : Nat) (B : Nat) (w : World) (hB : B ≤ w.heap.size) (hF : FairIn w B F R) (hv : validB F = true) (hfr : fr ≤ F.bundles.length) (hm : most ≤ 2000) :
    Calls Try.prog 61 #[fairV F R, .int .i64 fr, .int .i64 most] w (PrRet w (F.bundles.drop fr) most) := by
  obtain ⟨A1, c1, A2, c2, A3, c3⟩ := R
  have hbd := bounds_of hv
  have hb6 := hbd.b
  obtain ⟨i0, hi, hz0, hz1, hz2⟩ := info_parts Try.info_intP
  have hmk := fun W => run_make_rowN (P := Try.prog) 22 3 i0 _ Try.underlying22 hi hz0 .i64 .i64 (most + 1) (most + 1) (Nat.le_refl _) (by rw [hz2]; omega) (by omega) W
  rw [hz1, Nat.mul_one] at hmk
  have ec : ((most + 1 : Nat) : Int) = (most : Int) + 1 := by omega
  rw [ec] at hmk
  clear ec
  obtain ⟨W, hW⟩ : ∃ W, W = w.alloc (.cells (fairCells F ⟨A1, c1, A2, c2, A3, c3⟩) 25) := ⟨_, rfl⟩
  have sW : W.heap.size = w.heap.size + 1 := by subst hW; simp
  have bW : Below w.heap.size w W := by subst hW; exact (Below.refl _ _).alloc (Nat.le_refl _) _
  have rF : Row W w.heap.size 25 [.int .i64 F.purses, .int .i64 F.boxes, .slice A1 F.stock.length c1, .slice A2 F.cash.length c2, .slice A3 F.bundles.length c3, .int .i64 F.refund, .int .i64 F.band, .int .i64 F.hours] := by subst hW; exact Row.new _ _ _
  have hst : Row (W.alloc (.cells (madeCells #[.int .i64 0] (most + 1)) 3)) (w.heap.size + 1) 3 (intCells (endP (F.bundles.drop fr) most 0)) := by
    have h := new_ints W (w.heap.size + 1) (most + 1) sW.symm
    have e : List.replicate (most + 1) (0 : Int) = endP (F.bundles.drop fr) most 0 := by simp [endP, prL, List.replicate_succ]
    rw [e] at h
    exact h
  unfold fairV
  dsimp only
  go_enter Try.func61, Try.ntmps61
  go_wp2_with fail
  rw [← hW]
  have HW := Lib.hid hW
  have SW := Lib.hid sW
  clear hW sW
  have q4 : W.cell? ⟨w.heap.size, 4, none⟩ = some (.slice A3 F.bundles.length c3) := rF.cell (j := 4) (by simp)
  go_wp2_with fail
  have Hst := Lib.hid hst
  clear hst hmk q4
  go_loopw [8] (fun t wr => ∃ k : Nat, k ≤ most ∧ t = .int .i64 (k + 1 : Nat) ∧ Below W.heap.size W wr ∧ w.heap.size + 1 < wr.heap.size ∧ Row wr (w.heap.size + 1) 3 (intCells (endP (F.bundles.drop fr) most k))) (fun t _ => most + 1 - (intOf t).toNat)
  case atStart => exact ⟨0, Nat.zero_le _, rfl, (Below.refl _ _).alloc (Nat.le_refl _) _, by have := SW.out; simp; omega, Hst.out⟩
  case round =>
    obtain ⟨k, hk, rfl, hbel, hsz, hrow⟩ := hrel
    obtain ⟨wo, rfl⟩ : ∃ wo : World, wo = wr := ⟨_, rfl⟩
    by_cases hlt : k < most
    · have hle : ((k + 1 : Nat) : Int) ≤ (most : Int) := by omega
      have hno : ¬ (most : Int) < ((k + 1 : Nat) : Int) := by omega
      have hx0 : (k : Int) + 1 < (most : Int) + 1 := by omega
      have hfz := hrow.frozen
      have hce := int_at hrow (k := k + 1) (by rw [endP_length _ _ _ hk]; omega)
      go_wp2_with fail
      have hrow2 := hrow.set (k + 1) (.int .i64 1125899906842624)
      rw [int_set, endP_set _ _ _ _ hlt] at hrow2
      have Hrow2 := Lib.hid hrow2
      clear hrow hrow2 hfz hce
      go_loopw [9, 10] (fun i _ wr => ∃ j : Nat, j ≤ F.bundles.length - fr ∧ i = .int .i64 (fr + j : Nat) ∧ Below W.heap.size W wr ∧ w.heap.size + 1 < wr.heap.size ∧ Row wr (w.heap.size + 1) 3 (intCells (midP (F.bundles.drop fr) most k (minB (prL (F.bundles.drop fr) k) (k + 1) ((F.bundles.drop fr).take j) 1125899906842624)))) (fun i _ _ => F.bundles.length - (intOf i).toNat)
      case atStart => exact ⟨0, Nat.zero_le _, rfl, by repeat (first | (with_reducible exact hbel) | (with_reducible refine Below.setCell ?_ (by have := SW.out; simp; omega) _)), by simp [World.setCell]; omega, by simpa [minB] using Hrow2.out⟩
      case round =>
        obtain ⟨j, hj, rfl, hbel', hsz', hrow⟩ := hrel
        have q4 : wr.cell? ⟨w.heap.size, 4, none⟩ = some (.slice A3 F.bundles.length c3) := (rF.below hbel' (by have := SW.out; omega)).cell (j := 4) (by simp)
        by_cases hjl : fr + j < F.bundles.length
        · have hjl' : ((fr + j : Nat) : Int) < (F.bundles.length : Int) := by omega
          have hdj : j < (F.bundles.drop fr).length := by simp; omega
          obtain ⟨bb, bo, rfl, hbb, hbt, hbp⟩ := ((hF.below (bW.mono hB)).below (hbel'.mono (by have := SW.out; omega))).s3.at2 hjl
          have hbw : bb < wr.heap.size := by omega
          have eb : getb F.bundles ((fr + j : Nat) : Int) = getb (F.bundles.drop fr) j := by simp only [getb, Int.toNat_natCast, List.getElem?_drop]
          rw [eb] at hbt hbp
          have hb5 := hbd.bu _ (getb_in2 F.bundles (fr + j) hjl)
          rw [eb] at hb5
          have Hsn := Lib.hid (minB_snoc (prL (F.bundles.drop fr) k) (k + 1) (F.bundles.drop fr) j hdj 1125899906842624)
          have hlm := midP_length (F.bundles.drop fr) most k (minB (prL (F.bundles.drop fr) k) (k + 1) ((F.bundles.drop fr).take j) 1125899906842624) hlt
          have d1 := int_at hrow (k := k + 1) (by omega)
          rw [midP_at] at d1
          generalize getb (F.bundles.drop fr) j = b at *
          obtain ⟨bt, bp⟩ := b
          dsimp only at *
          obtain ⟨tk, rfl⟩ := Int.eq_ofNat_of_zero_le (show 0 ≤ bt by omega)
          have hfz := hrow.frozen
          by_cases hbig : (tk : Int) ≤ (k : Int) + 1
          · have c1 := int_at hrow (k := k + 1 - tk) (by omega)
            rw [midP_lo _ _ _ _ _ (by omega)] at c1
            have hx1 : 0 ≤ (k : Int) + 1 - tk := by omega
            have hx2 : (k : Int) + 1 - tk < (most : Int) + 1 := by omega
            have hx3 : 0 ≤ (k : Int) + 1 := by omega
            have hx4 : ((k : Int) + 1).toNat = k + 1 := by omega
            have hx5 : ((k : Int) + 1 - tk).toNat = k + 1 - tk := by omega
            have ei : Hid (((k + 1 : Nat) : Int) - (tk : Int) = ((k + 1 - tk : Nat) : Int)) := by show _ = _; omega
            have Hbig : Hid ((tk : Int) ≤ ((k + 1 : Nat) : Int)) := by show _ ≤ _; omega
            clear hlm
            generalize minB (prL (F.bundles.drop fr) k) (k + 1) ((F.bundles.drop fr).take j) 1125899906842624 = mv at *
            generalize hpv : geti (prL (F.bundles.drop fr) k) ((k + 1 - tk : Nat) : Int) = pv at *
            have Hpv := Lib.hid hpv
            clear hpv
            have hw2 : IntKind.i64.wrap (pv + bp) = wrap64 (pv + bp) := by rw [IntKind.wrap_i64]; unfold wrap64; rfl
            generalize hxv : wrap64 (pv + bp) = xv at *
            have Hxv := Lib.hid hxv
            clear hxv
            by_cases hless : xv < mv
            · have hmn : Hid (min mv xv = xv) := by show _ = _; omega
              go_wp2_with fail
              have hw1 : IntKind.i64.wrap ((k : Int) + 1 - (tk : Int)) = (k : Int) + 1 - (tk : Int) := IntWalk.i64_in _ (by omega)
              refine wp_tail 18 (by kernel_rfl) (by kernel_rfl) ?_
              simp only [List.take_succ_cons, List.take_zero, List.drop_succ_cons, List.drop_zero]
              repeat still_step
              refine wpStill_nil ?_
              clear hw1 hw2
              go_wp2_with fail
              go_roundw
              case rel => exact ⟨j + 1, by omega, by go_num, by repeat (first | (with_reducible exact hbel') | (with_reducible refine below_drewN ?_ _) | (with_reducible refine Below.alloc ?_ (by have := hbel'.size; omega) _) | (with_reducible refine Below.setCell ?_ (by have := SW.out; dsimp only; omega) _)), by simp [World.setCell]; omega, by
                rw [Hsn.out, if_pos Hbig.out, ei.out, Hpv.out, Hxv.out, hmn.out]
                have h3 := ((hrow.alloc (.cells #[.int .i64 tk, .int .i64 bp] 67)).drewN 1).set (k + 1) (.int .i64 xv)
                rw [int_set, midP_set] at h3
                with_reducible exact h3⟩
              case measure => simp [intOf]; omega
            · have hmn : Hid (min mv xv = mv) := by show _ = _; omega
              go_wp2_with fail
              have hw1 : IntKind.i64.wrap ((k : Int) + 1 - (tk : Int)) = (k : Int) + 1 - (tk : Int) := IntWalk.i64_in _ (by omega)
              refine wp_tail 18 (by kernel_rfl) (by kernel_rfl) ?_
              simp only [List.take_succ_cons, List.take_zero, List.drop_succ_cons, List.drop_zero]
              repeat still_step
              refine wpStill_nil ?_
              clear hw1 hw2
              go_wp2_with fail
              go_roundw
              case rel => exact ⟨j + 1, by omega, by go_num, by repeat (first | (with_reducible exact hbel') | (with_reducible refine below_drewN ?_ _) | (with_reducible refine Below.alloc ?_ (by have := hbel'.size; omega) _) | (with_reducible refine Below.setCell ?_ (by have := SW.out; dsimp only; omega) _)), by simp [World.setCell]; omega, by
                rw [Hsn.out, if_pos Hbig.out, ei.out, Hpv.out, Hxv.out, hmn.out]
                have h3 := ((hrow.alloc (.cells #[.int .i64 tk, .int .i64 bp] 67)).drewN 1).set (k + 1) (.int .i64 mv)
                rw [int_set, midP_set] at h3
                with_reducible exact h3⟩
              case measure => simp [intOf]; omega
          · have hno2 : ¬ (tk : Int) ≤ ((k + 1 : Nat) : Int) := by omega
            have Hno := Lib.hid hno2
            clear hno2
            go_wp2_with fail
            go_roundw
            case rel => exact ⟨j + 1, by omega, by go_num, hbel'.alloc hbel'.size _, by simp; omega, by rw [Hsn.out, if_neg Hno.out]; exact hrow.alloc _⟩
            case measure => simp [intOf]; omega
        · have hjl' : ¬ ((fr + j : Nat) : Int) < (F.bundles.length : Int) := by omega
          have ej : j = F.bundles.length - fr := by omega
          have Hj := Lib.hid ej
          clear ej
          go_wp2_with fail
          go_roundw
          case rel => exact ⟨k + 1, by omega, by go_num, hbel', hsz', by have := hrow; rw [Hj.out, List.take_of_length_le (by simp), midP_end] at this; exact this⟩
          case measure => simp [intOf]; omega
    · have hle : ¬ ((k + 1 : Nat) : Int) ≤ (most : Int) := by omega
      have hno : (most : Int) < ((k + 1 : Nat) : Int) := by omega
      have ek : k = most := by omega
      subst ek
      go_wp2_with fail
      go_ret
      exact ⟨w.heap.size + 1, bW.trans (hbel.mono (by have := SW.out; omega)), by omega, by have := hrow; simpa [endP] using this, rfl⟩
end Go.Proofs.Ytonbaikdpcmbiaa
