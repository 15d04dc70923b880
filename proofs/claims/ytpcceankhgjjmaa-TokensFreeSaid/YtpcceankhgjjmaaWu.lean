/- Contracts of Buy and sameInts. Conditions: the arguments read as data. -/
import Derived.Test.YtpcceankhgjjmaaWr
import Derived.Test.YtpcceankhgjjmaaWt
namespace Go.Proofs.Ytpcceankhgjjmaa
open Go.RowKit

/-- What Buy answers: the numbers of bundles, the price, the error. -/
def buyS (F : Fair) (n : Int) : List Int × Int × Int :=
  if validB F = false then ([], 0, 10) else if inB n 0 1000 = false then ([], 0, 1) else if 0 < n ∧ F.bundles.length = 0 then ([], 0, 3) else
  ((cheapS F.bundles n.toNat).1, (cheapS F.bundles n.toNat).2, 0)
def BuyPost (w : World) (F : Fair) (n : Int) (e : Ending) (w' : World) : Prop :=
  Below w.heap.size w w' ∧ ∃ A m c, e = .returned (.tuple #[.slice A m c, .int .i64 (buyS F n).2.1, .int .i64 (buyS F n).2.2]) ∧ Reads w' w'.heap.size 1 A m (intCells (buyS F n).1) ∧ m ≤ 6

theorem getb_mem (l : List Bundle) (k : Nat) (h : k < l.length) : getb l k ∈ l := by
  simp only [getb, Int.toNat_natCast, List.getElem?_eq_getElem h, Option.getD_some]; exact List.getElem_mem h

set_option maxHeartbeats 1000000 in
set_option maxRecDepth 100000 in
theorem Buy_any (F : Fair) (R : Refs) (n : Int) (w : World) (B : Nat) (hB : B ≤ w.heap.size) (hF : FairIn w B F R) :
    Calls Try.prog 33 #[fairV F R, .int .i64 n] w (BuyPost w F n) := by
  have hF0 := hF.alloc hB (.cells (fairCells F R) 25)
  have ba := (Below.refl w.heap.size w).alloc (Nat.le_refl _) (.cells (fairCells F R) 25)
  have r0 := Row.new w 25 (fairCells F R)
  unfold fairV
  go_enter Try.func33, Try.ntmps33
  go_wp2_with fail
  refine (valid_any F R _ B (by simp; omega) hF0).mono ?_
  rintro e w1 ⟨rfl, hb1⟩
  have b1 := below_step ba hb1
  have F1 := hF.below (b1.mono hB)
  have s1 := b1.size
  have q4 : w1.cell? ⟨w.heap.size, 4, none⟩ = some (.slice R.A3 F.bundles.length R.c3) := (r0.below hb1 r0.lt).cell (j := 4) (by simp)
  cases hv : validB F with
  | false =>
    have hq : Hid (buyS F n = ([], 0, 10)) := by show _ = _; simp [buyS, hv]
    go_wp2_with fail
    go_ret3
    exact ⟨b1, none, 0, 0, by rw [hq.out]; rfl, by rw [hq.out]; exact Reads.none_, by omega⟩
  | true =>
    have hbd := bounds_of hv
    cases hn : inB n 0 1000 with
    | false =>
      have hq : Hid (buyS F n = ([], 0, 1)) := by show _ = _; simp [buyS, hv, hn]
      go_wp2_with (go_at_call 59; refine (within_any _ _ _ _).mono ?_; rintro e w' ⟨rfl, rfl⟩)
      go_ret3
      exact ⟨b1, none, 0, 0, by rw [hq.out]; rfl, by rw [hq.out]; exact Reads.none_, by omega⟩
    | true =>
      have hn' := inB_iff.1 hn
      obtain ⟨k, rfl⟩ := Int.eq_ofNat_of_zero_le hn'.1
      have hb6 := hbd.b
      by_cases hz : 0 < k ∧ F.bundles.length = 0
      · obtain ⟨hz1, hz2⟩ := hz
        have hq : Hid (buyS F k = ([], 0, 3)) := by show _ = _; simp [buyS, hv, hn, hz2]; omega
        have hz1' : (0 : Int) < (k : Int) := by omega
        have hz2' : ((F.bundles.length : Int) == 0) = true := by rw [hz2]; rfl
        clear hz2
        go_wp2_with (go_at_call 59; refine (within_any _ _ _ _).mono ?_; rintro e w' ⟨rfl, rfl⟩)
        go_ret3
        exact ⟨b1, none, 0, 0, by rw [hq.out]; rfl, by rw [hq.out]; exact Reads.none_, by omega⟩
      · have hq : Hid (buyS F k = ((cheapS F.bundles k).1, (cheapS F.bundles k).2, 0)) := by
          show _ = _
          simp only [buyS, hv, hn, Bool.true_eq_false, if_false, Int.toNat_natCast]
          rw [if_neg (by omega)]
        have hpos : ∀ i, i < F.bundles.length → 1 ≤ (getb F.bundles i).tokens ∧ (getb F.bundles i).tokens ≤ 1000 := fun i hi => by
          have := hbd.bu _ (getb_mem _ i hi); omega
        have hlen : ((cheapS F.bundles k).1).length = F.bundles.length := by simp [cheapS, traceB_length]
        have hch := cheapest_any F.bundles R.A3 R.c3 B k w1 (by omega) F1.s3 (by omega) hb6 (fun i hi => (hpos i hi).1)
          ⟨waysK_length _ _ _, fun t h0 h1 h2 => by
            obtain ⟨i, tok, a1, a2, a3, a4, a5, a6, _⟩ := (ways_link F.bundles (fun i hi => (hpos i hi).1) _ t h0 h1).1 h2
            exact ⟨i, tok, a1, a2, a3, a4, a5, a6⟩⟩ (best_can F.bundles hpos k (by omega))
        have Hch := Lib.hid hch
        clear hch
        have fin : ∀ (e : Ending) (w2 : World), CRet w1 F.bundles k e w2 → ∃ gc, e = .returned (.tuple #[.slice (some ⟨gc, 0, none⟩) F.bundles.length F.bundles.length, .int .i64 (cheapS F.bundles k).2]) ∧ Below w.heap.size w w2 ∧ Reads w2 w2.heap.size 1 (some ⟨gc, 0, none⟩) F.bundles.length (intCells (cheapS F.bundles k).1) := by
          rintro e w2 ⟨gc, hb2, hgc, hrow, he⟩
          exact ⟨gc, he, below_step b1 hb2, hrow.reads (by rw [intCells_length, hlen]; omega) hrow.lt⟩
        have Fin := Lib.hid fin
        clear fin hlen
        by_cases hk : 0 < k
        · have hk1 : (0 : Int) < (k : Int) := by omega
          have hz2' : ((F.bundles.length : Int) == 0) = false := by
            rw [beq_eq_false_iff_ne]
            intro h
            exact hz ⟨hk, by omega⟩
          clear hz
          go_wp2_with (go_at_call 59; refine (within_any _ _ _ _).mono ?_; rintro e w' ⟨rfl, rfl⟩)
          refine Hch.out.mono ?_
          intro e w2 hp
          obtain ⟨gc, rfl, hb2, hrd⟩ := Fin.out e w2 hp
          go_wp2_with fail
          go_ret3
          exact ⟨hb2, _, _, _, by rw [hq.out]; rfl, by rw [hq.out]; exact hrd, hb6⟩
        · have hk1 : ¬ (0 : Int) < (k : Int) := by omega
          clear hz
          go_wp2_with (go_at_call 59; refine (within_any _ _ _ _).mono ?_; rintro e w' ⟨rfl, rfl⟩)
          refine Hch.out.mono ?_
          intro e w2 hp
          obtain ⟨gc, rfl, hb2, hrd⟩ := Fin.out e w2 hp
          go_wp2_with fail
          go_ret3
          exact ⟨hb2, _, _, _, by rw [hq.out]; rfl, by rw [hq.out]; exact hrd, hb6⟩
end Go.Proofs.Ytpcceankhgjjmaa
