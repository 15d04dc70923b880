/- Contract of cost: how many tokens so many bundles have, and what they cost. Conditions: the arguments read as data. -/
import Derived.Test.YtpcceankhgjjmaaGa
namespace Go.Proofs.Ytpcceankhgjjmaa
open Go.RowKit

def CostPost (w : World) (F : Fair) (cs : List Int) (e : Ending) (w' : World) : Prop :=
  e = .returned (.tuple #[.int .i64 (costS F cs).1, .int .i64 (costS F cs).2.1, .bool (costS F cs).2.2]) ∧ Below w.heap.size w w'
theorem cost_no {F : Fair} {cs : List Int} (k : Nat) (hk : k < cs.length) (h : inB (geti cs k) 0 1000 = false) : costS F cs = (0, 0, false) := by
  have : allB cs 0 1000 = false := by
    have := allB_no cs k 0 1000 (by simp only [geti, Int.toNat_natCast] at h; rw [h]; rfl)
    rw [this]; simp; omega
  unfold costS
  split
  · simp [this]
  · rfl

set_option maxHeartbeats 2000000 in
set_option maxRecDepth 100000 in
theorem cost_any (F : Fair) (R : Refs) (cs : List Int) (A : Option Addr) (c B : Nat) (w : World) (hB : B ≤ w.heap.size) (hF : FairIn w B F R) (hc : Reads w B 1 A cs.length (intCells cs)) (hn : cs.length ≤ maxLen) :
    Calls Try.prog 41 #[fairV F R, .slice A cs.length c] w (CostPost w F cs) := by
  obtain ⟨A1, c1, A2, c2, A3, c3⟩ := R
  have H3 := hF.s3
  have l3 := hF.l3
  unfold maxLen at l3 hn
  dsimp only at H3
  have ba := (Below.refl w.heap.size w).alloc (Nat.le_refl _) (.cells #[.int .i64 F.purses, .int .i64 F.boxes, .slice A1 F.stock.length c1, .slice A2 F.cash.length c2, .slice A3 F.bundles.length c3, .int .i64 F.refund, .int .i64 F.band, .int .i64 F.hours] 25)
  unfold fairV
  dsimp only
  by_cases hl : cs.length = F.bundles.length
  · have hl1 : ((cs.length : Int) != (F.bundles.length : Int)) = false := by simp [hl]
    have Hl := Lib.hid hl
    clear hl
    have r0 := Row.new w 25 #[.int .i64 F.purses, .int .i64 F.boxes, .slice A1 F.stock.length c1, .slice A2 F.cash.length c2, .slice A3 F.bundles.length c3, .int .i64 F.refund, .int .i64 F.band, .int .i64 F.hours]
    have K1 := hc.alloc hB (.cells #[.int .i64 F.purses, .int .i64 F.boxes, .slice A1 F.stock.length c1, .slice A2 F.cash.length c2, .slice A3 F.bundles.length c3, .int .i64 F.refund, .int .i64 F.band, .int .i64 F.hours] 25)
    have K3 := H3.alloc hB (.cells #[.int .i64 F.purses, .int .i64 F.boxes, .slice A1 F.stock.length c1, .slice A2 F.cash.length c2, .slice A3 F.bundles.length c3, .int .i64 F.refund, .int .i64 F.band, .int .i64 F.hours] 25)
    have zW : w.heap.size < (w.alloc (.cells #[.int .i64 F.purses, .int .i64 F.boxes, .slice A1 F.stock.length c1, .slice A2 F.cash.length c2, .slice A3 F.bundles.length c3, .int .i64 F.refund, .int .i64 F.band, .int .i64 F.hours] 25)).heap.size := by simp
    go_enter Try.func41, Try.ntmps41
    go_wp2_with fail
    generalize w.alloc (.cells #[.int .i64 F.purses, .int .i64 F.boxes, .slice A1 F.stock.length c1, .slice A2 F.cash.length c2, .slice A3 F.bundles.length c3, .int .i64 F.refund, .int .i64 F.band, .int .i64 F.hours] 25) = W at *
    have q4 : W.cell? ⟨w.heap.size, 4, none⟩ = some (.slice A3 F.bundles.length c3) := r0.cell (j := 4) (by simp)
    go_loopw [7, 8, 9] (fun n p i wr => ∃ k : Nat, k ≤ cs.length ∧ i = .int .i64 k ∧ n = .int .i64 (costN F.bundles cs k) ∧ p = .int .i64 (costP F.bundles cs k) ∧ KeptBut [] W wr ∧ allB (cs.take k) 0 1000 = true) (fun _ _ i _ => cs.length - (intOf i).toNat)
    case atStart => exact ⟨0, Nat.zero_le _, rfl, rfl, rfl, KeptBut.refl _ _, rfl⟩
    case round =>
      obtain ⟨k, hk, rfl, rfl, rfl, hkr, hall⟩ := hrel
      have Hall := Lib.hid hall
      clear hall
      have bel : Below w.heap.size w wr := ba.trans (hkr.to_below (by omega) (by simp))
      by_cases hlt : k < cs.length
      · have hlt2 : k < F.bundles.length := by have := Hl.out; omega
        have hlt3 : (k : Int) < (cs.length : Int) := by omega
        have hlt4 : (k : Int) < (F.bundles.length : Int) := by omega
        have hsz := hkr.size
        have u4 : wr.cell? ⟨w.heap.size, 4, none⟩ = some (.slice A3 F.bundles.length c3) := (World.cell?_of_block (hkr.block w.heap.size zW (by simp))).trans q4
        clear q4
        obtain ⟨b, o, rfl, hb, hcc⟩ := (K1.keep (w' := wr) fun p hp => World.cell?_of_block (hkr.block p.block (by omega) (by simp))).at1 hlt
        have hck : wr.cell? ⟨b, o + k, none⟩ = some (.int .i64 (geti cs k)) := hcc k hlt
        clear hcc
        obtain ⟨b', o', rfl, hb', hc0, hc1⟩ := (K3.keep (w' := wr) fun p hp => World.cell?_of_block (hkr.block p.block (by omega) (by simp))).at2 hlt2
        cases h1 : inB (geti cs k) 0 1000 with
        | false =>
          have Hv : Hid (costS F cs = (0, 0, false)) := cost_no k hlt h1
          by_cases g0 : geti cs k < 0
          · clear h1
            go_wp2_with fail
            go_ret3
            exact ⟨by rw [Hv.out]; rfl, bel⟩
          · have g1 : 1000 < geti cs k := by
              rcases Int.lt_or_le 1000 (geti cs k) with h | h
              · exact h
              · rw [inB_iff.2 ⟨by omega, h⟩] at h1; cases h1
            clear h1
            go_wp2_with fail
            go_ret3
            exact ⟨by rw [Hv.out]; rfl, bel⟩
        | true =>
          have H1 := Lib.hid h1
          obtain ⟨g0, g1⟩ := inB_iff.1 h1
          clear h1
          have Hn : Hid (allB (cs.take (k + 1)) 0 1000 = true) := by
            show _ = _
            have h1 := H1.out
            simp only [geti, Int.toNat_natCast] at h1
            rw [allB_snoc _ _ _ _ hlt, Hall.out, h1]; rfl
          have E1 : Hid (costN F.bundles cs (k + 1) = wrap64 (costN F.bundles cs k + wrap64 (geti cs k * (getb F.bundles k).tokens))) := by show _ = _; rfl
          have E2 : Hid (costP F.bundles cs (k + 1) = wrap64 (costP F.bundles cs k + wrap64 (geti cs k * (getb F.bundles k).price))) := by show _ = _; rfl
          go_wp2_with fail
          go_quiet (fail)
          go_wp2_with fail
          go_quiet (fail)
          go_wp2_with fail
          go_roundw
          case rel => exact ⟨k + 1, by omega, by go_num, by rw [E1.out], by rw [E2.out], by repeat (first | (with_reducible exact hkr) | (with_reducible refine KeptBut.drewN ?_ _)), Hn.out⟩
          case measure => simp [intOf]; omega
      · have hge : ¬ (k : Int) < (cs.length : Int) := by omega
        have ek : k = cs.length := by omega
        have Hv : Hid (costS F cs = (costN F.bundles cs k, costP F.bundles cs k, true)) := by
          show _ = _
          have := Hall.out
          rw [ek, List.take_length] at this
          unfold costS
          rw [if_pos Hl.out, if_pos this, ek]
        clear ek
        go_wp2_with fail
        go_ret3
        exact ⟨by rw [Hv.out]; rfl, bel⟩
  · have hl1 : ((cs.length : Int) != (F.bundles.length : Int)) = true := by rw [bne_iff_ne]; omega
    have Hv : Hid (costS F cs = (0, 0, false)) := by show _ = _; unfold costS; rw [if_neg hl]
    clear hl
    go_enter Try.func41, Try.ntmps41
    go_wp2_with fail
    go_ret3
    exact ⟨by rw [Hv.out]; rfl, ba⟩
end Go.Proofs.Ytpcceankhgjjmaa
