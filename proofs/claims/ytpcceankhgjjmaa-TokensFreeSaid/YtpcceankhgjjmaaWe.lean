/- Contracts of the deals: sell, ride, band, giveBack. Conditions: the fair as it stands reads as data. -/
import Derived.Test.YtpcceankhgjjmaaWd
import Derived.StillTailTactics
import Derived.BigRegion
import Derived.Deep.RegionHeld3
namespace Go.Proofs.Ytpcceankhgjjmaa
open Go.RowKit

section
variable {w : World} {B : Nat} {F : Fair} {R : Refs} {L : Locs} {C : Count}

set_option maxHeartbeats 1000000 in
set_option maxRecDepth 100000 in
theorem sell_any (d : Deal) (hS : Std w B F R L C) :
    Calls Try.prog 72 #[.pointer (some ⟨L.bs, 0, none⟩), dealV d] w (StepPost w B F R L (sellS F C d)) := by
  have hS0 := hS.alloc (.cells #[.int .i64 d.at_, .int .i64 d.kind, .int .i64 d.a, .int .i64 d.b, .int .i64 d.n] 65)
  have hc4 := hS.cell 4 (by omega)
  simp only [standCells, List.getElem?_cons_succ, List.getElem?_cons_zero] at hc4
  have hl := hS.box.lt
  have hb := bounds_of hS.val
  have hbu := hb.b
  unfold dealV
  by_cases ht : isTill F d.a = true
  · by_cases hp : isPurse F d.b = true
    · by_cases hn : inB d.n 0 ((F.bundles.length : Int) - 1) = true
      · obtain ⟨A1, c1, A2, c2, A3, c3⟩ := R
        have ht' := inB_iff.1 ht
        have hp' := inB_iff.1 hp
        have hn' := inB_iff.1 hn
        obtain ⟨at_, kind, a, b, n⟩ := d
        dsimp only at *
        obtain ⟨a, rfl⟩ := Int.eq_ofNat_of_zero_le ht'.1
        obtain ⟨b, rfl⟩ := Int.eq_ofNat_of_zero_le hp'.1
        obtain ⟨n, rfl⟩ := Int.eq_ofNat_of_zero_le hn'.1
        have hbd := bounds_of hS.val
        have hp2 := hbd.p1
        have hp3 := hbd.p2
        have ha : a < F.stock.length := by omega
        have hb1 : b < F.purses.toNat := by omega
        have hn1 : n < F.bundles.length := by omega
        have ha' : (a : Int) < (F.stock.length : Int) := by omega
        have hb' : (b : Int) < (F.purses.toNat : Int) := by omega
        have hn' : (n : Int) < (F.bundles.length : Int) := by omega
        have hb'' : (b : Int) < max F.purses 0 := by omega
        have h3 := hS.fair.s3
        dsimp only at h3
        obtain ⟨bb, bo, rfl, hbb, hbt, hbp⟩ := h3.at2 hn1
        clear h3
        have hc8 := hS.cell 8 (by omega)
        have hc9 := hS.cell 9 (by omega)
        have hc10 := hS.cell 10 (by omega)
        simp only [standCells, List.getElem?_cons_succ, List.getElem?_cons_zero] at hc8 hc9 hc10
        have hl1 := hS.r1.lt
        have hl2 := hS.r2.lt
        have hl3 := hS.r3.lt
        have hbw := hS.size
        have hbb' : bb < w.heap.size := by omega
        have hq1 : w.cell? ⟨L.g1, a, none⟩ = some (.int .i64 (geti C.stock a)) := (hS.r1.cell (by rw [intCells_length, hS.n1]; exact ha)).trans (intCells_at _ _ (by rw [hS.n1]; exact ha))
        have hq2 : w.cell? ⟨L.g2, a, none⟩ = some (.int .i64 (geti C.cash a)) := (hS.r2.cell (by rw [intCells_length, hS.n2]; exact ha)).trans (intCells_at _ _ (by rw [hS.n2]; exact ha))
        obtain ⟨hq3, _⟩ := hS.purse b hb1
        go_enter Try.func72, Try.ntmps72
        go_wp2_with fail
        go_quiet (first
          | (go_at_call 79; exact quiet_left (isTill_any _ (hS0.drewN _)))
          | (go_at_call 80; exact quiet_left (isPurse_any _ (hS0.drewN _)))
          | (go_at_call 59; exact quiet_left (within_any _ _ _ _)))
        go_wp2
        go_region
        go_wp2
        go_quiet (fail)
        go_wp2
        · have hlt : geti C.stock ↑a < (getb F.bundles ↑n).tokens := by assumption
          go_ret
          exact post_no (by simp [sellS, ht, hp, hn, hlt]) rfl (below_drewN ((below_drewN ((Below.refl _ _).alloc (Nat.le_refl _) _) _).alloc (by simp) _) _)
        · have hge : (getb F.bundles ↑n).tokens ≤ geti C.stock ↑a := by assumption
          have hf1 := hS.r1.frozen a
          have hf2 := hS.r2.frozen a
          have hf3 := hS.r3.frozen (b * 2)
          have hnd := hS.ne
          simp only [Locs.all, List.nodup_cons, List.mem_cons, List.not_mem_nil, or_false, not_or] at hnd
          obtain ⟨⟨n01, n02, n03, n04⟩, ⟨n12, n13, n14⟩, ⟨n23, n24⟩, n34, _⟩ := hnd
          refine wp_tail 13 (by kernel_rfl) (by kernel_rfl) ?_
          simp only [List.take_succ_cons, List.take_zero, List.drop_succ_cons, List.drop_zero]
          repeat still_step
          refine wpStill_nil ?_
          go_wp2
          refine wp_tail 15 (by kernel_rfl) (by kernel_rfl) ?_
          simp only [List.take_succ_cons, List.take_zero, List.drop_succ_cons, List.drop_zero]
          repeat still_step
          refine wpStill_nil ?_
          go_wp2
          refine wp_tail 13 (by kernel_rfl) (by kernel_rfl) ?_
          simp only [List.take_succ_cons, List.take_zero, List.drop_succ_cons, List.drop_zero]
          repeat still_step
          refine wpStill_nil ?_
          go_wp2
          go_ret
          refine post_yes (C' := { C with stock := subi C.stock a (getb F.bundles n).tokens, purses := addp C.purses b (getb F.bundles n).tokens, cash := addi C.cash a (getb F.bundles n).price }) ?_ rfl ?_ ?_
          · simp only [sellS, ht, hp, hn, Bool.not_true, Bool.or_self, Bool.false_eq_true, if_false]
            rw [if_neg (by omega)]
          · exact StandIn.set2 (C := { C with stock := subi C.stock a (getb F.bundles n).tokens, purses := addp C.purses b (getb F.bundles n).tokens })
              (StandIn.drewN (StandIn.set3a (C := { C with stock := subi C.stock a (getb F.bundles n).tokens })
                (StandIn.drewN (StandIn.set1 ((((hS.alloc _).drewN _).alloc _).drewN _) a _) _) b _ (by rw [hS.n3]; exact hb1)) _) a _
          · exact (((((((((KeptBut.refl _ _).alloc _).drewN _).alloc _).drewN _).set (by simp) _).drewN _).set (by simp) _).drewN _).set (by simp) _
      · go_enter Try.func72, Try.ntmps72
        go_wp2_with fail
        go_quiet (first
          | (go_at_call 79; exact quiet_left (isTill_any _ (hS0.drewN _)))
          | (go_at_call 80; exact quiet_left (isPurse_any _ (hS0.drewN _)))
          | (go_at_call 59; exact quiet_left (within_any _ _ _ _)))
        go_wp2
        go_ret
        exact post_no (by simp [sellS, hn]) rfl (below_drewN ((Below.refl _ _).alloc (Nat.le_refl _) _) _)
    · go_enter Try.func72, Try.ntmps72
      go_wp2_with fail
      go_quiet (first
        | (go_at_call 79; exact quiet_left (isTill_any _ (hS0.drewN _)))
        | (go_at_call 80; exact quiet_left (isPurse_any _ (hS0.drewN _)))
        | (go_at_call 59; exact quiet_left (within_any _ _ _ _)))
      go_wp2
      go_ret
      exact post_no (by simp [sellS, hp]) rfl (below_drewN ((Below.refl _ _).alloc (Nat.le_refl _) _) _)
  · go_enter Try.func72, Try.ntmps72
    go_wp2_with fail
    go_quiet (first
      | (go_at_call 79; exact quiet_left (isTill_any _ (hS0.drewN _)))
      | (go_at_call 80; exact quiet_left (isPurse_any _ (hS0.drewN _)))
      | (go_at_call 59; exact quiet_left (within_any _ _ _ _)))
    go_wp2
    go_ret
    exact post_no (by simp [sellS, ht]) rfl (below_drewN ((Below.refl _ _).alloc (Nat.le_refl _) _) _)
end
end Go.Proofs.Ytpcceankhgjjmaa
