/- Contracts of the deals giveBack. Conditions: the fair as it stands reads as data. -/
import Derived.Test.YtpcceankhgjjmaaWd
namespace Go.Proofs.Ytpcceankhgjjmaa
open Go.RowKit

section
variable {w : World} {B : Nat} {F : Fair} {R : Refs} {L : Locs} {C : Count}

set_option maxHeartbeats 2000000 in
set_option maxRecDepth 100000 in
theorem giveBack_any (d : Deal) (hS : Std w B F R L C) :
    Calls Try.prog 75 #[.pointer (some ⟨L.bs, 0, none⟩), dealV d] w (StepPost w B F R L (backS F C d)) := by
  have hS0 := hS.alloc (.cells #[.int .i64 d.at_, .int .i64 d.kind, .int .i64 d.a, .int .i64 d.b, .int .i64 d.n] 65)
  have hb := bounds_of hS.val
  obtain ⟨z0, z1, z2, z3, z4⟩ := hS.sizes
  unfold dealV
  by_cases ht : isTill F d.a = true
  case neg =>
    go_enter Try.func75, Try.ntmps75
    go_wp2_with (first | (go_at_call 79; refine (isTill_any _ hS0).mono ?_; rintro e w' ⟨rfl, rfl⟩))
    go_ret
    exact post_no (by simp [backS, ht]) rfl ((Below.refl _ _).alloc (Nat.le_refl _) _)
  by_cases hp : isPurse F d.b = true
  case neg =>
    go_enter Try.func75, Try.ntmps75
    go_wp2_with (first | (go_at_call 79; refine (isTill_any _ hS0).mono ?_; rintro e w' ⟨rfl, rfl⟩) | (go_at_call 80; refine (isPurse_any _ hS0).mono ?_; rintro e w' ⟨rfl, rfl⟩))
    go_ret
    exact post_no (by simp [backS, ht, hp]) rfl ((Below.refl _ _).alloc (Nat.le_refl _) _)
  by_cases hn : hasB C d.b d.n = true
  case neg =>
    go_enter Try.func75, Try.ntmps75
    go_wp2_with (first | (go_at_call 79; refine (isTill_any _ hS0).mono ?_; rintro e w' ⟨rfl, rfl⟩) | (go_at_call 80; refine (isPurse_any _ hS0).mono ?_; rintro e w' ⟨rfl, rfl⟩) | (go_at_call 82; refine (has_any _ _ hp hS0).mono ?_; rintro e w' ⟨rfl, rfl⟩))
    go_ret
    exact post_no (by simp [backS, ht, hp, hn]) rfl ((Below.refl _ _).alloc (Nat.le_refl _) _)
  obtain ⟨at_, kind, a, b, n⟩ := d
  dsimp only at *
  have ht' := inB_iff.1 ht
  obtain ⟨a, rfl⟩ := Int.eq_ofNat_of_zero_le ht'.1
  have hp' := inB_iff.1 hp
  obtain ⟨b, rfl⟩ := Int.eq_ofNat_of_zero_le hp'.1
  obtain ⟨p1, p2, x1, x2⟩ : 0 ≤ F.purses ∧ F.purses ≤ 20 ∧ 0 ≤ F.boxes ∧ F.boxes ≤ 12 := ⟨hb.p1, hb.p2, hb.x1, hb.x2⟩
  have m1 : max F.purses 0 = F.purses := by omega
  have m2 : max F.boxes 0 = F.boxes := by omega
  obtain ⟨hc5, hc6, hc7, hc8, hc9, hc10, hc11, hc12⟩ := hS.cells
  obtain ⟨⟨n01, n02, n03, n04⟩, ⟨n12, n13, n14⟩, ⟨n23, n24⟩, n34⟩ := hS.apart
  have la : a < F.stock.length := by omega
  have la' : (a : Int) < (F.stock.length : Int) := by omega
  obtain ⟨qa1, qa2, fa1, fa2⟩ := hS.till a la
  have lb : b < F.purses.toNat := by omega
  have lb' : (b : Int) < (F.purses.toNat : Int) := by omega
  have lb'' : (b : Int) < F.purses := by omega
  obtain ⟨qb3, qb3'⟩ := hS.purse b lb
  have fb3 := hS.r3.frozen (b * 2)
  have fb3' := hS.r3.frozen (b * 2 + 1)
  go_enter Try.func75, Try.ntmps75
  go_wp2_with (first | (go_at_call 79; refine (isTill_any _ hS0).mono ?_; rintro e w' ⟨rfl, rfl⟩) | (go_at_call 80; refine (isPurse_any _ hS0).mono ?_; rintro e w' ⟨rfl, rfl⟩) | (go_at_call 82; refine (has_any _ _ hp hS0).mono ?_; rintro e w' ⟨rfl, rfl⟩))
  go_quiet (fail)
  go_wp2
  go_quiet (fail)
  go_wp2
  · have hlt : geti C.cash ↑a < wrap64 (n * F.refund) := by assumption
    go_ret
    exact post_no (by simp [backS, ht, hp, hn, hlt]) rfl (below_drewN (below_drewN ((Below.refl _ _).alloc (Nat.le_refl _) _) _) _)
  refine wp_tail 15 (by kernel_rfl) (by kernel_rfl) ?_
  simp only [List.take_succ_cons, List.take_zero, List.drop_succ_cons, List.drop_zero]
  repeat still_step
  refine wpStill_nil ?_
  go_wp2
  refine wp_tail 13 (by kernel_rfl) (by kernel_rfl) ?_
  simp only [List.take_succ_cons, List.take_zero, List.drop_succ_cons, List.drop_zero]
  repeat still_step
  refine wpStill_nil ?_
  go_wp2
  refine wp_tail 12 (by kernel_rfl) (by kernel_rfl) ?_
  simp only [List.take_succ_cons, List.take_zero, List.drop_succ_cons, List.drop_zero]
  repeat still_step
  refine wpStill_nil ?_
  go_wp2
  have hge : wrap64 (n * F.refund) ≤ geti C.cash ↑a := by assumption
  go_ret
  refine post_yes (C' := { C with purses := subp C.purses b n, stock := addi C.stock a n, cash := subi C.cash a (wrap64 (n * F.refund)) }) ?_ rfl ?_ ?_
  · simp only [backS, ht, hp, hn, Bool.not_true, Bool.or_self, Bool.false_eq_true, if_false]
    rw [if_neg (by omega)]
  · exact StandIn.set2 (C := { C with purses := subp C.purses b n, stock := addi C.stock a n }) (StandIn.drewN (StandIn.set1 (C := { C with purses := subp C.purses b n })
      (StandIn.drewN (StandIn.set3a ((hS.alloc _).drewN _) b _ (by rw [hS.n3]; exact lb)) _) a _) _) a _
  · exact (((((((KeptBut.refl _ _).alloc _).drewN _).set (by simp) _).drewN _).set (by simp) _).drewN _).set (by simp) _
end
end Go.Proofs.Ytpcceankhgjjmaa
