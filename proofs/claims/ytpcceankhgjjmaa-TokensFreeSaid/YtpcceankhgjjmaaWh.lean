/- Contracts of the deals give and lose. Conditions: the fair as it stands reads as data. -/
import Derived.Test.YtpcceankhgjjmaaWd
namespace Go.Proofs.Ytpcceankhgjjmaa
open Go.RowKit

section
variable {w : World} {B : Nat} {F : Fair} {R : Refs} {L : Locs} {C : Count}

set_option maxHeartbeats 2000000 in
set_option maxRecDepth 100000 in
theorem give_any (d : Deal) (hS : Std w B F R L C) :
    Calls Try.prog 77 #[.pointer (some ⟨L.bs, 0, none⟩), dealV d] w (StepPost w B F R L (giveS F C d)) := by
  have hS0 := hS.alloc (.cells #[.int .i64 d.at_, .int .i64 d.kind, .int .i64 d.a, .int .i64 d.b, .int .i64 d.n] 65)
  have hb := bounds_of hS.val
  obtain ⟨z0, z1, z2, z3, z4⟩ := hS.sizes
  unfold dealV
  by_cases hp : isPurse F d.a = true
  case neg =>
    go_enter Try.func77, Try.ntmps77
    go_wp2_with (first | (go_at_call 80; refine (isPurse_any _ hS0).mono ?_; rintro e w' ⟨rfl, rfl⟩))
    go_ret
    exact post_no (by simp [giveS, hp]) rfl ((Below.refl _ _).alloc (Nat.le_refl _) _)
  by_cases hq : isPurse F d.b = true
  case neg =>
    go_enter Try.func77, Try.ntmps77
    go_wp2_with (first | (go_at_call 80; refine (isPurse_any _ hS0).mono ?_; rintro e w' ⟨rfl, rfl⟩) | (go_at_call 80; refine (isPurse_any _ hS0).mono ?_; rintro e w' ⟨rfl, rfl⟩))
    go_ret
    exact post_no (by simp [giveS, hp, hq]) rfl ((Below.refl _ _).alloc (Nat.le_refl _) _)
  by_cases hne : ¬ d.a = d.b
  case neg =>
    have hn1 : (d.a == d.b) = true := by simpa using hne
    go_enter Try.func77, Try.ntmps77
    go_wp2_with (first | (go_at_call 80; refine (isPurse_any _ hS0).mono ?_; rintro e w' ⟨rfl, rfl⟩) | (go_at_call 80; refine (isPurse_any _ hS0).mono ?_; rintro e w' ⟨rfl, rfl⟩))
    go_ret
    exact post_no (by simp [giveS, hp, hq, hne]) rfl ((Below.refl _ _).alloc (Nat.le_refl _) _)
  by_cases hn : hasB C d.a d.n = true
  case neg =>
    have hn1 : (d.a == d.b) = false := by simpa using hne
    go_enter Try.func77, Try.ntmps77
    go_wp2_with (first | (go_at_call 80; refine (isPurse_any _ hS0).mono ?_; rintro e w' ⟨rfl, rfl⟩) | (go_at_call 80; refine (isPurse_any _ hS0).mono ?_; rintro e w' ⟨rfl, rfl⟩) | (go_at_call 82; refine (has_any _ _ hp hS0).mono ?_; rintro e w' ⟨rfl, rfl⟩))
    go_ret
    exact post_no (by simp [giveS, hp, hq, hn]) rfl ((Below.refl _ _).alloc (Nat.le_refl _) _)
  obtain ⟨at_, kind, a, b, n⟩ := d
  dsimp only at *
  have hp' := inB_iff.1 hp
  obtain ⟨a, rfl⟩ := Int.eq_ofNat_of_zero_le hp'.1
  have hq' := inB_iff.1 hq
  obtain ⟨b, rfl⟩ := Int.eq_ofNat_of_zero_le hq'.1
  obtain ⟨p1, p2, x1, x2⟩ : 0 ≤ F.purses ∧ F.purses ≤ 20 ∧ 0 ≤ F.boxes ∧ F.boxes ≤ 12 := ⟨hb.p1, hb.p2, hb.x1, hb.x2⟩
  have m1 : max F.purses 0 = F.purses := by omega
  have m2 : max F.boxes 0 = F.boxes := by omega
  obtain ⟨hc5, hc6, hc7, hc8, hc9, hc10, hc11, hc12⟩ := hS.cells
  obtain ⟨⟨n01, n02, n03, n04⟩, ⟨n12, n13, n14⟩, ⟨n23, n24⟩, n34⟩ := hS.apart
  have la : a < F.purses.toNat := by omega
  have la' : (a : Int) < (F.purses.toNat : Int) := by omega
  have la'' : (a : Int) < F.purses := by omega
  obtain ⟨qa3, qa3'⟩ := hS.purse a la
  have fa3 := hS.r3.frozen (a * 2)
  have fa3' := hS.r3.frozen (a * 2 + 1)
  have lb : b < F.purses.toNat := by omega
  have lb' : (b : Int) < (F.purses.toNat : Int) := by omega
  have lb'' : (b : Int) < F.purses := by omega
  obtain ⟨qb3, qb3'⟩ := hS.purse b lb
  have fb3 := hS.r3.frozen (b * 2)
  have fb3' := hS.r3.frozen (b * 2 + 1)
  have hn1 : ((a : Int) == (b : Int)) = false := by simpa using hne
  have hab : ¬ a = b := by omega
  have hba : ¬ b = a := by omega
  go_enter Try.func77, Try.ntmps77
  go_wp2_with (first | (go_at_call 80; refine (isPurse_any _ hS0).mono ?_; rintro e w' ⟨rfl, rfl⟩) | (go_at_call 80; refine (isPurse_any _ hS0).mono ?_; rintro e w' ⟨rfl, rfl⟩) | (go_at_call 82; refine (has_any _ _ hp hS0).mono ?_; rintro e w' ⟨rfl, rfl⟩))
  refine wp_tail 15 (by kernel_rfl) (by kernel_rfl) ?_
  simp only [List.take_succ_cons, List.take_zero, List.drop_succ_cons, List.drop_zero]
  repeat still_step
  refine wpStill_nil ?_
  go_wp2
  refine wp_tail 15 (by kernel_rfl) (by kernel_rfl) ?_
  simp only [List.take_succ_cons, List.take_zero, List.drop_succ_cons, List.drop_zero]
  repeat still_step
  refine wpStill_nil ?_
  go_wp2
  go_ret
  have hg : getp (subp C.purses a n) b = getp C.purses b := by simp [getp, subp, hab]
  refine post_yes (C' := { C with purses := addp (subp C.purses a n) b n }) (by simp [giveS, hp, hq, hn]; omega) rfl ?_ ?_
  · have hs := StandIn.set3a (C := { C with purses := subp C.purses a n }) (StandIn.drewN (StandIn.set3a ((hS.alloc (.cells #[.int .i64 at_, .int .i64 kind, .int .i64 a, .int .i64 b, .int .i64 n] 65)).drewN 1) a (wrap64 ((getp C.purses a).tokens - n)) (by rw [hS.n3]; exact la)) 1) b (wrap64 ((getp C.purses b).tokens + n)) (by simp [subp]; rw [hS.n3]; exact lb)
    dsimp only at hs
    rw [hg] at hs
    have e : addp (subp C.purses a n) b n = (subp C.purses a n).set b ⟨wrap64 ((getp C.purses b).tokens + n), (getp C.purses b).til⟩ := by unfold addp; rw [hg]; rfl
    rw [e]
    exact hs
  · exact ((((((KeptBut.refl _ _).alloc _).drewN _).set (by simp) _).drewN _).set (by simp) _)

set_option maxHeartbeats 2000000 in
set_option maxRecDepth 100000 in
theorem lose_any (d : Deal) (hS : Std w B F R L C) :
    Calls Try.prog 78 #[.pointer (some ⟨L.bs, 0, none⟩), dealV d] w (StepPost w B F R L (loseS F C d)) := by
  have hS0 := hS.alloc (.cells #[.int .i64 d.at_, .int .i64 d.kind, .int .i64 d.a, .int .i64 d.b, .int .i64 d.n] 65)
  have hb := bounds_of hS.val
  obtain ⟨z0, z1, z2, z3, z4⟩ := hS.sizes
  unfold dealV
  by_cases hp : isPurse F d.a = true
  case neg =>
    go_enter Try.func78, Try.ntmps78
    go_wp2_with (first | (go_at_call 80; refine (isPurse_any _ hS0).mono ?_; rintro e w' ⟨rfl, rfl⟩))
    go_ret
    exact post_no (by simp [loseS, hp]) rfl ((Below.refl _ _).alloc (Nat.le_refl _) _)
  by_cases hz : d.b = 0
  case neg =>
    have hn1 : (d.b != 0) = true := by simpa using hz
    go_enter Try.func78, Try.ntmps78
    go_wp2_with (first | (go_at_call 80; refine (isPurse_any _ hS0).mono ?_; rintro e w' ⟨rfl, rfl⟩))
    go_ret
    exact post_no (by simp [loseS, hp, hz]) rfl ((Below.refl _ _).alloc (Nat.le_refl _) _)
  by_cases hn : hasB C d.a d.n = true
  case neg =>
    have hn1 : (d.b != 0) = false := by simpa using hz
    have Hz := Lib.hid hz
    clear hz
    go_enter Try.func78, Try.ntmps78
    go_wp2_with (first | (go_at_call 80; refine (isPurse_any _ hS0).mono ?_; rintro e w' ⟨rfl, rfl⟩) | (go_at_call 82; refine (has_any _ _ hp hS0).mono ?_; rintro e w' ⟨rfl, rfl⟩))
    go_ret
    exact post_no (by have hz := Hz.out; simp [loseS, hp, hz, hn]) rfl ((Below.refl _ _).alloc (Nat.le_refl _) _)
  obtain ⟨at_, kind, a, b, n⟩ := d
  dsimp only at *
  subst hz
  have hp' := inB_iff.1 hp
  obtain ⟨a, rfl⟩ := Int.eq_ofNat_of_zero_le hp'.1
  obtain ⟨p1, p2, x1, x2⟩ : 0 ≤ F.purses ∧ F.purses ≤ 20 ∧ 0 ≤ F.boxes ∧ F.boxes ≤ 12 := ⟨hb.p1, hb.p2, hb.x1, hb.x2⟩
  have m1 : max F.purses 0 = F.purses := by omega
  have m2 : max F.boxes 0 = F.boxes := by omega
  obtain ⟨hc5, hc6, hc7, hc8, hc9, hc10, hc11, hc12⟩ := hS.cells
  obtain ⟨⟨n01, n02, n03, n04⟩, ⟨n12, n13, n14⟩, ⟨n23, n24⟩, n34⟩ := hS.apart
  have la : a < F.purses.toNat := by omega
  have la' : (a : Int) < (F.purses.toNat : Int) := by omega
  have la'' : (a : Int) < F.purses := by omega
  obtain ⟨qa3, qa3'⟩ := hS.purse a la
  have fa3 := hS.r3.frozen (a * 2)
  have fa3' := hS.r3.frozen (a * 2 + 1)
  have fb := hS.box.frozen 12
  go_enter Try.func78, Try.ntmps78
  go_wp2_with (first | (go_at_call 80; refine (isPurse_any _ hS0).mono ?_; rintro e w' ⟨rfl, rfl⟩) | (go_at_call 82; refine (has_any _ _ hp hS0).mono ?_; rintro e w' ⟨rfl, rfl⟩))
  refine wp_tail 15 (by kernel_rfl) (by kernel_rfl) ?_
  simp only [List.take_succ_cons, List.take_zero, List.drop_succ_cons, List.drop_zero]
  repeat still_step
  refine wpStill_nil ?_
  go_wp2
  refine wp_tail 11 (by kernel_rfl) (by kernel_rfl) ?_
  simp only [List.take_succ_cons, List.take_zero, List.drop_succ_cons, List.drop_zero]
  repeat still_step
  refine wpStill_nil ?_
  go_wp2
  go_ret
  refine post_yes (C' := { C with purses := subp C.purses a n, lost := wrap64 (C.lost + n) }) (by simp [loseS, hp, hn]) rfl ?_ ?_
  · exact StandIn.setLost (C := { C with purses := subp C.purses a n }) (StandIn.drewN (StandIn.set3a ((hS.alloc _).drewN _) a _ (by rw [hS.n3]; exact la)) _) _
  · exact ((((((KeptBut.refl _ _).alloc _).drewN _).set (by simp) _).drewN _).set (by simp) _)
end
end Go.Proofs.Ytpcceankhgjjmaa
