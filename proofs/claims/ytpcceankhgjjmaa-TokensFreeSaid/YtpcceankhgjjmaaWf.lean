/- Contracts of the deals band and empty. Conditions: the fair as it stands reads as data. -/
import Derived.Test.YtpcceankhgjjmaaWd
namespace Go.Proofs.Ytpcceankhgjjmaa
open Go.RowKit

section
variable {w : World} {B : Nat} {F : Fair} {R : Refs} {L : Locs} {C : Count}

set_option maxHeartbeats 2000000 in
set_option maxRecDepth 100000 in
theorem band_any (d : Deal) (hS : Std w B F R L C) :
    Calls Try.prog 74 #[.pointer (some ⟨L.bs, 0, none⟩), dealV d] w (StepPost w B F R L (bandS F C d)) := by
  have hS0 := hS.alloc (.cells #[.int .i64 d.at_, .int .i64 d.kind, .int .i64 d.a, .int .i64 d.b, .int .i64 d.n] 65)
  have hb := bounds_of hS.val
  obtain ⟨z0, z1, z2, z3, z4⟩ := hS.sizes
  unfold dealV
  by_cases ht : isTill F d.a = true
  case neg =>
    go_enter Try.func74, Try.ntmps74
    go_wp2_with (first | (go_at_call 79; refine (isTill_any _ hS0).mono ?_; rintro e w' ⟨rfl, rfl⟩))
    go_ret
    exact post_no (by simp [bandS, ht]) rfl ((Below.refl _ _).alloc (Nat.le_refl _) _)
  by_cases hp : isPurse F d.b = true
  case neg =>
    go_enter Try.func74, Try.ntmps74
    go_wp2_with (first | (go_at_call 79; refine (isTill_any _ hS0).mono ?_; rintro e w' ⟨rfl, rfl⟩) | (go_at_call 80; refine (isPurse_any _ hS0).mono ?_; rintro e w' ⟨rfl, rfl⟩))
    go_ret
    exact post_no (by simp [bandS, ht, hp]) rfl ((Below.refl _ _).alloc (Nat.le_refl _) _)
  by_cases hn : d.n = 0
  case neg =>
    have hn1 : (d.n != 0) = true := by simpa using hn
    go_enter Try.func74, Try.ntmps74
    go_wp2_with (first | (go_at_call 79; refine (isTill_any _ hS0).mono ?_; rintro e w' ⟨rfl, rfl⟩) | (go_at_call 80; refine (isPurse_any _ hS0).mono ?_; rintro e w' ⟨rfl, rfl⟩))
    go_ret
    exact post_no (by simp [bandS, ht, hp, hn]) rfl ((Below.refl _ _).alloc (Nat.le_refl _) _)
  obtain ⟨at_, kind, a, b, n⟩ := d
  dsimp only at *
  subst hn
  have ht' := inB_iff.1 ht
  obtain ⟨a, rfl⟩ := Int.eq_ofNat_of_zero_le ht'.1
  have hp' := inB_iff.1 hp
  obtain ⟨b, rfl⟩ := Int.eq_ofNat_of_zero_le hp'.1
  obtain ⟨p1, p2, x1, x2⟩ : 0 ≤ F.purses ∧ F.purses ≤ 20 ∧ 0 ≤ F.boxes ∧ F.boxes ≤ 12 := ⟨hb.p1, hb.p2, hb.x1, hb.x2⟩
  have m1 : max F.purses 0 = F.purses := by omega
  have m2 : max F.boxes 0 = F.boxes := by omega
  obtain ⟨hc5, hc6, hc7, hc8, hc9, hc10, hc11, hc12⟩ := hS.cells
  obtain ⟨⟨n01, n02, n03, n04⟩, ⟨n12, n13, n14⟩, ⟨n23, n24⟩, n34⟩ := hS.apart
  have la : a < F.stock.length := by omega
  have la' : (a : Int) < (F.stock.length : Int) := by omega
  obtain ⟨qa1, qa2, fa1, fa2⟩ := hS.till a la
  have lb : b < F.purses.toNat := by omega
  have lb' : (b : Int) < (F.purses.toNat : Int) := by omega
  have lb'' : (b : Int) < F.purses := by omega
  obtain ⟨qb3, qb3'⟩ := hS.purse b lb
  have fb3 := hS.r3.frozen (b * 2)
  have fb3' := hS.r3.frozen (b * 2 + 1)
  obtain ⟨x, hx⟩ : ∃ x, x = wrap64 (at_ + F.hours) := ⟨_, rfl⟩
  have hxw : IntKind.i64.wrap (at_ + F.hours) = x := by rw [IntKind.wrap_i64, hx]; unfold wrap64; rfl
  have Hm : Hid (max (getp C.purses b).til (wrap64 (at_ + F.hours)) = if (getp C.purses b).til < x then x else (getp C.purses b).til) := by
    rw [← hx]; show max _ _ = _; split <;> omega
  clear hx
  by_cases hlt : (getp C.purses b).til < x
  all_goals
    go_enter Try.func74, Try.ntmps74
    go_wp2_with (first | (go_at_call 79; refine (isTill_any _ hS0).mono ?_; rintro e w' ⟨rfl, rfl⟩) | (go_at_call 80; refine (isPurse_any _ hS0).mono ?_; rintro e w' ⟨rfl, rfl⟩))
    go_quiet (fail)
    go_wp2
    refine wp_tail 16 (by kernel_rfl) (by kernel_rfl) ?_
    simp only [List.take_succ_cons, List.take_zero, List.drop_succ_cons, List.drop_zero]
    repeat still_step
    refine wpStill_nil ?_
    go_wp2
    refine wp_tail 16 (by kernel_rfl) (by kernel_rfl) ?_
    simp only [List.take_succ_cons, List.take_zero, List.drop_succ_cons, List.drop_zero]
    repeat still_step
    refine wpStill_nil ?_
    go_wp2
    go_ret
    refine post_yes (C' := { C with purses := C.purses.set b ⟨(getp C.purses b).tokens, max (getp C.purses b).til (wrap64 (at_ + F.hours))⟩, cash := addi C.cash a F.band }) (by simp [bandS, ht, hp]) rfl ?_ ?_
    · rw [Hm.out]; first | rw [if_pos (by omega)] | rw [if_neg (by omega)]
      exact StandIn.set2 (C := { C with purses := C.purses.set b ⟨(getp C.purses b).tokens, _⟩ }) (StandIn.drewN (StandIn.set3b ((hS.alloc _).drewN _) b _ (by rw [hS.n3]; exact lb)) _) a _
    · exact ((((((KeptBut.refl _ _).alloc _).drewN _).set (by simp) _).drewN _).set (by simp) _)

set_option maxHeartbeats 2000000 in
set_option maxRecDepth 100000 in
theorem empty_any (d : Deal) (hS : Std w B F R L C) :
    Calls Try.prog 76 #[.pointer (some ⟨L.bs, 0, none⟩), dealV d] w (StepPost w B F R L (emptyS F C d)) := by
  have hS0 := hS.alloc (.cells #[.int .i64 d.at_, .int .i64 d.kind, .int .i64 d.a, .int .i64 d.b, .int .i64 d.n] 65)
  have hb := bounds_of hS.val
  obtain ⟨z0, z1, z2, z3, z4⟩ := hS.sizes
  unfold dealV
  by_cases ht : isTill F d.a = true
  case neg =>
    go_enter Try.func76, Try.ntmps76
    go_wp2_with (first | (go_at_call 79; refine (isTill_any _ hS0).mono ?_; rintro e w' ⟨rfl, rfl⟩))
    go_ret
    exact post_no (by simp [emptyS, ht]) rfl ((Below.refl _ _).alloc (Nat.le_refl _) _)
  by_cases hx : isBox F d.b = true
  case neg =>
    go_enter Try.func76, Try.ntmps76
    go_wp2_with (first | (go_at_call 79; refine (isTill_any _ hS0).mono ?_; rintro e w' ⟨rfl, rfl⟩) | (go_at_call 81; refine (isBox_any _ hS0).mono ?_; rintro e w' ⟨rfl, rfl⟩))
    go_ret
    exact post_no (by simp [emptyS, ht, hx]) rfl ((Below.refl _ _).alloc (Nat.le_refl _) _)
  by_cases hn : d.n = 0
  case neg =>
    have hn1 : (d.n != 0) = true := by simpa using hn
    go_enter Try.func76, Try.ntmps76
    go_wp2_with (first | (go_at_call 79; refine (isTill_any _ hS0).mono ?_; rintro e w' ⟨rfl, rfl⟩) | (go_at_call 81; refine (isBox_any _ hS0).mono ?_; rintro e w' ⟨rfl, rfl⟩))
    go_ret
    exact post_no (by simp [emptyS, ht, hx, hn]) rfl ((Below.refl _ _).alloc (Nat.le_refl _) _)
  obtain ⟨at_, kind, a, b, n⟩ := d
  dsimp only at *
  subst hn
  have ht' := inB_iff.1 ht
  obtain ⟨a, rfl⟩ := Int.eq_ofNat_of_zero_le ht'.1
  have hx' := inB_iff.1 hx
  obtain ⟨b, rfl⟩ := Int.eq_ofNat_of_zero_le hx'.1
  obtain ⟨p1, p2, x1, x2⟩ : 0 ≤ F.purses ∧ F.purses ≤ 20 ∧ 0 ≤ F.boxes ∧ F.boxes ≤ 12 := ⟨hb.p1, hb.p2, hb.x1, hb.x2⟩
  have m1 : max F.purses 0 = F.purses := by omega
  have m2 : max F.boxes 0 = F.boxes := by omega
  obtain ⟨hc5, hc6, hc7, hc8, hc9, hc10, hc11, hc12⟩ := hS.cells
  obtain ⟨⟨n01, n02, n03, n04⟩, ⟨n12, n13, n14⟩, ⟨n23, n24⟩, n34⟩ := hS.apart
  have la : a < F.stock.length := by omega
  have la' : (a : Int) < (F.stock.length : Int) := by omega
  obtain ⟨qa1, qa2, fa1, fa2⟩ := hS.till a la
  have lb : b < F.boxes.toNat := by omega
  have lb' : (b : Int) < (F.boxes.toNat : Int) := by omega
  have lb'' : (b : Int) < F.boxes := by omega
  obtain ⟨qb4, fb4⟩ := hS.boxc b lb
  go_enter Try.func76, Try.ntmps76
  go_wp2_with (first | (go_at_call 79; refine (isTill_any _ hS0).mono ?_; rintro e w' ⟨rfl, rfl⟩) | (go_at_call 81; refine (isBox_any _ hS0).mono ?_; rintro e w' ⟨rfl, rfl⟩))
  refine wp_tail 20 (by kernel_rfl) (by kernel_rfl) ?_
  simp only [List.take_succ_cons, List.take_zero, List.drop_succ_cons, List.drop_zero]
  repeat still_step
  refine wpStill_nil ?_
  go_wp2
  refine wp_tail 8 (by kernel_rfl) (by kernel_rfl) ?_
  simp only [List.take_succ_cons, List.take_zero, List.drop_succ_cons, List.drop_zero]
  repeat still_step
  refine wpStill_nil ?_
  go_wp2
  go_ret
  refine post_yes (C' := { C with stock := addi C.stock a (geti C.boxes b), boxes := C.boxes.set b 0 }) (by simp [emptyS, ht, hx]) rfl ?_ ?_
  · exact StandIn.set4 (C := { C with stock := addi C.stock a (geti C.boxes b) }) (StandIn.drewN (StandIn.set1 ((hS.alloc _).drewN _) a _) _) b _
  · exact ((((((KeptBut.refl _ _).alloc _).drewN _).set (by simp) _).drewN _).set (by simp) _)
end
end Go.Proofs.Ytpcceankhgjjmaa
