/- Contract of the deal ride. Conditions: the fair as it stands reads as data. -/
import Derived.Test.YtpcceankhgjjmaaWd
namespace Go.Proofs.Ytpcceankhgjjmaa
open Go.RowKit

section
variable {w : World} {B : Nat} {F : Fair} {R : Refs} {L : Locs} {C : Count}

set_option maxHeartbeats 2000000 in
set_option maxRecDepth 100000 in
theorem ride_any (d : Deal) (hS : Std w B F R L C) :
    Calls Try.prog 73 #[.pointer (some ⟨L.bs, 0, none⟩), dealV d] w (StepPost w B F R L (rideS F C d)) := by
  have hS0 := hS.alloc (.cells #[.int .i64 d.at_, .int .i64 d.kind, .int .i64 d.a, .int .i64 d.b, .int .i64 d.n] 65)
  have hb := bounds_of hS.val
  obtain ⟨z0, z1, z2, z3, z4⟩ := hS.sizes
  unfold dealV
  by_cases hp : isPurse F d.a = true
  case neg =>
    go_enter Try.func73, Try.ntmps73
    go_wp2_with (first | (go_at_call 80; refine (isPurse_any _ hS0).mono ?_; rintro e w' ⟨rfl, rfl⟩))
    go_ret
    exact post_no (by simp [rideS, hp]) rfl ((Below.refl _ _).alloc (Nat.le_refl _) _)
  by_cases hx : isBox F d.b = true
  case neg =>
    go_enter Try.func73, Try.ntmps73
    go_wp2_with (first | (go_at_call 80; refine (isPurse_any _ hS0).mono ?_; rintro e w' ⟨rfl, rfl⟩) | (go_at_call 81; refine (isBox_any _ hS0).mono ?_; rintro e w' ⟨rfl, rfl⟩))
    go_ret
    exact post_no (by simp [rideS, hp, hx]) rfl ((Below.refl _ _).alloc (Nat.le_refl _) _)
  by_cases hn : inB d.n 0 1000 = true
  case neg =>
    go_enter Try.func73, Try.ntmps73
    go_wp2_with (first | (go_at_call 80; refine (isPurse_any _ hS0).mono ?_; rintro e w' ⟨rfl, rfl⟩) | (go_at_call 81; refine (isBox_any _ hS0).mono ?_; rintro e w' ⟨rfl, rfl⟩) | (go_at_call 59; refine (within_any _ _ _ _).mono ?_; rintro e w' ⟨rfl, rfl⟩))
    go_ret
    exact post_no (by simp [rideS, hp, hx, hn]) rfl ((Below.refl _ _).alloc (Nat.le_refl _) _)
  go_enter Try.func73, Try.ntmps73
  go_wp2_with (first | (go_at_call 80; refine (isPurse_any _ hS0).mono ?_; rintro e w' ⟨rfl, rfl⟩) | (go_at_call 81; refine (isBox_any _ hS0).mono ?_; rintro e w' ⟨rfl, rfl⟩) | (go_at_call 59; refine (within_any _ _ _ _).mono ?_; rintro e w' ⟨rfl, rfl⟩))
  refine (fare_any d hp hS0).mono ?_
  rintro e w1 ⟨rfl, hb1⟩
  have hS1 := hS0.below hb1
  obtain ⟨hc1, hf1⟩ := bcell hb1
  have k1 : KeptBut L.all w w1 := ((KeptBut.refl _ _).alloc _).below hb1
  have B1 : Below w.heap.size w w1 := ((Below.refl _ _).alloc (Nat.le_refl _) _).trans (hb1.mono (by simp))
  have z6 : w.heap.size < w1.heap.size := by have := hb1.size; simp at this; omega
  have d2 : w1.cell? ⟨w.heap.size, 2, none⟩ = some (.int .i64 d.a) := by rw [hc1 _ _ (by simp)]; simp [World.cell?_alloc_new]
  have d3 : w1.cell? ⟨w.heap.size, 3, none⟩ = some (.int .i64 d.b) := by rw [hc1 _ _ (by simp)]; simp [World.cell?_alloc_new]
  clear hc1 hf1 hb1
  obtain ⟨x, hxx⟩ : ∃ x, x = fareS C d := ⟨_, rfl⟩
  have Hx := Lib.hid hxx
  rw [← hxx]
  clear hxx
  obtain ⟨at_, kind, a, b, n⟩ := d
  dsimp only at *
  have hp' := inB_iff.1 hp
  obtain ⟨a, rfl⟩ := Int.eq_ofNat_of_zero_le hp'.1
  have hx' := inB_iff.1 hx
  obtain ⟨b, rfl⟩ := Int.eq_ofNat_of_zero_le hx'.1
  obtain ⟨p1, p2, x1, x2⟩ : 0 ≤ F.purses ∧ F.purses ≤ 20 ∧ 0 ≤ F.boxes ∧ F.boxes ≤ 12 := ⟨hb.p1, hb.p2, hb.x1, hb.x2⟩
  have m1 : max F.purses 0 = F.purses := by omega
  have m2 : max F.boxes 0 = F.boxes := by omega
  obtain ⟨hc5, hc6, hc7, hc8, hc9, hc10, hc11, hc12⟩ := Std.cells hS1
  obtain ⟨⟨n01, n02, n03, n04⟩, ⟨n12, n13, n14⟩, ⟨n23, n24⟩, n34⟩ := Std.apart hS1
  obtain ⟨y0, y1, y2, y3, y4⟩ := Std.sizes hS1
  have v0 : ¬ w.heap.size = L.g3 := by omega
  have v1 : ¬ w.heap.size = L.g4 := by omega
  have v0' : ¬ L.g3 = w.heap.size := by omega
  have v1' : ¬ L.g4 = w.heap.size := by omega
  have la : a < F.purses.toNat := by omega
  have la' : (a : Int) < (F.purses.toNat : Int) := by omega
  have la'' : (a : Int) < F.purses := by omega
  obtain ⟨qa3, qa3'⟩ := hS1.purse a la
  have fa3 := hS1.r3.frozen (a * 2)
  have lb : b < F.boxes.toNat := by omega
  have lb' : (b : Int) < (F.boxes.toNat : Int) := by omega
  have lb'' : (b : Int) < F.boxes := by omega
  obtain ⟨qb4, fb4⟩ := Std.boxc hS1 b lb
  go_wp2_with fail
  go_quiet (fail)
  go_wp2
  · have hlt : (getp C.purses ↑a).tokens < x := by assumption
    go_ret
    exact post_no (by simp [rideS, hp, hx, hn]; rw [Hx.out] at hlt; exact hlt) rfl (below_drewN B1 _)
  refine wp_tail 14 (by kernel_rfl) (by kernel_rfl) ?_
  simp only [List.take_succ_cons, List.take_zero, List.drop_succ_cons, List.drop_zero]
  repeat still_step
  refine wpStill_nil ?_
  go_wp2
  refine wp_tail 12 (by kernel_rfl) (by kernel_rfl) ?_
  simp only [List.take_succ_cons, List.take_zero, List.drop_succ_cons, List.drop_zero]
  repeat still_step
  refine wpStill_nil ?_
  go_wp2
  have hge : x ≤ (getp C.purses ↑a).tokens := by assumption
  go_ret
  refine post_yes (C' := { C with purses := subp C.purses a x, boxes := addi C.boxes b x }) ?_ rfl ?_ ?_
  · have hx0 := Hx.out
    simp only [rideS, hp, hx, hn, Bool.not_true, Bool.or_self, Bool.false_eq_true, if_false]
    rw [← hx0, if_neg (by omega)]
  · exact StandIn.set4 (C := { C with purses := subp C.purses a x }) (StandIn.drewN (StandIn.set3a (hS1.drewN _) a _ (by rw [hS1.n3]; exact la)) _) b _
  · exact ((((k1.drewN _).set (by simp) _).drewN _).set (by simp) _)
end
end Go.Proofs.Ytpcceankhgjjmaa
