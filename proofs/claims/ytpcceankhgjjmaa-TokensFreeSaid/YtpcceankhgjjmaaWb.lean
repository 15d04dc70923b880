/- Contracts of validSizes, validTills, validPrices, validBundles and valid. No conditions but that the fair reads as data. -/
import Derived.Test.YtpcceankhgjjmaaWa
import Derived.Test.YtpcceankhgjjmaaFair
namespace Go.Proofs.Ytpcceankhgjjmaa
open Go.RowKit

set_option maxHeartbeats 400000 in
theorem validPrices_any (F : Fair) (R : Refs) (w : World) :
    Calls Try.prog 65 #[fairV F R] w fun e w' => e = .returned (.bool (pricesB F)) ∧ Below w.heap.size w w' := by
  unfold fairV
  go_enter Try.func65, Try.ntmps65
  go_wp2_with (go_at_call 59; refine (within_any _ _ _ _).mono ?_; rintro e w' ⟨rfl, rfl⟩)
  all_goals (go_ret; exact ⟨ret_bool (by simp [pricesB, *]), (Below.refl _ _).alloc (Nat.le_refl _) _⟩)

set_option maxHeartbeats 400000 in
theorem validSizes_any (F : Fair) (R : Refs) (w : World) (_h1 : F.stock.length ≤ maxLen) (_h2 : F.cash.length ≤ maxLen) (_h3 : F.bundles.length ≤ maxLen) :
    Calls Try.prog 63 #[fairV F R] w fun e w' => e = .returned (.bool (sizesB F)) ∧ Below w.heap.size w w' := by
  unfold fairV
  unfold maxLen at _h1 _h2 _h3
  go_enter Try.func63, Try.ntmps63
  go_wp2_with (go_at_call 59; refine (within_any _ _ _ _).mono ?_; rintro e w' ⟨rfl, rfl⟩)

  all_goals (go_ret; refine ⟨ret_bool ?_, (Below.refl _ _).alloc (Nat.le_refl _) _⟩; simp [sizesB, *])

set_option maxHeartbeats 400000 in
theorem validTills_any (F : Fair) (R : Refs) (w : World) (B : Nat) (hB : B ≤ w.heap.size) (hF : FairIn w B F R) :
    Calls Try.prog 64 #[fairV F R] w fun e w' => e = .returned (.bool (tillsB F)) ∧ Below w.heap.size w w' := by
  unfold fairV
  go_enter Try.func64, Try.ntmps64
  go_wp2_with (first
    | (go_at_call_of 70 (Value.slice R.A1 F.stock.length R.c1); refine (allWithin_any F.stock _ _ _ B _ _ _ (hF.alloc hB _).s1 hF.l1).mono ?_; rintro e w' ⟨rfl, rfl⟩)
    | (go_at_call 70; refine (allWithin_any F.cash _ _ _ B _ _ _ (hF.alloc hB _).s2 hF.l2).mono ?_; rintro e w' ⟨rfl, rfl⟩))

  all_goals (go_ret; refine ⟨ret_bool ?_, (Below.refl _ _).alloc (Nat.le_refl _) _⟩; simp [tillsB, *])
end Go.Proofs.Ytpcceankhgjjmaa
