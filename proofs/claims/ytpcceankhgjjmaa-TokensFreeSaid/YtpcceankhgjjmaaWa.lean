/- Contracts of the small functions that look at numbers: within and allWithin. No conditions but that a slice reads as a list. -/
import Derived.Test.YtpcceankhgjjmaaRows
import Derived.Test.YtpcceankhgjjmaaMem
import Derived.Test.YtpcceankhgjjmaaSpec
import Derived.WalkKit
import Derived.WalkSpells
import Derived.WalkLawsBesides
import Derived.Lib.Hide
import Derived.BigQuiet
import Derived.Deep.RegionWith
import Derived.Deep.DeepFit
import Derived.Deep.DeepMust
import Derived.Deep.QuietTactic
namespace Go.Proofs.Ytpcceankhgjjmaa
open Go.RowKit



set_option maxHeartbeats 400000 in
theorem within_any (n lo hi : Int) (w : World) :
    Calls Try.prog 59 #[.int .i64 n, .int .i64 lo, .int .i64 hi] w fun e w' => e = .returned (.bool (inB n lo hi)) ∧ w = w' := by
  go_enter Try.func59, Try.ntmps59
  go_wp2
  all_goals (go_ret; exact ⟨by simp [inB, *] <;> omega, rfl⟩)

theorem ret_bool {a b : Bool} (h : a = b) : Ending.returned (.bool a) = .returned (.bool b) := by rw [h]
theorem ret_int {k : IntKind} {a b : Int} (h : a = b) : Ending.returned (.int k a) = .returned (.int k b) := by rw [h]
theorem allB_snoc (zs : List Int) (k : Nat) (lo hi : Int) (h : k < zs.length) : allB (zs.take (k + 1)) lo hi = (allB (zs.take k) lo hi && inB (zs[k]?.getD 0) lo hi) := by
  unfold allB
  rw [List.take_succ_eq_append_getElem h, List.all_append, List.getElem?_eq_getElem h]; simp
theorem allB_no (zs : List Int) (k : Nat) (lo hi : Int) (h : (!inB (zs[k]?.getD 0) lo hi) = true) : allB zs lo hi = (k ≥ zs.length && allB zs lo hi) := by
  rcases Nat.lt_or_ge k zs.length with hk | hk
  · have hf : allB zs lo hi = false := by
      unfold allB
      rw [List.all_eq_false]
      refine ⟨zs[k], List.getElem_mem hk, ?_⟩
      rw [List.getElem?_eq_getElem hk] at h
      simpa using h
    rw [hf]; simp
  · simp [hk]
set_option maxHeartbeats 400000 in
theorem allWithin_any (zs : List Int) (A : Option Addr) (n c B : Nat) (lo hi : Int) (w : World) (hr : Reads w B 1 A n (zs.map (Value.int .i64))) (hn : n ≤ maxLen) :
    Calls Try.prog 70 #[.slice A n c, .int .i64 lo, .int .i64 hi] w fun e w' => e = .returned (.bool (allB zs lo hi)) ∧ w = w' := by
  unfold maxLen at hn
  go_enter Try.func70, Try.ntmps70
  go_wp2_with fail
  go_loop [11] (fun i => ∃ k : Nat, k ≤ n ∧ i = .int .i64 k ∧ allB (zs.take k) lo hi = true) (fun i => n - (intOf i).toNat)
  case atStart => exact ⟨0, Nat.zero_le _, rfl, rfl⟩
  case round =>
    obtain ⟨k, hk, rfl, hall⟩ := hrel
    have Hall := Lib.hid hall
    clear hall
    have hz : zs.length = n := by simpa using hr.1
    by_cases hlt : k < n
    · obtain ⟨b, o, rfl, hb, hc⟩ := hr.at1 hlt
      have hck := hc k hlt
      clear hc
      have Hsn : Hid (allB (zs.take (k + 1)) lo hi = (allB (zs.take k) lo hi && inB (zs[k]?.getD 0) lo hi)) := allB_snoc zs k lo hi (by omega)
      clear hz
      go_wp2_with (go_at_call 59; refine (within_any _ _ _ _).mono ?_; rintro e w' ⟨rfl, rfl⟩)
      · have h0 : (!inB (zs[k]?.getD 0) lo hi) = true := by assumption
        go_ret
        exact ⟨ret_bool (by rw [allB_no zs k lo hi h0]; have := hr.1; simp at this; simp; omega), rfl⟩
      · have h0 : (!inB (zs[k]?.getD 0) lo hi) = false := by assumption
        refine ⟨⟨k + 1, by omega, by go_num, ?_⟩, by simp [intOf]; omega⟩
        rw [Hsn.out, Hall.out]; simpa using h0
    · have : k = n := by omega
      subst this
      clear hz
      go_wp2
      go_ret
      refine ⟨ret_bool ?_, rfl⟩
      rw [← Hall.out, List.take_of_length_le (by have := hr.1; simp at this; omega)]
end Go.Proofs.Ytpcceankhgjjmaa
