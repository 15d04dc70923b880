/- Contracts of the small functions that look at numbers and points. No conditions but that a slice reads as a list. -/
import Derived.Test.YtkmiapfkebdpbaaRows
import Derived.Test.YtkmiapfkebdpbaaKa
import Derived.WalkKit
import Derived.WalkSpells
import Derived.WalkLawsBesides
import Derived.Lib.Hide
import Derived.BigQuiet
import Derived.Deep.RegionWith
import Derived.Deep.DeepFit
import Derived.Deep.DeepMust
import Derived.Deep.QuietTactic
namespace Go.Proofs.Ytkmiapfkebdpbaa
open Go.RowKit

theorem ret_bool {a b : Bool} (h : a = b) : Ending.returned (.bool a) = .returned (.bool b) := by rw [h]
theorem ret_int {k : IntKind} {a b : Int} (h : a = b) : Ending.returned (.int k a) = .returned (.int k b) := by rw [h]
def nums (l : List Int) : List Value := l.map (Value.int .i64)
theorem allB_snoc (zs : List Int) (k : Nat) (lo hi : Int) (h : k < zs.length) : allB (zs.take (k + 1)) lo hi = (allB (zs.take k) lo hi && inB (zs[k]?.getD 0) lo hi) := by
  unfold allB
  rw [List.take_succ_eq_append_getElem h, List.all_append, List.getElem?_eq_getElem h]; simp
theorem allB_no (zs : List Int) (k : Nat) (lo hi : Int) (hk : k < zs.length) (h : inB (zs[k]?.getD 0) lo hi = false) : allB zs lo hi = false := by
  unfold allB
  rw [List.all_eq_false]
  refine ⟨zs[k], List.getElem_mem hk, ?_⟩
  rw [List.getElem?_eq_getElem hk] at h
  simpa using h
theorem inB_lo {n lo hi : Int} (h : n < lo) : inB n lo hi = false := by simp [inB]; omega
theorem inB_hi {n lo hi : Int} (h : hi < n) : inB n lo hi = false := by simp [inB]; omega
theorem inB_in {n lo hi : Int} (h : ¬ n < lo) (h' : ¬ hi < n) : inB n lo hi = true := by simp [inB]; omega

set_option maxHeartbeats 400000 in
theorem allWithin_any (zs : List Int) (A : Option Addr) (n c B : Nat) (lo hi : Int) (w : World) (hr : Reads w B 1 A n (nums zs)) (hn : n ≤ maxLen) :
    Calls Try.prog 47 #[.int .i64 lo, .int .i64 hi, .slice A n c] w fun e w' => e = .returned (.bool (allB zs lo hi)) ∧ w = w' := by
  unfold maxLen at hn
  unfold nums at hr
  go_enter Try.func47, Try.ntmps47
  go_wp2_with fail
  go_loop [11] (fun i => ∃ k : Nat, k ≤ n ∧ i = .int .i64 k ∧ allB (zs.take k) lo hi = true) (fun i => n - (intOf i).toNat)
  case atStart => exact ⟨0, Nat.zero_le _, rfl, rfl⟩
  case round =>
    obtain ⟨k, hk, rfl, hall⟩ := hrel
    have Hall := Lib.hid hall
    clear hall
    have hz : zs.length = n := by simpa using hr.1
    by_cases hlt : k < n
    · obtain ⟨b, o, rfl, hb, hc⟩ := hr.at1 hlt
      have hck := hc k hlt
      clear hc
      have Hsn : Hid (allB (zs.take (k + 1)) lo hi = (allB (zs.take k) lo hi && inB (zs[k]?.getD 0) lo hi)) := allB_snoc zs k lo hi (by omega)
      have Hno : Hid (inB (zs[k]?.getD 0) lo hi = false → allB zs lo hi = false) := allB_no zs k lo hi (by omega)
      clear hz
      by_cases h1 : zs[k]?.getD 0 < lo
      · go_wp2
        go_ret
        exact ⟨ret_bool (Hno.out (inB_lo h1)).symm, rfl⟩
      by_cases h2 : hi < zs[k]?.getD 0
      · go_wp2
        go_ret
        exact ⟨ret_bool (Hno.out (inB_hi h2)).symm, rfl⟩
      go_wp2
      go_round
      case rel => exact ⟨k + 1, by omega, by go_num, by rw [Hsn.out, Hall.out, inB_in h1 h2]; rfl⟩
      case measure => simp [intOf]; omega
    · have : k = n := by omega
      subst this
      clear hz
      go_wp2
      go_ret
      refine ⟨ret_bool ?_, rfl⟩
      rw [← Hall.out, List.take_of_length_le (by have := hr.1; simp at this; omega)]
end Go.Proofs.Ytkmiapfkebdpbaa
