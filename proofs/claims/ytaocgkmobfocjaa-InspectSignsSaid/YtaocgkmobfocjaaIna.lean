/- Contracts of the small functions of inspect that look at numbers. No conditions but that a slice reads as a list. -/
import Derived.Test.YtaocgkmobfocjaaRows
import Derived.Test.YtaocgkmobfocjaaMem
import Derived.Test.YtaocgkmobfocjaaRow
import Derived.Test.YtaocgkmobfocjaaSpec
import Derived.WalkKit
import Derived.WalkSpells
import Derived.WalkLawsBesides
import Derived.Lib.Hide
import Derived.BigQuiet
import Derived.Deep.RegionWith
import Derived.Deep.DeepFit
import Derived.Deep.DeepMust
import Derived.Deep.QuietTactic
namespace Go.Proofs.Ytaocgkmobfocjaa
open Go.RowKit

theorem ret_boolI {a b : Bool} (h : a = b) : Ending.returned (.bool a) = .returned (.bool b) := by rw [h]
theorem ret_intI {k : IntKind} {a b : Int} (h : a = b) : Ending.returned (.int k a) = .returned (.int k b) := by rw [h]
theorem allI_snoc (zs : List Int) (k : Nat) (lo hi : Int) (h : k < zs.length) : allB (zs.take (k + 1)) lo hi = (allB (zs.take k) lo hi && inB (zs[k]?.getD 0) lo hi) := by
  unfold allB
  rw [List.take_succ_eq_append_getElem h, List.all_append, List.getElem?_eq_getElem h]; simp
theorem allI_out (zs : List Int) (k : Nat) (lo hi : Int) (hk : k < zs.length) (h : inB (zs[k]?.getD 0) lo hi = false) : allB zs lo hi = false := by
  unfold allB
  rw [List.all_eq_false]
  refine ⟨zs[k], List.getElem_mem hk, ?_⟩
  rw [List.getElem?_eq_getElem hk] at h
  simpa using h
set_option maxHeartbeats 400000 in
theorem iall_any (zs : List Int) (A : Option Addr) (n c B : Nat) (lo hi : Int) (w : World) (hr : Reads w B 1 A n (zs.map (Value.int .i64))) (hn : n ≤ maxLen) :
    Calls Try.prog 64 #[.int .i64 lo, .int .i64 hi, .slice A n c] w fun e w' => e = .returned (.bool (allB zs lo hi)) ∧ w = w' := by
  unfold maxLen at hn
  go_enter Try.func64, Try.ntmps64
  go_wp2_with fail
  go_loop [11] (fun i => ∃ k : Nat, k ≤ n ∧ i = .int .i64 k ∧ Hid (allB (zs.take k) lo hi = true)) (fun i => n - (intOf i).toNat)
  case atStart => exact ⟨0, Nat.zero_le _, rfl, rfl⟩
  case round =>
    obtain ⟨k, hk, rfl, Hall⟩ := hrel
    have hz : zs.length = n := by simpa using hr.1
    by_cases hlt : k < n
    · obtain ⟨b, o, rfl, hb, hc⟩ := hr.at1 hlt
      have hck := hc k hlt
      clear hc
      have Hsn : Hid (allB (zs.take (k + 1)) lo hi = (allB (zs.take k) lo hi && inB (zs[k]?.getD 0) lo hi)) := allI_snoc zs k lo hi (by omega)
      have Hno := Lib.hid (allI_out zs k lo hi (by omega))
      have Hin : Hid (inB (zs[k]?.getD 0) lo hi = (decide (lo ≤ zs[k]?.getD 0) && decide (zs[k]?.getD 0 ≤ hi))) := rfl
      obtain ⟨x, hx⟩ : ∃ x, x = zs[k]?.getD 0 := ⟨_, rfl⟩
      rw [← hx] at hck Hsn Hno Hin
      clear hz hx
      have e1 : IntKind.i64.wrap ((k : Int) + 1) = (k : Int) + 1 := IntWalk.i64_in _ (by omega)
      have hkn : (k : Int) < (n : Int) := by omega
      by_cases h1 : x < lo
      · have d1 : decide (x < lo) = true := by simpa using h1
        go_wp2_with fail
        go_ret
        exact ⟨ret_boolI (Hno.out (by rw [Hin.out]; simp; omega)).symm, rfl⟩
      · have d1 : decide (x < lo) = false := by simpa using h1
        by_cases h2 : hi < x
        · have d2 : decide (hi < x) = true := by simpa using h2
          go_wp2_with fail
          go_ret
          exact ⟨ret_boolI (Hno.out (by rw [Hin.out]; simp; omega)).symm, rfl⟩
        · have d2 : decide (hi < x) = false := by simpa using h2
          go_wp2_with fail
          refine ⟨⟨k + 1, by omega, by go_num, ?_⟩, by simp [intOf]; omega⟩
          show _ = _
          rw [Hsn.out, Hall.out, Hin.out]
          simp
          omega
    · have : k = n := by omega
      subst this
      go_wp2_with fail
      go_ret
      refine ⟨ret_boolI ?_, rfl⟩
      rw [← Hall.out, ← hz, List.take_length]
end Go.Proofs.Ytaocgkmobfocjaa
