/- The closure of inspect's inForceUntil. Its variables lie in memory. -/
import Derived.Test.YtaocgkmobfocjaaInh
namespace Go.Proofs.Ytaocgkmobfocjaa
open Go.RowKit

/-- What puts a check in force, or ends that. -/
def forceB (rule ride : Int) (x : EntZ) : Bool := (decide (x.kind = 1) && decide (x.a = rule)) || (decide (x.kind = 6) && decide (x.a = ride))
set_option maxRecDepth 100000 in
theorem force_any (x : EntZ) (nb rb : Nat) (n ride : Int) (w : World) (hc : w.cell? ⟨nb, 0, none⟩ = some (.int .i64 n)) (_hl : nb < w.heap.size) (hd : w.cell? ⟨rb, 0, none⟩ = some (.int .i64 ride)) (_hm : rb < w.heap.size) : Calls Try.prog 75 #[entV x, .pointer (some ⟨nb, 0, none⟩), .pointer (some ⟨rb, 0, none⟩)] w fun e w' => e = .returned (.bool (forceB n ride x)) ∧ Below w.heap.size w w' := by
  have hc2 : (w.alloc (.cells #[.int .i64 x.day, .int .i64 x.kind, .int .i64 x.a, .int .i64 x.b, .int .i64 x.c] 54)).cell? ⟨nb, 0, none⟩ = some (.int .i64 n) := Lib.cell?_alloc_some _ hc
  have hd2 : (w.alloc (.cells #[.int .i64 x.day, .int .i64 x.kind, .int .i64 x.a, .int .i64 x.b, .int .i64 x.c] 54)).cell? ⟨rb, 0, none⟩ = some (.int .i64 ride) := Lib.cell?_alloc_some _ hd
  have HB := Lib.hid ((Below.refl _ w).alloc (Nat.le_refl _) (.cells #[.int .i64 x.day, .int .i64 x.kind, .int .i64 x.a, .int .i64 x.b, .int .i64 x.c] 54))
  unfold entV
  by_cases h1 : x.kind = 1
  · by_cases h2 : x.a = n
    · have hv : forceB n ride x = true := by unfold forceB; simp [h1, h2]
      rw [hv]
      rw [h1, h2] at HB hc2 hd2
      go_enter Try.func75, Try.ntmps75
      go_wp2_with fail
      go_ret
      exact ⟨rfl, HB.out⟩
    · have hv : forceB n ride x = false := by unfold forceB; simp [h1, h2]
      rw [hv]
      rw [h1] at HB hc2 hd2
      go_enter Try.func75, Try.ntmps75
      go_wp2_with fail
      go_ret
      exact ⟨ret_boolI (by simpa using h2), HB.out⟩
  · by_cases h2 : x.kind = 6
    · have hv : forceB n ride x = decide (x.a = ride) := by unfold forceB; simp [h2]
      rw [hv]
      rw [h2] at HB hc2 hd2
      go_enter Try.func75, Try.ntmps75
      go_wp2_with fail
      go_ret
      exact ⟨ret_boolI (by rw [Bool.eq_iff_iff]; simp), HB.out⟩
    · have hv : forceB n ride x = false := by unfold forceB; simp [h1, h2]
      rw [hv]
      go_enter Try.func75, Try.ntmps75
      go_wp2_with fail
      go_ret
      exact ⟨rfl, HB.out⟩
end Go.Proofs.Ytaocgkmobfocjaa
