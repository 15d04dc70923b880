/- Contracts of inside and onGround. Conditions: points that are near enough. -/
import Derived.Test.YtkmiapfkebdpbaaKg
namespace Go.Proofs.Ytkmiapfkebdpbaa
open Go.RowKit

theorem mul_near {a b : Int} {M N : Nat} (h1 : -(M : Int) ≤ a) (h2 : a ≤ M) (h3 : -(N : Int) ≤ b) (h4 : b ≤ N) : -((M * N : Nat) : Int) ≤ a * b ∧ a * b ≤ ((M * N : Nat) : Int) := by
  have ha : a.natAbs ≤ M := by omega
  have hb : b.natAbs ≤ N := by omega
  have h := Nat.mul_le_mul ha hb
  rw [← Int.natAbs_mul] at h
  omega
def lineV (a b : Pt) : Value := .agg #[.int .i64 a.x, .int .i64 a.y, .int .i64 a.z, .int .i64 b.x, .int .i64 b.y, .int .i64 b.z]

set_option maxHeartbeats 2000000 in
theorem inside_any (a b p : Pt) (ha : spanB a = true) (hb : spanB b = true) (hp : spanB p = true) (w : World) :
    Calls Try.prog 86 #[lineV a b, ptV p] w fun e w' => e = .returned (.int .i64 (turnZ a b p)) ∧ Below w.heap.size w w' := by
  have ha := (spanB_iff a).1 ha
  have hb := (spanB_iff b).1 hb
  have hp := (spanB_iff p).1 hp
  obtain ⟨ax, ay, az⟩ := a
  obtain ⟨bx, b_y, bz⟩ := b
  obtain ⟨px, py, pz⟩ := p
  dsimp only at *
  have e1 : IntKind.i64.wrap (bx - ax) = bx - ax := IntWalk.i64_in _ (by omega)
  have e2 : IntKind.i64.wrap (py - ay) = py - ay := IntWalk.i64_in _ (by omega)
  have e3 : IntKind.i64.wrap (b_y - ay) = b_y - ay := IntWalk.i64_in _ (by omega)
  have e4 : IntKind.i64.wrap (px - ax) = px - ax := IntWalk.i64_in _ (by omega)
  have m1 := mul_near (a := bx - ax) (b := py - ay) (M := 20000) (N := 20000) (by omega) (by omega) (by omega) (by omega)
  have m2 := mul_near (a := b_y - ay) (b := px - ax) (M := 20000) (N := 20000) (by omega) (by omega) (by omega) (by omega)
  obtain ⟨u, hu⟩ : ∃ u, u = (bx - ax) * (py - ay) := ⟨_, rfl⟩
  obtain ⟨v, hv⟩ : ∃ v, v = (b_y - ay) * (px - ax) := ⟨_, rfl⟩
  rw [← hu] at m1
  rw [← hv] at m2
  have e5 : IntKind.i64.wrap ((bx - ax) * (py - ay)) = u := by rw [← hu]; exact IntWalk.i64_in _ (by omega)
  have e6 : IntKind.i64.wrap ((b_y - ay) * (px - ax)) = v := by rw [← hv]; exact IntWalk.i64_in _ (by omega)
  have e7 : IntKind.i64.wrap (u - v) = u - v := IntWalk.i64_in _ (by omega)
  have Ht : Hid (turnZ ⟨ax, ay, az⟩ ⟨bx, b_y, bz⟩ ⟨px, py, pz⟩ = u - v) := by show _ = _; rw [hu, hv]; rfl
  clear hu hv m1 m2 ha hb hp
  unfold lineV ptV
  dsimp only
  go_enter Try.func86, Try.ntmps86
  go_wp2_with fail
  go_ret
  exact ⟨ret_int (by rw [Ht.out]), ((Below.refl _ _).alloc (Nat.le_refl _) _).alloc (by simp) _⟩

def groundB (l : List Pt) : Bool := l.all fun p => decide (p.z = 0)
set_option maxHeartbeats 1000000 in
theorem onGround_any (l : List Pt) (A : Option Addr) (n c B : Nat) (w : World) (hB : B ≤ w.heap.size) (hr : Reads w B 3 A n (ptCells l)) (hn : n ≤ maxLen) :
    Calls Try.prog 96 #[.slice A n c] w fun e w' => e = .returned (.bool (groundB l)) ∧ Below w.heap.size w w' := by
  unfold maxLen at hn
  go_enter Try.func96, Try.ntmps96
  go_wp2_with fail
  go_loopw [7] (fun i wr => ∃ k : Nat, k ≤ n ∧ i = .int .i64 k ∧ Below w.heap.size w wr ∧ groundB (l.take k) = true) (fun i _ => n - (intOf i).toNat)
  case atStart => exact ⟨0, Nat.zero_le _, rfl, Below.refl _ _, rfl⟩
  case round =>
    obtain ⟨k, hk, rfl, hbel, hall⟩ := hrel
    have Hall := Lib.hid hall
    clear hall
    have hs := hbel.size
    have hz := Lib.hid hr.len_pt
    by_cases hlt : k < n
    · obtain ⟨b, o, rfl, hb, q0, q1, q2⟩ := (hr.below (hbel.mono hB)).atp hlt
      have Hsn := Lib.hid (all_snoc (fun p : Pt => decide (p.z = 0)) ⟨0, 0, 0⟩ l k (by have := hz.out; omega))
      have Hno := Lib.hid (all_no (fun p : Pt => decide (p.z = 0)) ⟨0, 0, 0⟩ l k (by have := hz.out; omega))
      by_cases h0 : (ptAt l k).z = 0
      · have h1 : ((ptAt l k).z != 0) = false := by simpa using h0
        go_wp2_with fail
        go_roundw
        case rel =>
          refine ⟨k + 1, by omega, by go_num, hbel.alloc hs _, ?_⟩
          unfold groundB at *
          rw [Hsn.out, Hall.out]
          simpa [ptAt] using h0
        case measure => simp [intOf]; omega
      · have h1 : ((ptAt l k).z != 0) = true := by simpa using h0
        go_wp2_with fail
        go_ret
        refine ⟨ret_bool (Hno.out ?_).symm, hbel.alloc hs _⟩
        simpa [ptAt] using h0
    · have : k = n := by omega
      subst this
      go_wp2
      go_ret
      refine ⟨ret_bool ?_, hbel⟩
      have h := Hall.out
      rw [List.take_of_length_le (by have := hz.out; omega)] at h
      exact h.symm
end Go.Proofs.Ytkmiapfkebdpbaa
