/- Contracts of checkMotion, checkLimited, at, sideways. Conditions: a path reads as points. -/
import Derived.Test.YtkmiapfkebdpbaaKd
import Derived.IntWalk
namespace Go.Proofs.Ytkmiapfkebdpbaa
open Go.RowKit

set_option maxHeartbeats 1000000 in
theorem checkMotion_any (t : List Pt) (m : Mot) (A : Option Addr) (c B : Nat) (w : World) (hB : B ≤ w.heap.size) (hr : Reads w B 3 A t.length (ptCells t)) (hn : t.length ≤ maxLen) :
    Calls Try.prog 57 #[.slice A t.length c, motV m] w fun e w' => e = .returned (.int .i64 (motionE t m)) ∧ Below w.heap.size w w' := by
  obtain ⟨b0, hr0⟩ : Below w.heap.size w (w.alloc (.cells #[.int .i64 m.top, .int .i64 m.ease, .int .i64 m.jerk] 35)) ∧ Reads (w.alloc (.cells #[.int .i64 m.top, .int .i64 m.ease, .int .i64 m.jerk] 35)) B 3 A t.length (ptCells t) := ⟨(Below.refl _ _).alloc (Nat.le_refl _) _, hr.alloc hB _⟩
  unfold motV
  go_enter Try.func57, Try.ntmps57
  go_wp2_with fail
  refine (validPath_any t A c B _ (by simp; omega) hr0 hn).mono ?_
  rintro e w1 ⟨rfl, hb1⟩
  have b1 := b0.trans (hb1.mono b0.size)
  have z1 : w.heap.size < w1.heap.size := by have := hb1.size; simp at this; omega
  obtain ⟨hc1, hf1⟩ := bcell hb1
  go_wp2_with fail
  · have h1 : (!pathB t) = true := by assumption
    go_ret
    exact ⟨ret_int (by simp at h1; simp [motionE, h1]), b1⟩
  · have h1 : (!pathB t) = false := by assumption
    refine (validMotor_any m _).mono ?_
    rintro e w2 ⟨rfl, hb2⟩
    have b2 := b1.trans (hb2.mono b1.size)
    go_wp2_with fail
    · have h2 : (!motB m) = true := by assumption
      go_ret
      exact ⟨ret_int (by simp at h1 h2; simp [motionE, h1, h2]), b2⟩
    · have h2 : (!motB m) = false := by assumption
      go_ret
      exact ⟨ret_int (by simp at h1 h2; simp [motionE, h1, h2]), b2⟩

set_option maxHeartbeats 1000000 in
theorem checkLimited_any (t : List Pt) (m : Mot) (x : Lim) (A : Option Addr) (c B : Nat) (w : World) (hB : B ≤ w.heap.size) (hr : Reads w B 3 A t.length (ptCells t)) (hn : t.length ≤ maxLen) :
    Calls Try.prog 52 #[.slice A t.length c, motV m, limV x] w fun e w' => e = .returned (.int .i64 (limE t m x)) ∧ Below w.heap.size w w' := by
  obtain ⟨W, hW⟩ : ∃ W, W = (w.alloc (.cells #[.int .i64 m.top, .int .i64 m.ease, .int .i64 m.jerk] 35)).alloc (.cells #[.int .i64 x.side, .int .i64 x.low, .int .i64 x.high] 37) := ⟨_, rfl⟩
  have b0 : Below w.heap.size w W := by subst hW; exact ((Below.refl _ _).alloc (Nat.le_refl _) _).alloc (by simp) _
  have s0 : W.heap.size = w.heap.size + 2 := by subst hW; simp
  have l0 : Row W (w.heap.size + 1) 37 [.int .i64 x.side, .int .i64 x.low, .int .i64 x.high] := by
    subst hW
    have h := Row.new (w.alloc (.cells #[.int .i64 m.top, .int .i64 m.ease, .int .i64 m.jerk] 35)) 37 #[.int .i64 x.side, .int .i64 x.low, .int .i64 x.high]
    simpa using h
  unfold motV limV
  go_enter Try.func52, Try.ntmps52
  go_wp2_with fail
  rw [← hW]
  clear hW
  refine (checkMotion_any t m A c B _ (by omega) (hr.below (b0.mono hB)) hn).mono ?_
  rintro e w1 ⟨rfl, hb1⟩
  have b1 := b0.trans (hb1.mono b0.size)
  have l1 := l0.below hb1 (by omega)
  have k0 := l1.cell (j := 0) (by simp)
  have k1 := l1.cell (j := 1) (by simp)
  have k2 := l1.cell (j := 2) (by simp)
  simp only [List.getElem?_cons_zero, List.getElem?_cons_succ] at k0 k1 k2
  have z1 := l1.lt
  clear l1 l0 s0
  obtain ⟨q, hq⟩ : ∃ q, q = motionE t m := ⟨_, rfl⟩
  rw [← hq]
  have Hq := Lib.hid hq
  clear hq
  by_cases h0 : q = 0
  · subst h0
    go_wp2_with fail
    refine (validLimit_any x _).mono ?_
    rintro e w2 ⟨rfl, hb2⟩
    have b2 := b1.trans (hb2.mono b1.size)
    go_wp2_with fail
    · have h2 : (!limB x) = true := by assumption
      go_ret
      exact ⟨ret_int (by simp at h2; simp [limE, ← Hq.out, h2]), b2⟩
    · have h2 : (!limB x) = false := by assumption
      go_ret
      exact ⟨ret_int (by simp at h2; simp [limE, ← Hq.out, h2]), b2⟩
  · have h1 : (q != 0) = true := by simpa using h0
    go_wp2_with fail
    go_ret
    exact ⟨ret_int (by simp [limE, ← Hq.out, h0]), b1⟩

set_option maxHeartbeats 1000000 in
theorem at_any (t : List Pt) (ph : Int) (A : Option Addr) (c B : Nat) (w : World) (hB : B ≤ w.heap.size) (hr : Reads w B 3 A t.length (ptCells t)) (h0 : 0 < t.length) (hn : t.length ≤ 100) :
    Calls Try.prog 80 #[.slice A t.length c, .int .i64 ph] w fun e w' => e = .returned (ptV (atZ t ph)) ∧ Below w.heap.size w w' := by
  obtain ⟨k, hk⟩ : ∃ k : Nat, (ph % (t.length : Int)).toNat = k := ⟨_, rfl⟩
  have e2 := Int.emod_nonneg ph (show (t.length : Int) ≠ 0 by omega)
  have e3 := Int.emod_lt_of_pos ph (show (0 : Int) < t.length by omega)
  have hk' : k < t.length := by omega
  obtain ⟨b, o, rfl, hb, q0, q1, q2⟩ := (hr.alloc hB (.cells #[.int .i64 0, .int .i64 0, .int .i64 0] 28)).atp hk'
  have e4 := tmod_wrap ph t.length (by omega)
  have e5 := Int.lt_tmod_of_pos ph (show (0 : Int) < t.length by omega)
  have e6 := Int.tmod_lt_of_pos ph (show (0 : Int) < t.length by omega)
  obtain ⟨y, hy⟩ : ∃ y, y = ph.tmod t.length + t.length := ⟨_, rfl⟩
  have hw : IntKind.i64.wrap (ph.tmod t.length + t.length) = y := by rw [hy]; exact IntWalk.i64_in _ (by omega)
  rw [← hy] at e4
  have hy' : y.tmod t.length = (k : Int) := by rw [e4]; omega
  have hlt : (k : Int) < (t.length : Int) := by omega
  have hne : (t.length : Int) ≠ 0 := by omega
  have Hk : Hid (atZ t ph = ptAt t k) := by show _ = _; unfold atZ; rw [hk]
  clear hk e2 e3 e4 e5 e6 hy hn hr hk'
  go_enter Try.func80, Try.ntmps80
  go_wp2_with fail
  refine bodyPost_ret (v := ptV (ptAt t k)) (by simp [results, Try.results80, go_sem, ptV, *]) rfl ?_
  exact ⟨by rw [Hk.out], (Below.refl _ _).alloc (Nat.le_refl _) _⟩
end Go.Proofs.Ytkmiapfkebdpbaa
