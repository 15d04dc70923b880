/- Contracts of the program's CheckRig, divideUp, Bears, and of the specification's Bears and Far. Conditions: a rig that reads as data. -/
import Derived.Test.YtkmiapfkebdpbaaLs
namespace Go.Proofs.Ytkmiapfkebdpbaa
open Go.RowKit

def bearN (r : RigZ) : Int := (r.frame + r.seats.length * r.full + r.feet.length - 1).tdiv r.feet.length
def bearE (r : RigZ) (soil : Int) : Int := if rigB r = false then 33 else if soil < 0 then 1 else 0
def bearV (r : RigZ) (soil : Int) : Bool := rigB r && decide (0 ≤ soil) && decide (bearN r ≤ soil)
theorem bear_bd {r : RigZ} (h : rigB r = true) : 0 ≤ (r.seats.length : Int) * r.full ∧ (r.seats.length : Int) * r.full ≤ 20000000 := by
  obtain ⟨h1, _, _, _, _, h2, h3⟩ := rigB_parts h
  have h4 : 0 ≤ r.full := by omega
  refine ⟨Int.mul_nonneg (by omega) h4, ?_⟩
  have h5 : (r.seats.length : Int) * r.full ≤ 20 * r.full := Int.mul_le_mul_of_nonneg_right (by omega) h4
  omega
set_option maxHeartbeats 1000000 in
theorem CheckRig_any (r : RigZ) (R : RigR) (B : Nat) (w : World) (hB : B ≤ w.heap.size) (hR : RigIn w B r R) :
    Calls Try.prog 35 #[rigV r R] w fun e w' => e = .returned (.int .i64 (rigE r)) ∧ Below w.heap.size w w' := by
  obtain ⟨W, hW⟩ : ∃ W, W = w.alloc (.cells (rigCells r R).toArray 57) := ⟨_, rfl⟩
  have bW : Below w.heap.size w W := by subst hW; exact (Below.refl _ _).alloc (Nat.le_refl _) _
  have rW : Row W w.heap.size 57 (rigCells r R) := by subst hW; exact Row.new w _ (rigCells r R).toArray
  have HM := Lib.hid (measure_any r R B W (Nat.le_trans hB bW.size) (hR.below (bW.mono hB)))
  unfold rigV at HM ⊢
  unfold rigCells at rW hW
  obtain ⟨_, q0, q1, q2, q3, q4, q5, q6, q7⟩ := Row.at_8 rW
  go_enter Try.func35, Try.ntmps35
  go_wp2_with fail
  rw [← hW]
  clear hW
  refine HM.out.mono ?_
  rintro e w1 ⟨hb1, ⟨h1, rfl⟩ | ⟨h1, g, hg, hL, rfl⟩⟩
  · have b1 := bW.trans (hb1.mono bW.size)
    unfold gZeros
    go_wp2_with fail
    go_ret
    exact ⟨ret_int (by unfold rigE; rw [h1]; rfl), b1.alloc b1.size _⟩
  · have b1 := bW.trans (hb1.mono bW.size)
    unfold gRigV
    go_wp2_with fail
    go_ret
    exact ⟨ret_int (by unfold rigE; rw [h1]; rfl), b1.alloc b1.size _⟩
theorem divideUp_any (n d : Int) (w : World) (h1 : 0 ≤ n) (h2 : n ≤ 1000000000) (h3 : 0 < d) (h4 : d ≤ 1000) :
    Calls Try.prog 68 #[.int .i64 n, .int .i64 d] w fun e w' => e = .returned (.int .i64 ((n + d - 1).tdiv d)) ∧ w' = w := by
  have e1 : IntKind.i64.wrap (n + d) = n + d := IntWalk.i64_in _ (by omega)
  have e2 : IntKind.i64.wrap (n + d - 1) = n + d - 1 := IntWalk.i64_in _ (by omega)
  have hd : ¬ d = 0 := by omega
  have hq : IntKind.i64.wrap ((n + d - 1).tdiv d) = (n + d - 1).tdiv d := by
    have a : 0 ≤ (n + d - 1).tdiv d := Int.tdiv_nonneg (by omega) (by omega)
    have b : (n + d - 1).tdiv d ≤ n + d - 1 := Int.tdiv_le_self _ (by omega)
    exact IntWalk.i64_in _ (by omega)
  go_enter Try.func68, Try.ntmps68
  go_wp2_with fail
  go_ret
  exact ⟨rfl, rfl⟩
def FarPost (w : World) (r : RigZ) (e : Ending) (w' : World) : Prop := (∃ b, e = .returned (.bool b) ∧ (b = false → r.seats.length ≤ 25 ∧ r.feet.length ≤ 12 ∧ ∀ i, i < r.seats.length → (pathAt r.seats i).length ≤ 70)) ∧ Below w.heap.size w w'
set_option maxHeartbeats 1000000 in
theorem Far_any (r : RigZ) (R : RigR) (B : Nat) (w : World) (hB : B ≤ w.heap.size) (hR : RigIn w B r R) :
    Calls Try.prog 31 #[rigV r R] w (FarPost w r) := by
  obtain ⟨W, hW⟩ : ∃ W, W = w.alloc (.cells (rigCells r R).toArray 57) := ⟨_, rfl⟩
  have bW : Below w.heap.size w W := by subst hW; exact (Below.refl _ _).alloc (Nat.le_refl _) _
  have rW : Row W w.heap.size 57 (rigCells r R) := by subst hW; exact Row.new w _ (rigCells r R).toArray
  have zf := hR.lf
  have zs := hR.s.len
  unfold maxLen at zf zs
  unfold rigV
  unfold rigCells at rW hW
  obtain ⟨_, q0, q1, q2, q3, q4, q5, q6, q7⟩ := Row.at_8 rW
  go_enter Try.func31, Try.ntmps31
  by_cases g1 : (25 : Int) < (r.seats.length : Int)
  · go_wp2_with fail
    rw [← hW]
    go_ret
    exact ⟨⟨true, rfl, fun h => by cases h⟩, bW⟩
  by_cases g2 : (12 : Int) < (r.feet.length : Int)
  · go_wp2_with fail
    rw [← hW]
    go_ret
    exact ⟨⟨true, rfl, fun h => by cases h⟩, bW⟩
  go_wp2_with fail
  rw [← hW]
  clear hW
  go_loopw [3] (fun i wr => ∃ k : Nat, k ≤ r.seats.length ∧ i = .int .i64 k ∧ Below w.heap.size w wr ∧ Row wr w.heap.size 57 (rigCells r R) ∧ ∀ i, i < k → (pathAt r.seats i).length ≤ 70) (fun i _ => r.seats.length - (intOf i).toNat)
  case atStart => exact ⟨0, Nat.zero_le _, rfl, bW, rW, fun i hi => absurd hi (by omega)⟩
  case round =>
    clear rW bW q0 q1 q2 q3 q4 q5 q6 q7
    obtain ⟨k, hk, rfl, hbel, hrow, hall⟩ := hrel
    have Hall := Lib.hid hall
    clear hall
    have hs := hbel.size
    unfold rigCells at hrow
    obtain ⟨_, q0, q1, q2, q3, q4, q5, q6, q7⟩ := Row.at_8 hrow
    by_cases hlt : k < r.seats.length
    · obtain ⟨b, o, hA, hb, hc⟩ := (hR.below (hbel.mono hB)).s.outer (by omega)
      have ck := hc k hlt
      rw [hA] at q0
      clear hA hc
      obtain ⟨N, hN⟩ : ∃ N, N = (pathAt r.seats k).length := ⟨_, rfl⟩
      rw [← hN] at ck
      have HN := Lib.hid hN
      clear hN
      have hkl : (k : Int) < (r.seats.length : Int) := by omega
      have e3 : IntKind.i64.wrap ((k : Int) + 1) = (k : Int) + 1 := IntWalk.i64_in _ (by omega)
      by_cases h70 : (70 : Int) < (N : Int)
      · go_wp2_with fail
        go_ret
        exact ⟨⟨true, rfl, fun h => by cases h⟩, hbel⟩
      · go_wp2_with fail
        go_roundw
        case rel =>
          have HH : ∀ i, i < k + 1 → (pathAt r.seats i).length ≤ 70 := fun i hi => by
            rcases Nat.lt_or_ge i k with h7 | h7
            · exact Hall.out i h7
            · obtain rfl : i = k := by omega
              have := HN.out
              omega
          refine ⟨k + 1, by omega, by go_num, ?_⟩
          first | exact ⟨hbel, hrow, HH⟩ | exact ⟨hrow, HH⟩
        case measure => simp [intOf]; omega
    · obtain rfl : k = r.seats.length := by omega
      go_wp2_with fail
      go_ret
      exact ⟨⟨false, rfl, fun _ => ⟨by omega, by omega, Hall.out⟩⟩, hbel⟩
def BearPost (w : World) (r : RigZ) (soil : Int) (e : Ending) (w' : World) : Prop := e = .returned (.tuple #[.bool (bearV r soil), .int .i64 (bearE r soil)]) ∧ Below w.heap.size w w'
set_option maxHeartbeats 1000000 in
theorem Bears_any (r : RigZ) (R : RigR) (soil : Int) (B : Nat) (w : World) (hB : B ≤ w.heap.size) (hR : RigIn w B r R) :
    Calls Try.prog 32 #[rigV r R, .int .i64 soil] w (BearPost w r soil) := by
  obtain ⟨W, hW⟩ : ∃ W, W = w.alloc (.cells (rigCells r R).toArray 57) := ⟨_, rfl⟩
  have bW : Below w.heap.size w W := by subst hW; exact (Below.refl _ _).alloc (Nat.le_refl _) _
  have rW : Row W w.heap.size 57 (rigCells r R) := by subst hW; exact Row.new w _ (rigCells r R).toArray
  have HM := Lib.hid (measure_any r R B W (Nat.le_trans hB bW.size) (hR.below (bW.mono hB)))
  have Hb := Lib.hid (@bear_bd r)
  have Hp := Lib.hid (@rigB_parts r)
  unfold rigV at HM ⊢
  unfold rigCells at rW hW
  obtain ⟨_, q0, q1, q2, q3, q4, q5, q6, q7⟩ := Row.at_8 rW
  go_enter Try.func32, Try.ntmps32
  go_wp2_with fail
  rw [← hW]
  clear hW
  refine HM.out.mono ?_
  rintro e w1 ⟨hb1, ⟨h1, rfl⟩ | ⟨h1, g, hg, hL, rfl⟩⟩
  · have b1 := bW.trans (hb1.mono bW.size)
    have HE : Hid (bearE r soil = 33 ∧ bearV r soil = false) := by show _ ∧ _; unfold bearE bearV; rw [h1]; exact ⟨rfl, rfl⟩
    unfold gZeros
    go_wp2_with fail
    refine bodyPost_ret (v := .tuple #[.bool false, .int .i64 33]) (by simp [results, Try.results32, go_sem]) rfl ?_
    exact ⟨by rw [HE.out.1, HE.out.2], b1.alloc b1.size _⟩
  · have b1 := bW.trans (hb1.mono bW.size)
    have HE : Hid (bearE r soil = (if soil < 0 then 1 else 0) ∧ bearV r soil = (decide (0 ≤ soil) && decide (bearN r ≤ soil))) := by show _ ∧ _; unfold bearE bearV; rw [h1]; exact ⟨rfl, by rw [Bool.true_and]⟩
    unfold gRigV
    by_cases hs : soil < 0
    · go_wp2_with fail
      refine bodyPost_ret (v := .tuple #[.bool false, .int .i64 1]) (by simp [results, Try.results32, go_sem]) rfl ?_
      exact ⟨by rw [HE.out.1, HE.out.2, if_pos hs, decide_eq_false (by omega)]; rfl, b1.alloc b1.size _⟩
    · obtain ⟨p1, _, p3, _, p5, p6, p7⟩ := Hp.out h1
      have pm := Hb.out h1
      obtain ⟨mm, hmm⟩ : ∃ mm, mm = (r.seats.length : Int) * r.full := ⟨_, rfl⟩
      rw [← hmm] at pm
      have e1 : IntKind.i64.wrap ((r.seats.length : Int) * r.full) = mm := by rw [← hmm]; exact IntWalk.i64_in _ (by omega)
      have e2 : IntKind.i64.wrap (r.frame + mm) = r.frame + mm := IntWalk.i64_in _ (by omega)
      have HN : Hid (bearN r = (r.frame + mm + r.feet.length - 1).tdiv r.feet.length) := by show _ = _; unfold bearN; rw [hmm]
      clear hmm
      go_wp2_with fail
      refine (divideUp_any (r.frame + mm) (r.feet.length : Int) _ (by omega) (by omega) (by omega) (by omega)).mono ?_
      rintro e w2 ⟨rfl, rfl⟩
      go_wp2_with fail
      refine bodyPost_ret (v := .tuple #[.bool (decide ((r.frame + mm + r.feet.length - 1).tdiv r.feet.length ≤ soil)), .int .i64 0]) (by simp [results, Try.results32, go_sem]) rfl ?_
      exact ⟨by rw [HE.out.1, HE.out.2, if_neg (show ¬ soil < 0 by omega), decide_eq_true (show (0 : Int) ≤ soil by omega), Bool.true_and, HN.out], b1.alloc b1.size _⟩
set_option maxHeartbeats 1000000 in
theorem rBears_any (r : RigZ) (R : RigR) (soil : Int) (B : Nat) (w : World) (hB : B ≤ w.heap.size) (hR : RigIn w B r R) :
    Calls Try.prog 34 #[rigV r R, .int .i64 soil] w (BearPost w r soil) := by
  obtain ⟨W, hW⟩ : ∃ W, W = w.alloc (.cells (rigCells r R).toArray 57) := ⟨_, rfl⟩
  have bW : Below w.heap.size w W := by subst hW; exact (Below.refl _ _).alloc (Nat.le_refl _) _
  have rW : Row W w.heap.size 57 (rigCells r R) := by subst hW; exact Row.new w _ (rigCells r R).toArray
  have HM := Lib.hid (rCheckRig_any r R B W (Nat.le_trans hB bW.size) (hR.below (bW.mono hB)))
  have Hb := Lib.hid (@bear_bd r)
  have Hp := Lib.hid (@rigB_parts r)
  unfold rigV at HM ⊢
  unfold rigCells at rW hW
  obtain ⟨_, q0, q1, q2, q3, q4, q5, q6, q7⟩ := Row.at_8 rW
  go_enter Try.func34, Try.ntmps34
  go_wp2_with fail
  rw [← hW]
  clear hW
  refine HM.out.mono ?_
  rintro e w1 ⟨rfl, hb1⟩
  have b1 := bW.trans (hb1.mono bW.size)
  have r1 := rW.below hb1 rW.lt
  clear q0 q1 q2 q3 q4 q5 q6 q7
  obtain ⟨_, q0, q1, q2, q3, q4, q5, q6, q7⟩ := Row.at_8 r1
  cases h1 : rigB r with
  | false =>
    have HE : Hid (bearE r soil = 33 ∧ bearV r soil = false) := by show _ ∧ _; unfold bearE bearV; rw [h1]; exact ⟨rfl, rfl⟩
    rw [show rigE r = 33 from by unfold rigE; rw [h1]; rfl]
    go_wp2_with fail
    refine bodyPost_ret (v := .tuple #[.bool false, .int .i64 33]) (by simp [results, Try.results34, go_sem]) rfl ?_
    exact ⟨by rw [HE.out.1, HE.out.2], b1⟩
  | true =>
    have HE : Hid (bearE r soil = (if soil < 0 then 1 else 0) ∧ bearV r soil = (decide (0 ≤ soil) && decide (bearN r ≤ soil))) := by show _ ∧ _; unfold bearE bearV; rw [h1]; exact ⟨rfl, by rw [Bool.true_and]⟩
    rw [show rigE r = 0 from by unfold rigE; rw [h1]; rfl]
    by_cases hs : soil < 0
    · go_wp2_with fail
      refine bodyPost_ret (v := .tuple #[.bool false, .int .i64 1]) (by simp [results, Try.results34, go_sem]) rfl ?_
      exact ⟨by rw [HE.out.1, HE.out.2, if_pos hs, decide_eq_false (by omega)]; rfl, b1⟩
    · obtain ⟨p1, _, p3, _, p5, p6, p7⟩ := Hp.out h1
      have pm := Hb.out h1
      obtain ⟨mm, hmm⟩ : ∃ mm, mm = (r.seats.length : Int) * r.full := ⟨_, rfl⟩
      rw [← hmm] at pm
      obtain ⟨d, hd⟩ : ∃ d : Int, d = (r.feet.length : Int) := ⟨_, rfl⟩
      have d1 : 0 < d := by omega
      have d2 : d ≤ 8 := by omega
      have hd0 : ¬ d = 0 := by omega
      have e1 : IntKind.i64.wrap ((r.seats.length : Int) * r.full) = mm := by rw [← hmm]; exact IntWalk.i64_in _ (by omega)
      have e2 : IntKind.i64.wrap (r.frame + mm) = r.frame + mm := IntWalk.i64_in _ (by omega)
      have e3 : IntKind.i64.wrap (r.frame + mm + r.feet.length) = r.frame + mm + r.feet.length := IntWalk.i64_in _ (by omega)
      have e4 : IntKind.i64.wrap (r.frame + mm + r.feet.length - 1) = r.frame + mm + r.feet.length - 1 := IntWalk.i64_in _ (by omega)
      have e5 : IntKind.i64.wrap ((r.frame + mm + r.feet.length - 1).tdiv r.feet.length) = (r.frame + mm + r.feet.length - 1).tdiv r.feet.length := by
        have a : 0 ≤ (r.frame + mm + r.feet.length - 1).tdiv r.feet.length := Int.tdiv_nonneg (by omega) (by omega)
        have b : (r.frame + mm + r.feet.length - 1).tdiv r.feet.length ≤ r.frame + mm + r.feet.length - 1 := Int.tdiv_le_self _ (by omega)
        exact IntWalk.i64_in _ (by omega)
      have hnil : ¬ r.feet = [] := by intro e; rw [e] at p3; simp at p3
      have HN : Hid (bearN r = (r.frame + mm + r.feet.length - 1).tdiv r.feet.length) := by show _ = _; unfold bearN; rw [hmm]
      clear hmm hd p3 d1 d2 hd0
      go_wp2_with fail
      refine bodyPost_ret (v := .tuple #[.bool (decide ((r.frame + mm + r.feet.length - 1).tdiv r.feet.length ≤ soil)), .int .i64 0]) (by simp [results, Try.results34, go_sem]) rfl ?_
      exact ⟨by rw [HE.out.1, HE.out.2, if_neg (show ¬ soil < 0 by omega), decide_eq_true (show (0 : Int) ≤ soil by omega), Bool.true_and, HN.out], b1⟩
end Go.Proofs.Ytkmiapfkebdpbaa
