/- The walk of ForceChecks. Conditions: a rig that reads as data. -/
import Derived.Test.YtcfkcpgjnkdbkaaLw
import Derived.Test.YtcfkcpgjnkdbkaaRh
import Derived.Test.YtcfkcpgjnkdbkaaKy
namespace Go.Proofs.Ytcfkcpgjnkdbkaa
open Go.RowKit

def TrueP (w : World) (e : Ending) (w' : World) : Prop := e = .returned (.bool true) ∧ Below w.heap.size w w'
/-- A copied rig (for a region's rule). -/
def isRig (r : RigZ) : Value → World → Prop := fun u y => ∃ R, u = rigV r R ∧ ∃ B, B ≤ y.heap.size ∧ RigIn y B r R
theorem stable_isRig (r : RigZ) : Stable (isRig r) := fun _ _ _ ⟨R, h1, B, h2, h3⟩ hb => ⟨R, h1, B, Nat.le_trans h2 hb.size, h3.below (hb.mono h2)⟩
set_option maxRecDepth 100000 in
set_option maxHeartbeats 4000000 in
theorem checks_walk (r : RigZ) (R : RigR) (soil : Int) (B : Nat) (w : World) (hB : B ≤ w.heap.size) (hR : RigIn w B r R) :
    Calls Try.prog 8 #[rigV r R, .int .i64 soil] w (TrueP w) := by
  obtain ⟨W, hW⟩ : ∃ W, W = w.alloc (.cells (rigCells r R).toArray 57) := ⟨_, rfl⟩
  have bW : Below w.heap.size w W := by subst hW; exact (Below.refl _ _).alloc (Nat.le_refl _) _
  have r0 : Row W w.heap.size 57 (rigCells r R) := by subst hW; exact Row.new w _ (rigCells r R).toArray
  have z0 := r0.lt
  have HR : Hid (∀ X, Below w.heap.size w X → B ≤ X.heap.size ∧ RigIn X B r R) := fun X hX => ⟨Nat.le_trans hB hX.size, hR.below (hX.mono hB)⟩
  have HF := Lib.hid (Far_any r R B W (HR.out W bW).1 (HR.out W bW).2)
  have HRC : Hid (∀ X, Below w.heap.size w X → Calls Try.prog 36 #[rigV r R] X fun e w' => e = .returned (.int .i64 (rigE r)) ∧ Below X.heap.size X w') := fun X hX => rCheckRig_any r R B X (HR.out X hX).1 (HR.out X hX).2
  have HB : Hid (∀ X, Below w.heap.size w X → Calls Try.prog 34 #[rigV r R, .int .i64 soil] X (BearPost X r soil)) := fun X hX => rBears_any r R soil B X (HR.out X hX).1 (HR.out X hX).2
  have Hfin : Hid (∀ X : World, Below w.heap.size w X → Calls Try.prog 15 #[] X fun e w' => e = .returned (.bool true) ∧ Below w.heap.size w w') := fun X hX => (works_any X).mono fun _ _ h => ⟨h.1, hX.trans (h.2.mono hX.size)⟩
  unfold rigV at HF HRC HB ⊢
  unfold rigCells at r0 hW
  obtain ⟨_, q0, q1, q2, q3, q4, q5, q6, q7⟩ := Row.at_8 r0
  go_enter Try.func8, Try.ntmps8
  go_wp2_with fail
  rw [← hW]
  clear hW
  refine HF.out.mono ?_
  rintro e w1 ⟨⟨fb, rfl, hfb⟩, hb1⟩
  have b1 := bW.trans (hb1.mono bW.size)
  have r1 := r0.below hb1 z0
  have z1 := r1.lt
  clear q0 q1 q2 q3 q4 q5 q6 q7
  obtain ⟨_, q0, q1, q2, q3, q4, q5, q6, q7⟩ := Row.at_8 r1
  cases fb with
  | true =>
    clear hfb
    go_wp2_with fail
    refine (Hfin.out _ b1).mono ?_
    rintro e w2 ⟨rfl, hb2⟩
    go_wp2_with fail
    go_ret
    exact ⟨rfl, hb2⟩
  | false =>
    obtain ⟨h25, h12, h70⟩ := hfb rfl
    have HC : Hid (∀ X, Below w.heap.size w X → Calls Try.prog 33 #[rigV r R] X (CopyPost X r)) := fun X hX => Copy_any r R B X (HR.out X hX).1 (HR.out X hX).2 h25 h12 h70
    clear h25 h12 h70 hfb
    unfold rigV at HC
    go_wp2_with fail
    refine (HC.out w1 b1).mono ?_
    rintro e w2 ⟨hb2, R1, rfl, hR1⟩
    have b2 := b1.trans (hb2.mono b1.size)
    have r2 := r1.below hb2 z1
    unfold rigV
    go_wp2_with fail
    refine (Bears_any r R1 soil w2.heap.size w2 (Nat.le_refl _) hR1).mono ?_
    rintro e w3 ⟨rfl, hb3⟩
    have b3 := b2.trans (hb3.mono b2.size)
    have r3 := r2.below hb3 r2.lt
    clear q0 q1 q2 q3 q4 q5 q6 q7 hR1
    obtain ⟨_, q0, q1, q2, q3, q4, q5, q6, q7⟩ := Row.at_8 r3
    go_wp2_with fail
    refine (HB.out w3 b3).mono ?_
    rintro e w4 ⟨rfl, hb4⟩
    have bw4 := b3.trans (hb4.mono b3.size)
    have r4 := r3.below hb4 r3.lt
    have z4 := r4.lt
    clear q0 q1 q2 q3 q4 q5 q6 q7 b1 b2 b3 hb1 hb2 hb3 hb4 r1 r2 r3 z1
    obtain ⟨bv, hbv⟩ : ∃ bv, bv = bearV r soil := ⟨_, rfl⟩
    obtain ⟨be, hbe⟩ : ∃ be, be = bearE r soil := ⟨_, rfl⟩
    obtain ⟨re, hre⟩ : ∃ re, re = rigE r := ⟨_, rfl⟩
    rw [← hbv, ← hbe]
    rw [← hre] at HRC
    have HRE := Lib.hid hre
    clear hbv hbe hre
    go_upto_region 5 with (fail)
    refine wp_region_all 20 (w0 := w4) (ord := [0, 1, 2, 3, 4, 5, 6, 7, 8, 9, 10, 11, 12, 13, 14, 15, 16, 17, 18, 19]) (ds := [(0, 25), (1, 26), (2, 27), (3, 28), (4, 29), (5, 30), (6, 31), (7, 32), (8, 33), (9, 34), (10, 35), (11, 36), (12, 37), (13, 38), (14, 39), (15, 40), (16, 41), (17, 42), (18, 43), (19, 4)]) (l := [isV ?va0, isRig r, isV ?va2, isV ?va3, isV ?va4, isV ?va5, isV ?va6, isV ?va7, isV ?va8, isV ?va9, isV ?va10, isV ?va11, isV ?va12, isV ?va13, isV ?va14, isV ?va15, isV ?va16, isV ?va17, isV ?va18, isV ?va19]) (by kernel_rfl) (by kernel_rfl) (by first | rfl | kernel_rfl) (AddSteps.cons (k := 0) (k' := 1) rfl ?sa0 (AddSteps.cons (k := 1) (k' := 2) rfl ?sa1 (AddSteps.cons (k := 2) (k' := 3) rfl ?sa2 (AddSteps.cons (k := 3) (k' := 4) rfl ?sa3 (AddSteps.cons (k := 4) (k' := 5) rfl ?sa4 (AddSteps.cons (k := 5) (k' := 6) rfl ?sa5 (AddSteps.cons (k := 6) (k' := 7) rfl ?sa6 (AddSteps.cons (k := 7) (k' := 8) rfl ?sa7 (AddSteps.cons (k := 8) (k' := 9) rfl ?sa8 (AddSteps.cons (k := 9) (k' := 10) rfl ?sa9 (AddSteps.cons (k := 10) (k' := 11) rfl ?sa10 (AddSteps.cons (k := 11) (k' := 12) rfl ?sa11 (AddSteps.cons (k := 12) (k' := 13) rfl ?sa12 (AddSteps.cons (k := 13) (k' := 14) rfl ?sa13 (AddSteps.cons (k := 14) (k' := 15) rfl ?sa14 (AddSteps.cons (k := 15) (k' := 16) rfl ?sa15 (AddSteps.cons (k := 16) (k' := 17) rfl ?sa16 (AddSteps.cons (k := 17) (k' := 18) rfl ?sa17 (AddSteps.cons (k := 18) (k' := 19) rfl ?sa18 (AddSteps.cons (k := 19) (k' := 20) rfl ?sa19 AddSteps.nil)))))))))))))))))))) ?sta ?fina
    case sa0 =>
      refine AddStep.go (o := ⟨some 25, _, _, _, _, _⟩) rfl rfl (fun xs y hy hV K hK => ?_)
      clear hV
      simp only [putsF, List.foldl_cons, List.foldl_nil, Act.put, List.setIfInBounds_toArray, List.set_cons_zero, List.set_cons_succ] at hK ⊢
      obtain ⟨_, q0, q1, q2, q3, q4, q5, q6, q7⟩ := Row.at_8 (r4.below hy z4)
      go_wp2_with fail
      exact hK.out _ _ (Below.refl _ _) (by exact rfl)
    case sa1 =>
      refine AddStep.go (o := ⟨some 26, _, _, _, _, _⟩) rfl rfl (fun xs y hy hV K hK => ?_)
      have e0 : xs 0 = _ := hV 0 (by kernel_rfl)
      clear hV
      simp only [putsF, List.foldl_cons, List.foldl_nil, Act.put, List.setIfInBounds_toArray, List.set_cons_zero, List.set_cons_succ] at hK ⊢
      simp only [e0] at hK ⊢
      clear e0
      go_wp2_with (go_at_call 33; refine (HC.out y (bw4.trans (hy.mono bw4.size))).mono ?_; rintro e z ⟨hz, R1, rfl, hR1⟩)
      exact hK.out _ _ hz ⟨R1, rfl, _, Nat.le_refl _, hR1⟩
    case sa2 =>
      refine AddStep.go (o := ⟨some 27, _, _, _, _, _⟩) rfl rfl (fun xs y hy hV K hK => ?_)
      obtain ⟨R1, e1, B1, hB1, hR1⟩ := (hV 1 (by kernel_rfl))
      clear hV
      simp only [putsF, List.foldl_cons, List.foldl_nil, Act.put, List.setIfInBounds_toArray, List.set_cons_zero, List.set_cons_succ] at hK ⊢
      simp only [e1] at hK ⊢
      clear e1
      unfold rigV
      go_wp2_with (go_at_call 35; refine (CheckRig_any r R1 B1 y hB1 hR1).mono ?_; rintro e z ⟨rfl, hz⟩; rw [← HRE.out])
      exact hK.out _ _ hz (by exact rfl)
    case sa3 =>
      refine AddStep.go (o := ⟨some 28, _, _, _, _, _⟩) rfl rfl (fun xs y hy hV K hK => ?_)
      clear hV
      simp only [putsF, List.foldl_cons, List.foldl_nil, Act.put, List.setIfInBounds_toArray, List.set_cons_zero, List.set_cons_succ] at hK ⊢
      obtain ⟨_, q0, q1, q2, q3, q4, q5, q6, q7⟩ := Row.at_8 (r4.below hy z4)
      go_wp2_with fail
      exact hK.out _ _ (Below.refl _ _) (by exact rfl)
    case sa4 =>
      refine AddStep.go (o := ⟨some 29, _, _, _, _, _⟩) rfl rfl (fun xs y hy hV K hK => ?_)
      have e3 : xs 3 = _ := hV 3 (by kernel_rfl)
      clear hV
      simp only [putsF, List.foldl_cons, List.foldl_nil, Act.put, List.setIfInBounds_toArray, List.set_cons_zero, List.set_cons_succ] at hK ⊢
      simp only [e3] at hK ⊢
      clear e3
      go_wp2_with (go_at_call 36; refine (HRC.out y (bw4.trans (hy.mono bw4.size))).mono ?_; rintro e z ⟨rfl, hz⟩)
      exact hK.out _ _ hz (by exact rfl)
    case sa5 =>
      refine AddStep.go (o := ⟨some 30, _, _, _, _, _⟩) rfl rfl (fun xs y hy hV K hK => ?_)
      have e2 : xs 2 = _ := hV 2 (by kernel_rfl)
      have e4 : xs 4 = _ := hV 4 (by kernel_rfl)
      clear hV
      simp only [putsF, List.foldl_cons, List.foldl_nil, Act.put, List.setIfInBounds_toArray, List.set_cons_zero, List.set_cons_succ] at hK ⊢
      simp only [e2, e4] at hK ⊢
      clear e2 e4
      go_wp2_with fail
      exact hK.out _ _ (Below.refl _ _) (by exact rfl)
    case sa6 =>
      refine AddStep.go (o := ⟨some 31, _, _, _, _, _⟩) rfl rfl (fun xs y hy hV K hK => ?_)
      have e5 : xs 5 = _ := hV 5 (by kernel_rfl)
      clear hV
      simp only [putsF, List.foldl_cons, List.foldl_nil, Act.put, List.setIfInBounds_toArray, List.set_cons_zero, List.set_cons_succ] at hK ⊢
      simp only [e5] at hK ⊢
      clear e5
      go_wp2_with fail
      exact hK.out _ _ (Below.refl _ _) (by exact rfl)
    case sa7 =>
      refine AddStep.mk (o := ⟨some 32, _, _, _, _, _⟩) rfl (fun xs y hy hV K hK => ?_)
      have e6 : xs 6 = _ := hV 6 (by kernel_rfl)
      clear hV
      simp only [putsF, List.foldl_cons, List.foldl_nil, Act.put, List.setIfInBounds_toArray, List.set_cons_zero, List.set_cons_succ] at hK ⊢
      simp only [e6] at hK ⊢
      clear e6
      rw [if_pos (show Region.wanted _ _ = true from by kernel_rfl)]
      go_wp2_with fail
      exact hK.out _ _ (Below.refl _ _) (by exact rfl)
    case sa8 =>
      refine AddStep.mk (o := ⟨some 33, _, _, _, _, _⟩) rfl (fun xs y hy hV K hK => ?_)
      have e6 : xs 6 = _ := hV 6 (by kernel_rfl)
      clear hV
      simp only [putsF, List.foldl_cons, List.foldl_nil, Act.put, List.setIfInBounds_toArray, List.set_cons_zero, List.set_cons_succ] at hK ⊢
      simp only [e6] at hK ⊢
      clear e6
      rw [if_pos (show Region.wanted _ _ = true from by kernel_rfl)]
      go_wp2_with fail
      exact hK.out _ _ (Below.refl _ _) (by exact rfl)
    case sa9 =>
      refine AddStep.mk (o := ⟨some 34, _, _, _, _, _⟩) rfl (fun xs y hy hV K hK => ?_)
      have e7 : xs 7 = _ := hV 7 (by kernel_rfl)
      have e8 : xs 8 = _ := hV 8 (by kernel_rfl)
      have e6 : xs 6 = _ := hV 6 (by kernel_rfl)
      clear hV
      simp only [putsF, List.foldl_cons, List.foldl_nil, Act.put, List.setIfInBounds_toArray, List.set_cons_zero, List.set_cons_succ] at hK ⊢
      simp only [e7, e8, e6] at hK ⊢
      clear e7 e8 e6
      rw [if_pos (show Region.wanted _ _ = true from by kernel_rfl)]
      go_wp2_with fail
      exact hK.out _ _ (Below.refl _ _) (by exact rfl)
    case sa10 =>
      refine AddStep.go (o := ⟨some 35, _, _, _, _, _⟩) rfl rfl (fun xs y hy hV K hK => ?_)
      have e6 : xs 6 = _ := hV 6 (by kernel_rfl)
      have e9 : xs 9 = _ := hV 9 (by kernel_rfl)
      clear hV
      simp only [putsF, List.foldl_cons, List.foldl_nil, Act.put, List.setIfInBounds_toArray, List.set_cons_zero, List.set_cons_succ] at hK ⊢
      simp only [e6, e9] at hK ⊢
      clear e6 e9
      go_wp2_with fail
      exact hK.out _ _ (Below.refl _ _) (by exact rfl)
    case sa11 =>
      refine AddStep.go (o := ⟨some 36, _, _, _, _, _⟩) rfl rfl (fun xs y hy hV K hK => ?_)
      have e10 : xs 10 = _ := hV 10 (by kernel_rfl)
      clear hV
      simp only [putsF, List.foldl_cons, List.foldl_nil, Act.put, List.setIfInBounds_toArray, List.set_cons_zero, List.set_cons_succ] at hK ⊢
      simp only [e10] at hK ⊢
      clear e10
      go_wp2_with fail
      exact hK.out _ _ (Below.refl _ _) (by exact rfl)
    case sa12 =>
      refine AddStep.mk (o := ⟨some 37, _, _, _, _, _⟩) rfl (fun xs y hy hV K hK => ?_)
      have e11 : xs 11 = _ := hV 11 (by kernel_rfl)
      clear hV
      simp only [putsF, List.foldl_cons, List.foldl_nil, Act.put, List.setIfInBounds_toArray, List.set_cons_zero, List.set_cons_succ] at hK ⊢
      simp only [e11] at hK ⊢
      clear e11
      rw [if_pos (show Region.wanted _ _ = true from by kernel_rfl)]
      go_wp2_with fail
      exact hK.out _ _ (Below.refl _ _) (by exact rfl)
    case sa13 =>
      refine AddStep.mk (o := ⟨some 38, _, _, _, _, _⟩) rfl (fun xs y hy hV K hK => ?_)
      have e11 : xs 11 = _ := hV 11 (by kernel_rfl)
      clear hV
      simp only [putsF, List.foldl_cons, List.foldl_nil, Act.put, List.setIfInBounds_toArray, List.set_cons_zero, List.set_cons_succ] at hK ⊢
      simp only [e11] at hK ⊢
      clear e11
      rw [if_pos (show Region.wanted _ _ = true from by kernel_rfl)]
      go_wp2_with fail
      exact hK.out _ _ (Below.refl _ _) (by exact rfl)
    case sa14 =>
      refine AddStep.mk (o := ⟨some 39, _, _, _, _, _⟩) rfl (fun xs y hy hV K hK => ?_)
      have e12 : xs 12 = _ := hV 12 (by kernel_rfl)
      have e13 : xs 13 = _ := hV 13 (by kernel_rfl)
      have e11 : xs 11 = _ := hV 11 (by kernel_rfl)
      clear hV
      simp only [putsF, List.foldl_cons, List.foldl_nil, Act.put, List.setIfInBounds_toArray, List.set_cons_zero, List.set_cons_succ] at hK ⊢
      simp only [e12, e13, e11] at hK ⊢
      clear e12 e13 e11
      rw [if_pos (show Region.wanted _ _ = true from by kernel_rfl)]
      go_wp2_with fail
      exact hK.out _ _ (Below.refl _ _) (by exact rfl)
    case sa15 =>
      refine AddStep.go (o := ⟨some 40, _, _, _, _, _⟩) rfl rfl (fun xs y hy hV K hK => ?_)
      have e11 : xs 11 = _ := hV 11 (by kernel_rfl)
      have e14 : xs 14 = _ := hV 14 (by kernel_rfl)
      clear hV
      simp only [putsF, List.foldl_cons, List.foldl_nil, Act.put, List.setIfInBounds_toArray, List.set_cons_zero, List.set_cons_succ] at hK ⊢
      simp only [e11, e14] at hK ⊢
      clear e11 e14
      go_wp2_with fail
      exact hK.out _ _ (Below.refl _ _) (by exact rfl)
    case sa16 =>
      refine AddStep.go (o := ⟨some 41, _, _, _, _, _⟩) rfl rfl (fun xs y hy hV K hK => ?_)
      have e15 : xs 15 = _ := hV 15 (by kernel_rfl)
      clear hV
      simp only [putsF, List.foldl_cons, List.foldl_nil, Act.put, List.setIfInBounds_toArray, List.set_cons_zero, List.set_cons_succ] at hK ⊢
      simp only [e15] at hK ⊢
      clear e15
      go_wp2_with fail
      exact hK.out _ _ (Below.refl _ _) (by exact rfl)
    case sa17 =>
      refine AddStep.mk (o := ⟨some 42, _, _, _, _, _⟩) rfl (fun xs y hy hV K hK => ?_)
      have e16 : xs 16 = _ := hV 16 (by kernel_rfl)
      clear hV
      simp only [putsF, List.foldl_cons, List.foldl_nil, Act.put, List.setIfInBounds_toArray, List.set_cons_zero, List.set_cons_succ] at hK ⊢
      simp only [e16] at hK ⊢
      clear e16
      rw [if_pos (show Region.wanted _ _ = true from by kernel_rfl)]
      go_wp2_with (go_at_call 15; refine (works_any _).mono ?_; rintro e z ⟨rfl, hz⟩)
      exact hK.out _ _ hz (by exact rfl)
    case sa18 =>
      refine AddStep.go (o := ⟨some 43, _, _, _, _, _⟩) rfl rfl (fun xs y hy hV K hK => ?_)
      have e16 : xs 16 = _ := hV 16 (by kernel_rfl)
      have e17 : xs 17 = _ := hV 17 (by kernel_rfl)
      clear hV
      simp only [putsF, List.foldl_cons, List.foldl_nil, Act.put, List.setIfInBounds_toArray, List.set_cons_zero, List.set_cons_succ] at hK ⊢
      simp only [e16, e17] at hK ⊢
      clear e16 e17
      go_wp2_with fail
      exact hK.out _ _ (Below.refl _ _) (by exact rfl)
    case sa19 =>
      refine AddStep.go (o := ⟨some 4, _, _, _, _, _⟩) rfl rfl (fun xs y hy hV K hK => ?_)
      have e18 : xs 18 = _ := hV 18 (by kernel_rfl)
      clear hV
      simp only [putsF, List.foldl_cons, List.foldl_nil, Act.put, List.setIfInBounds_toArray, List.set_cons_zero, List.set_cons_succ] at hK ⊢
      simp only [e18] at hK ⊢
      clear e18
      go_wp2_with fail
      exact hK.out _ _ (Below.refl _ _) (by exact rfl)
    case sta => exact (AllSt.cons (stable_isV _) (AllSt.cons (stable_isRig r) (AllSt.cons (stable_isV _) (AllSt.cons (stable_isV _) (AllSt.cons (stable_isV _) (AllSt.cons (stable_isV _) (AllSt.cons (stable_isV _) (AllSt.cons (stable_isV _) (AllSt.cons (stable_isV _) (AllSt.cons (stable_isV _) (AllSt.cons (stable_isV _) (AllSt.cons (stable_isV _) (AllSt.cons (stable_isV _) (AllSt.cons (stable_isV _) (AllSt.cons (stable_isV _) (AllSt.cons (stable_isV _) (AllSt.cons (stable_isV _) (AllSt.cons (stable_isV _) (AllSt.cons (stable_isV _) (AllSt.cons (stable_isV _) AllSt.nil))))))))))))))))))))
    case fina =>
      intro xs y hy hV
      have e0 : xs 0 = _ := hV 0 (by decide)
      obtain ⟨R1, e1, B1, hB1, hR1⟩ := (hV 1 (by decide))
      have e2 : xs 2 = _ := hV 2 (by decide)
      have e3 : xs 3 = _ := hV 3 (by decide)
      have e4 : xs 4 = _ := hV 4 (by decide)
      have e5 : xs 5 = _ := hV 5 (by decide)
      have e6 : xs 6 = _ := hV 6 (by decide)
      have e7 : xs 7 = _ := hV 7 (by decide)
      have e8 : xs 8 = _ := hV 8 (by decide)
      have e9 : xs 9 = _ := hV 9 (by decide)
      have e10 : xs 10 = _ := hV 10 (by decide)
      have e11 : xs 11 = _ := hV 11 (by decide)
      have e12 : xs 12 = _ := hV 12 (by decide)
      have e13 : xs 13 = _ := hV 13 (by decide)
      have e14 : xs 14 = _ := hV 14 (by decide)
      have e15 : xs 15 = _ := hV 15 (by decide)
      have e16 : xs 16 = _ := hV 16 (by decide)
      have e17 : xs 17 = _ := hV 17 (by decide)
      have e18 : xs 18 = _ := hV 18 (by decide)
      have e19 : xs 19 = _ := hV 19 (by decide)
      clear hV
      simp only [putsF, List.foldl_cons, List.foldl_nil, Act.put, List.setIfInBounds_toArray, List.set_cons_zero, List.set_cons_succ]
      simp only [e0, e1, e2, e3, e4, e5, e6, e7, e8, e9, e10, e11, e12, e13, e14, e15, e16, e17, e18, e19]
      clear e0 e1 e2 e3 e4 e5 e6 e7 e8 e9 e10 e11 e12 e13 e14 e15 e16 e17 e18 e19
      go_wp2_with fail
      go_ret
      exact ⟨rfl, bw4.trans (hy.mono bw4.size)⟩
end Go.Proofs.Ytcfkcpgjnkdbkaa
