/- The walk of ForceMoments. Conditions: a rig and a loading that read as data. -/
import Derived.Test.YtcfkcpgjnkdbkaaMf
import Derived.Test.YtcfkcpgjnkdbkaaMd
namespace Go.Proofs.Ytcfkcpgjnkdbkaa
open Go.RowKit

theorem RigIn.more {w : World} {B B' : Nat} {r : RigZ} {R : RigR} (h : RigIn w B r R) (hB : B ≤ B') : RigIn w B' r R :=
  ⟨⟨h.s.len, fun h0 => by
    obtain ⟨b, o, e, hb, hc⟩ := h.s.outer h0
    exact ⟨b, o, e, by omega, hc⟩, fun i hi => (h.s.inner i hi).more hB, h.s.lens⟩, h.f.more hB, h.lf⟩
theorem bools_one {l : List Bool} : ∀ u ∈ l.map Value.bool, u.oneCell' = true := by
  intro u hu
  obtain ⟨b, _, rfl⟩ := List.mem_map.1 hu
  rfl
theorem Try.info_bool : (Try.prog.info? 4).map (fun i => (i.zero, i.size, i.bytes)) = some (some (.bool false), 1, 1) := by kernel_rfl
def loadV' (A : Option Addr) (n c : Nat) (ph line : Int) : Value := .agg #[.slice A n c, .int .i64 ph, .int .i64 line]
set_option maxRecDepth 100000 in
set_option maxHeartbeats 4000000 in
theorem moments_walk (r : RigZ) (R : RigR) (l : List Bool) (A3 : Option Addr) (c3 : Nat) (ph line : Int) (B : Nat) (w : World) (hB : B ≤ w.heap.size) (hR : RigIn w B r R) (hl : Reads w B 1 A3 l.length (l.map Value.bool)) (hln : l.length ≤ maxLen) :
    Calls Try.prog 9 #[rigV r R, loadV' A3 l.length c3 ph line] w (TrueP w) := by
  obtain ⟨i0, hi, hz0, hz1, hz2⟩ := info_parts Try.info_bool
  obtain ⟨W, hW⟩ : ∃ W, W = (w.alloc (.cells (rigCells r R).toArray 57)).alloc (.cells #[.slice A3 l.length c3, .int .i64 ph, .int .i64 line] 66) := ⟨_, rfl⟩
  have bW : Below w.heap.size w W := by subst hW; exact ((Below.refl _ _).alloc (Nat.le_refl _) _).alloc (by simp) _
  have r0 : Row W w.heap.size 57 (rigCells r R) := by subst hW; exact (Row.new w _ (rigCells r R).toArray).alloc _
  have s0 : Row W (w.heap.size + 1) 66 [.slice A3 l.length c3, .int .i64 ph, .int .i64 line] := by
    subst hW
    have h := Row.new (w.alloc (.cells (rigCells r R).toArray 57)) 66 #[.slice A3 l.length c3, .int .i64 ph, .int .i64 line]
    rw [World.size_alloc] at h
    exact h
  have z0 := r0.lt
  have zs0 := s0.lt
  have HR : Hid (∀ X, Below w.heap.size w X → B ≤ X.heap.size ∧ RigIn X B r R) := fun X hX => ⟨Nat.le_trans hB hX.size, hR.below (hX.mono hB)⟩
  have HF := Lib.hid (Far_any r R B W (HR.out W bW).1 (HR.out W bW).2)
  obtain ⟨⟨a, er⟩, hae⟩ : ∃ q, q = momS r l ph line := ⟨_, rfl⟩
  have HRM : Hid (∀ X, Below w.heap.size w X → Calls Try.prog 38 #[rigV r R, .slice A3 l.length c3, .int .i64 ph, .int .i64 line] X fun e w' => e = .returned (.tuple #[.int .i64 a, .int .i64 er]) ∧ Below X.heap.size X w') := fun X hX =>
    (rMoment_any r R B l A3 c3 ph line X (HR.out X hX).1 (HR.out X hX).2 (hl.below (hX.mono hB)) hln).mono fun e w' h => by
      obtain ⟨h1, h2⟩ := h
      rw [← hae] at h1
      exact ⟨h1, h2⟩
  have HMo : Hid (∀ X R1 A5 c5, RigIn X X.heap.size r R1 → Reads X X.heap.size 1 A5 l.length (l.map Value.bool) → Calls Try.prog 37 #[rigV r R1, .slice A5 l.length c5, .int .i64 ph, .int .i64 line] X fun e w' => e = .returned (.tuple #[.int .i64 a, .int .i64 er]) ∧ Below X.heap.size X w') := fun X R1 A5 c5 h1 h2 =>
    (Moment_any r R1 X.heap.size l A5 c5 ph line X (Nat.le_refl _) h1 h2 hln).mono fun e w' h => by
      obtain ⟨h1, h2⟩ := h
      rw [← hae] at h1
      exact ⟨h1, h2⟩
  have Hfin : Hid (∀ X : World, Below w.heap.size w X → Calls Try.prog 15 #[] X fun e w' => e = .returned (.bool true) ∧ Below w.heap.size w w') := fun X hX => (works_any X).mono fun _ _ h => ⟨h.1, hX.trans (h.2.mono hX.size)⟩
  have Hl0 := Lib.hid (fun (X : World) (hX : Below w.heap.size w X) => hl.below (hX.mono hB))
  unfold maxLen at hln
  clear hae hl
  unfold rigV at HF HRM HMo
  unfold rigV loadV'
  unfold rigCells at r0 hW
  obtain ⟨_, q0, q1, q2, q3, q4, q5, q6, q7⟩ := Row.at_8 r0
  go_enter Try.func9, Try.ntmps9
  go_wp2_with fail
  rw [← hW]
  clear hW
  refine HF.out.mono ?_
  rintro e w1 ⟨⟨fb, rfl, hfb⟩, hb1⟩
  have b1 := bW.trans (hb1.mono bW.size)
  have r1 := r0.below hb1 z0
  have s1 := s0.below hb1 zs0
  have z1 := r1.lt
  have zs1 := s1.lt
  clear q0 q1 q2 q3 q4 q5 q6 q7 r0 s0 z0 zs0 bW hb1
  obtain ⟨_, q0, q1, q2, q3, q4, q5, q6, q7⟩ := Row.at_8 r1
  obtain ⟨_, u0, u1, u2⟩ := Row.at_3 s1
  cases fb with
  | true =>
    clear hfb
    go_wp2_with fail
    refine (Hfin.out _ b1).mono ?_
    rintro e w2 ⟨rfl, hb2⟩
    go_wp2_with fail
    go_ret
    exact ⟨rfl, hb2⟩
  | false =>
    obtain ⟨h25, h12, h70⟩ := hfb rfl
    have HC : Hid (∀ X, Below w.heap.size w X → Calls Try.prog 33 #[rigV r R] X (CopyPost X r)) := fun X hX => Copy_any r R B X (HR.out X hX).1 (HR.out X hX).2 h25 h12 h70
    clear h25 h12 h70 hfb
    unfold rigV at HC
    by_cases h30 : (30 : Int) < (l.length : Int)
    · have hd : decide ((30 : Int) < (l.length : Int)) = true := by simpa using h30
      go_wp2_with fail
      refine (Hfin.out _ b1).mono ?_
      rintro e w2 ⟨rfl, hb2⟩
      go_wp2_with fail
      go_ret
      exact ⟨rfl, hb2⟩
    have hd : decide ((30 : Int) < (l.length : Int)) = false := by simpa using h30
    have HL : Hid (∀ X, Below w1.heap.size w1 X → Reads X B 1 A3 l.length (l.map Value.bool)) := fun X hX => Hl0.out X (b1.trans (hX.mono b1.size))
    go_upto_region 3 with (fail)
    refine wp_region_all 16 (w0 := w1) (ord := [0, 1, 2, 3, 4, 5, 6, 7, 8, 9, 10, 11, 12, 13, 14, 15]) (ds := [(0, 19), (1, 20), (2, 21), (3, 22), (4, 23), (5, 24), (6, 25), (7, 26), (8, 27), (9, 28), (10, 29), (11, 18), (12, 30), (13, 31), (14, 5), (15, 6)]) (l := [isV ?va0, isRig r, isEmpty w1.heap.size 4 1, isV ?va3, isV ?va4, isOwn w1.heap.size 4 1 l.length (l.map Value.bool), isV ?va6, isV ?va7, isV ?va8, isV ?va9, isV ?va10, isV ?va11, isV ?va12, isV ?va13, isV ?va14, isV ?va15]) (by kernel_rfl) (by kernel_rfl) (by first | rfl | kernel_rfl) (AddSteps.cons (k := 0) (k' := 1) rfl ?sa0 (AddSteps.cons (k := 1) (k' := 2) rfl ?sa1 (AddSteps.cons (k := 2) (k' := 3) rfl ?sa2 (AddSteps.cons (k := 3) (k' := 4) rfl ?sa3 (AddSteps.cons (k := 4) (k' := 5) rfl ?sa4 (AddSteps.cons (k := 5) (k' := 6) rfl ?sa5 (AddSteps.cons (k := 6) (k' := 7) rfl ?sa6 (AddSteps.cons (k := 7) (k' := 8) rfl ?sa7 (AddSteps.cons (k := 8) (k' := 9) rfl ?sa8 (AddSteps.cons (k := 9) (k' := 10) rfl ?sa9 (AddSteps.cons (k := 10) (k' := 11) rfl ?sa10 (AddSteps.cons (k := 11) (k' := 12) rfl ?sa11 (AddSteps.cons (k := 12) (k' := 13) rfl ?sa12 (AddSteps.cons (k := 13) (k' := 14) rfl ?sa13 (AddSteps.cons (k := 14) (k' := 15) rfl ?sa14 (AddSteps.cons (k := 15) (k' := 16) rfl ?sa15 AddSteps.nil)))))))))))))))) ?sta ?fina
    case sa0 =>
      refine AddStep.go (o := ⟨some 19, _, _, _, _, _⟩) rfl rfl (fun xs y hy hV K hK => ?_)
      clear hV
      simp only [putsF, List.foldl_cons, List.foldl_nil, Act.put, List.setIfInBounds_toArray, List.set_cons_zero, List.set_cons_succ] at hK ⊢
      obtain ⟨_, q0, q1, q2, q3, q4, q5, q6, q7⟩ := Row.at_8 (r1.below hy z1)
      obtain ⟨_, u0, u1, u2⟩ := Row.at_3 (s1.below hy zs1)
      go_wp2_with fail
      exact hK.out _ _ (Below.refl _ _) (by exact rfl)
    case sa1 =>
      refine AddStep.go (o := ⟨some 20, _, _, _, _, _⟩) rfl rfl (fun xs y hy hV K hK => ?_)
      have e0 : xs 0 = _ := hV 0 (by kernel_rfl)
      clear hV
      simp only [putsF, List.foldl_cons, List.foldl_nil, Act.put, List.setIfInBounds_toArray, List.set_cons_zero, List.set_cons_succ] at hK ⊢
      simp only [e0] at hK ⊢
      clear e0
      go_wp2_with (go_at_call 33; refine (HC.out y (b1.trans (hy.mono b1.size))).mono ?_; rintro e z ⟨hz, R1, rfl, hR1⟩)
      exact hK.out _ _ hz ⟨R1, rfl, _, Nat.le_refl _, hR1⟩
    case sa2 =>
      refine AddStep.go (o := ⟨some 21, _, _, _, _, _⟩) rfl rfl (fun xs y hy hV K hK => ?_)
      clear hV
      simp only [putsF, List.foldl_cons, List.foldl_nil, Act.put, List.setIfInBounds_toArray, List.set_cons_zero, List.set_cons_succ] at hK ⊢
      go_wp2_with fail
      exact hK.out _ _ ((Below.refl _ _).alloc (Nat.le_refl _) _) (new_empty hy.size)
    case sa3 =>
      refine AddStep.go (o := ⟨some 22, _, _, _, _, _⟩) rfl rfl (fun xs y hy hV K hK => ?_)
      clear hV
      simp only [putsF, List.foldl_cons, List.foldl_nil, Act.put, List.setIfInBounds_toArray, List.set_cons_zero, List.set_cons_succ] at hK ⊢
      go_wp2_with fail
      exact hK.out _ _ (Below.refl _ _) (by exact rfl)
    case sa4 =>
      refine AddStep.go (o := ⟨some 23, _, _, _, _, _⟩) rfl rfl (fun xs y hy hV K hK => ?_)
      have e3 : xs 3 = _ := hV 3 (by kernel_rfl)
      clear hV
      simp only [putsF, List.foldl_cons, List.foldl_nil, Act.put, List.setIfInBounds_toArray, List.set_cons_zero, List.set_cons_succ] at hK ⊢
      simp only [e3] at hK ⊢
      clear e3
      obtain ⟨_, q0, q1, q2, q3, q4, q5, q6, q7⟩ := Row.at_8 (r1.below hy z1)
      obtain ⟨_, u0, u1, u2⟩ := Row.at_3 (s1.below hy zs1)
      go_wp2_with fail
      exact hK.out _ _ (Below.refl _ _) (by exact rfl)
    case sa5 =>
      refine AddStep.go (o := ⟨some 24, _, _, _, _, _⟩) rfl rfl (fun xs y hy hV K hK => ?_)
      have h2 := (hV 2 (by kernel_rfl))
      have e4 : xs 4 = _ := hV 4 (by kernel_rfl)
      clear hV
      simp only [putsF, List.foldl_cons, List.foldl_nil, Act.put, List.setIfInBounds_toArray, List.set_cons_zero, List.set_cons_succ] at hK ⊢
      simp only [e4] at hK ⊢
      clear e4
      refine wp_app0 _ (.tmp 21) (.tmp 23) 64 (by rfl) w1.heap.size 4 i0 _ 1 1 Try.underlying64 hi hz0 hz1 hz2 rfl (by decide) _ (by rfl) h2 B A3 l.length c3 (l.map Value.bool) (by rfl) (HL.out y hy) bools_one (by unfold maxLen; omega) (by omega) ?_
      intro v1 z ho hb
      exact hK.out _ _ hb ⟨ho, Nat.le_trans h2.2.2 hb.size⟩
    case sa6 =>
      refine AddStep.go (o := ⟨some 25, _, _, _, _, _⟩) rfl rfl (fun xs y hy hV K hK => ?_)
      clear hV
      simp only [putsF, List.foldl_cons, List.foldl_nil, Act.put, List.setIfInBounds_toArray, List.set_cons_zero, List.set_cons_succ] at hK ⊢
      go_wp2_with fail
      exact hK.out _ _ (Below.refl _ _) (by exact rfl)
    case sa7 =>
      refine AddStep.go (o := ⟨some 26, _, _, _, _, _⟩) rfl rfl (fun xs y hy hV K hK => ?_)
      have e6 : xs 6 = _ := hV 6 (by kernel_rfl)
      clear hV
      simp only [putsF, List.foldl_cons, List.foldl_nil, Act.put, List.setIfInBounds_toArray, List.set_cons_zero, List.set_cons_succ] at hK ⊢
      simp only [e6] at hK ⊢
      clear e6
      obtain ⟨_, q0, q1, q2, q3, q4, q5, q6, q7⟩ := Row.at_8 (r1.below hy z1)
      obtain ⟨_, u0, u1, u2⟩ := Row.at_3 (s1.below hy zs1)
      go_wp2_with fail
      exact hK.out _ _ (Below.refl _ _) (by exact rfl)
    case sa8 =>
      refine AddStep.go (o := ⟨some 27, _, _, _, _, _⟩) rfl rfl (fun xs y hy hV K hK => ?_)
      clear hV
      simp only [putsF, List.foldl_cons, List.foldl_nil, Act.put, List.setIfInBounds_toArray, List.set_cons_zero, List.set_cons_succ] at hK ⊢
      go_wp2_with fail
      exact hK.out _ _ (Below.refl _ _) (by exact rfl)
    case sa9 =>
      refine AddStep.go (o := ⟨some 28, _, _, _, _, _⟩) rfl rfl (fun xs y hy hV K hK => ?_)
      have e8 : xs 8 = _ := hV 8 (by kernel_rfl)
      clear hV
      simp only [putsF, List.foldl_cons, List.foldl_nil, Act.put, List.setIfInBounds_toArray, List.set_cons_zero, List.set_cons_succ] at hK ⊢
      simp only [e8] at hK ⊢
      clear e8
      obtain ⟨_, q0, q1, q2, q3, q4, q5, q6, q7⟩ := Row.at_8 (r1.below hy z1)
      obtain ⟨_, u0, u1, u2⟩ := Row.at_3 (s1.below hy zs1)
      go_wp2_with fail
      exact hK.out _ _ (Below.refl _ _) (by exact rfl)
    case sa10 =>
      refine AddStep.go (o := ⟨some 29, _, _, _, _, _⟩) rfl rfl (fun xs y hy hV K hK => ?_)
      obtain ⟨R1, e1, B1, hB1, hR1⟩ := (hV 1 (by kernel_rfl))
      have h5 := (hV 5 (by kernel_rfl))
      obtain ⟨A5, c5, e5, hr5⟩ := own_reads h5.1
      clear h5
      have e7 : xs 7 = _ := hV 7 (by kernel_rfl)
      have e9 : xs 9 = _ := hV 9 (by kernel_rfl)
      clear hV
      simp only [putsF, List.foldl_cons, List.foldl_nil, Act.put, List.setIfInBounds_toArray, List.set_cons_zero, List.set_cons_succ] at hK ⊢
      simp only [e1, e5, e7, e9] at hK ⊢
      clear e1 e5 e7 e9
      unfold rigV
      go_wp2_with (go_at_call 37; refine (HMo.out y R1 A5 c5 (hR1.more hB1) hr5).mono ?_; rintro e z ⟨rfl, hz⟩)
      exact hK.out _ _ hz (by exact rfl)
    case sa11 =>
      refine AddStep.go (o := ⟨some 18, _, _, _, _, _⟩) rfl rfl (fun xs y hy hV K hK => ?_)
      have e10 : xs 10 = _ := hV 10 (by kernel_rfl)
      clear hV
      simp only [putsF, List.foldl_cons, List.foldl_nil, Act.put, List.setIfInBounds_toArray, List.set_cons_zero, List.set_cons_succ] at hK ⊢
      simp only [e10] at hK ⊢
      clear e10
      go_wp2_with fail
      exact hK.out _ _ (Below.refl _ _) (by exact rfl)
    case sa12 =>
      refine AddStep.go (o := ⟨some 30, _, _, _, _, _⟩) rfl rfl (fun xs y hy hV K hK => ?_)
      have e11 : xs 11 = _ := hV 11 (by kernel_rfl)
      clear hV
      simp only [putsF, List.foldl_cons, List.foldl_nil, Act.put, List.setIfInBounds_toArray, List.set_cons_zero, List.set_cons_succ] at hK ⊢
      simp only [e11] at hK ⊢
      clear e11
      go_wp2_with fail
      exact hK.out _ _ (Below.refl _ _) (by exact rfl)
    case sa13 =>
      refine AddStep.go (o := ⟨some 31, _, _, _, _, _⟩) rfl rfl (fun xs y hy hV K hK => ?_)
      have e11 : xs 11 = _ := hV 11 (by kernel_rfl)
      clear hV
      simp only [putsF, List.foldl_cons, List.foldl_nil, Act.put, List.setIfInBounds_toArray, List.set_cons_zero, List.set_cons_succ] at hK ⊢
      simp only [e11] at hK ⊢
      clear e11
      go_wp2_with fail
      exact hK.out _ _ (Below.refl _ _) (by exact rfl)
    case sa14 =>
      refine AddStep.go (o := ⟨some 5, _, _, _, _, _⟩) rfl rfl (fun xs y hy hV K hK => ?_)
      have e12 : xs 12 = _ := hV 12 (by kernel_rfl)
      clear hV
      simp only [putsF, List.foldl_cons, List.foldl_nil, Act.put, List.setIfInBounds_toArray, List.set_cons_zero, List.set_cons_succ] at hK ⊢
      simp only [e12] at hK ⊢
      clear e12
      go_wp2_with fail
      exact hK.out _ _ (Below.refl _ _) (by exact rfl)
    case sa15 =>
      refine AddStep.go (o := ⟨some 6, _, _, _, _, _⟩) rfl rfl (fun xs y hy hV K hK => ?_)
      have e13 : xs 13 = _ := hV 13 (by kernel_rfl)
      clear hV
      simp only [putsF, List.foldl_cons, List.foldl_nil, Act.put, List.setIfInBounds_toArray, List.set_cons_zero, List.set_cons_succ] at hK ⊢
      simp only [e13] at hK ⊢
      clear e13
      go_wp2_with fail
      exact hK.out _ _ (Below.refl _ _) (by exact rfl)
    case sta => exact (AllSt.cons (stable_isV _) (AllSt.cons (stable_isRig r) (AllSt.cons (stable_isEmpty _ _ _) (AllSt.cons (stable_isV _) (AllSt.cons (stable_isV _) (AllSt.cons (stable_isOwn _ _ _ _ _) (AllSt.cons (stable_isV _) (AllSt.cons (stable_isV _) (AllSt.cons (stable_isV _) (AllSt.cons (stable_isV _) (AllSt.cons (stable_isV _) (AllSt.cons (stable_isV _) (AllSt.cons (stable_isV _) (AllSt.cons (stable_isV _) (AllSt.cons (stable_isV _) (AllSt.cons (stable_isV _) AllSt.nil))))))))))))))))
    case fina =>
      intro xs y hy hV
      have e0 : xs 0 = _ := hV 0 (by decide)
      obtain ⟨R1, e1, B1, hB1, hR1⟩ := (hV 1 (by decide))
      have h2 := (hV 2 (by decide))
      have e3 : xs 3 = _ := hV 3 (by decide)
      have e4 : xs 4 = _ := hV 4 (by decide)
      have h5 := (hV 5 (by decide))
      obtain ⟨A5, c5, e5, hr5⟩ := own_reads h5.1
      clear h5
      have e6 : xs 6 = _ := hV 6 (by decide)
      have e7 : xs 7 = _ := hV 7 (by decide)
      have e8 : xs 8 = _ := hV 8 (by decide)
      have e9 : xs 9 = _ := hV 9 (by decide)
      have e10 : xs 10 = _ := hV 10 (by decide)
      have e11 : xs 11 = _ := hV 11 (by decide)
      have e12 : xs 12 = _ := hV 12 (by decide)
      have e13 : xs 13 = _ := hV 13 (by decide)
      have e14 : xs 14 = _ := hV 14 (by decide)
      have e15 : xs 15 = _ := hV 15 (by decide)
      clear hV
      simp only [putsF, List.foldl_cons, List.foldl_nil, Act.put, List.setIfInBounds_toArray, List.set_cons_zero, List.set_cons_succ]
      simp only [e0, e1, e3, e4, e5, e6, e7, e8, e9, e10, e11, e12, e13, e14, e15]
      clear e0 e1 e3 e4 e5 e6 e7 e8 e9 e10 e11 e12 e13 e14 e15
      have bz := b1.trans (hy.mono b1.size)
      obtain ⟨_, q0, q1, q2, q3, q4, q5, q6, q7⟩ := Row.at_8 (r1.below hy z1)
      obtain ⟨_, u0, u1, u2⟩ := Row.at_3 (s1.below hy zs1)
      clear hr5 h2
      go_wp2_with fail
      refine (HRM.out y bz).mono ?_
      rintro e w3 ⟨rfl, hb3⟩
      have b3 := bz.trans (hb3.mono bz.size)
      go_wp2_with fail
      refine (Hfin.out _ b3).mono ?_
      rintro e w4 ⟨rfl, hb4⟩
      go_wp2_with fail
      go_ret
      exact ⟨rfl, hb4⟩
end Go.Proofs.Ytcfkcpgjnkdbkaa
