/- The walk of ForceLeast. Conditions: a rig and a loading that read as data. -/
import Derived.Test.YtcfkcpgjnkdbkaaMh
namespace Go.Proofs.Ytcfkcpgjnkdbkaa
open Go.RowKit

theorem least_in {r : RigZ} (h : rigB r = true) : (leastS r).2.1 < phZ r ∧ (leastS r).2.2 < r.feet.length ∧ (leastS r).1 = momZ r (worstZ r (leastS r).2.1 (leastS r).2.2) (leastS r).2.1 (leastS r).2.2 := by
  obtain ⟨y, l, hl, hy⟩ := wp_first h
  refine (mem_allW r (phZ r) (leastS r)).1 ?_
  rw [allW_eq]
  unfold leastS
  rw [hl, leastF_start y l _ hy]
  rcases leastF_mem l y with h1 | h1
  · rw [h1]; exact List.mem_cons_self
  · exact List.mem_cons_of_mem _ h1
theorem least_le {r : RigZ} (h : rigB r = true) (l : List Bool) (ph line : Int) (hg : (momS r l ph line).2 = 0) : (leastS r).1 ≤ (momS r l ph line).1 := by
  unfold momS at hg ⊢
  rw [if_neg (by rw [h]; simp)] at hg ⊢
  split at hg
  · rename_i hc
    rw [if_pos hc]
    have h1 := inB_iff.1 hc.2.1
    have h2 := inB_iff.1 hc.2.2
    have h3 := least_all (r := r) (rigB_parts h).2.2.2.2.2.1.2 (phZ r) (maxI, 0, 0) (ldF l) ph.toNat line.toNat (by omega) (by omega)
    rw [allW_eq] at h3
    exact h3
  · exact absurd hg (by simp)
def noLd (n : Nat) : List Bool := List.replicate n false
def oneLd (n i : Nat) : List Bool := (List.replicate n false).set i true
theorem noLd_mom (r : RigZ) (p k : Nat) : momZ r (ldF (noLd r.seats.length)) p k = momZ r (fun _ => false) p k := mom_ext p k _ fun j hj => by simp [ldF, noLd, hj]
theorem oneLd_mom (r : RigZ) (p k i : Nat) : momZ r (ldF (oneLd r.seats.length i)) p k = momZ r (fun j => decide (j = i)) p k := mom_ext p k _ fun j hj => by
  unfold ldF oneLd
  by_cases h : j = i
  · subst h; simp [hj]
  · rw [List.getElem?_set_ne (Ne.symm h)]; simp [hj, h]
/-- The seats that alone make the moment less. -/
def vLd (r : RigZ) (p k j : Nat) : List Bool := (List.range j).map fun i => decide (momZ r (fun j => decide (j = i)) p k < momZ r (fun _ => false) p k)
theorem vLd_len (r : RigZ) (p k j : Nat) : (vLd r p k j).length = j := by simp [vLd]
theorem vLd_succ (r : RigZ) (p k j : Nat) : (vLd r p k (j + 1)).map Value.bool = (vLd r p k j).map Value.bool ++ [.bool (decide (momZ r (fun i => decide (i = j)) p k < momZ r (fun _ => false) p k))] := by simp [vLd, List.range_succ]
theorem vLd_mom {r : RigZ} (h : rigB r = true) (p k : Nat) : momZ r (ldF (vLd r p k r.seats.length)) p k = momZ r (worstZ r p k) p k :=
  worst_same (rigB_parts h).2.2.2.2.2.1.2 _ fun i hi => by simp [ldF, vLd, hi]
theorem run_mkBools (n : Nat) (hn : n ≤ 100) (w : World) : (Instr.makeSlice 64 (.int .i64 (n : Int)) (.int .i64 (n : Int))).run Try.prog w = .ok (.slice (some ⟨w.heap.size, 0, none⟩) n n) (w.alloc (.cells (madeCells #[.bool false] n) 4)) := by
  obtain ⟨i0, hi, hz0, hz1, hz2⟩ := info_parts Try.info_bool
  have hb : (i0.bytes : Int) * (n : Int) ≤ 281474976710656 := by rw [hz2]; omega
  have hr := run_make (P := Try.prog) w 64 4 i0 _ Try.underlying64 hi hz0 .i64 .i64 n n (by omega) (by omega) hb (by omega)
  simp only [Int.toNat_natCast, hz1, Nat.mul_one] at hr
  exact hr
/-- What lies behind the two rows of a round. -/
theorem two_rows (wr : World) (n i : Nat) (_ : i < n) :
    Row (((wr.alloc (.cells (madeCells #[.bool false] n) 4)).alloc (.cells (madeCells #[.bool false] n) 4)).setCell ⟨wr.heap.size + 1, i, none⟩ (.bool true)) wr.heap.size 4 ((noLd n).map Value.bool) ∧
    Row (((wr.alloc (.cells (madeCells #[.bool false] n) 4)).alloc (.cells (madeCells #[.bool false] n) 4)).setCell ⟨wr.heap.size + 1, i, none⟩ (.bool true)) (wr.heap.size + 1) 4 ((oneLd n i).map Value.bool) ∧
    Below wr.heap.size wr (((wr.alloc (.cells (madeCells #[.bool false] n) 4)).alloc (.cells (madeCells #[.bool false] n) 4)).setCell ⟨wr.heap.size + 1, i, none⟩ (.bool true)) := by
  have e0 : (madeCells #[Value.bool false] n).toList = (noLd n).map Value.bool := by rw [toList_madeCells_one]; simp [noLd]
  have r1 := (Row.new wr 4 (madeCells #[.bool false] n)).alloc (.cells (madeCells #[.bool false] n) 4)
  have r2 := Row.new (wr.alloc (.cells (madeCells #[.bool false] n) 4)) 4 (madeCells #[.bool false] n)
  rw [World.size_alloc] at r2
  rw [e0] at r1 r2
  refine ⟨r1.far (show wr.heap.size ≠ wr.heap.size + 1 by omega) _, ?_, ?_⟩
  · have h := r2.set i (.bool true)
    have e1 : ((noLd n).map Value.bool).set i (.bool true) = (oneLd n i).map Value.bool := by unfold noLd oneLd; rw [List.map_set]
    rw [e1] at h
    exact h
  · exact (((Below.refl _ _).alloc (Nat.le_refl _) _).alloc (by simp) _).setCell (p := ⟨wr.heap.size + 1, i, none⟩) (by show _ ≤ wr.heap.size + 1; omega) _
set_option maxRecDepth 100000 in
set_option maxHeartbeats 4000000 in
theorem least_walk (r : RigZ) (R : RigR) (l : List Bool) (A3 : Option Addr) (c3 : Nat) (ph line : Int) (B : Nat) (w : World) (hB : B ≤ w.heap.size) (hR : RigIn w B r R) (hl : Reads w B 1 A3 l.length (l.map Value.bool)) (hln : l.length ≤ maxLen) :
    Calls Try.prog 10 #[rigV r R, loadV' A3 l.length c3 ph line] w (TrueP w) := by
  obtain ⟨i0, hi, hz0, hz1, hz2⟩ := info_parts Try.info_bool
  obtain ⟨W, hW⟩ : ∃ W, W = (w.alloc (.cells (rigCells r R).toArray 57)).alloc (.cells #[.slice A3 l.length c3, .int .i64 ph, .int .i64 line] 66) := ⟨_, rfl⟩
  have bW : Below w.heap.size w W := by subst hW; exact ((Below.refl _ _).alloc (Nat.le_refl _) _).alloc (by simp) _
  have r0 : Row W w.heap.size 57 (rigCells r R) := by subst hW; exact (Row.new w _ (rigCells r R).toArray).alloc _
  have s0 : Row W (w.heap.size + 1) 66 [.slice A3 l.length c3, .int .i64 ph, .int .i64 line] := by
    subst hW
    have h := Row.new (w.alloc (.cells (rigCells r R).toArray 57)) 66 #[.slice A3 l.length c3, .int .i64 ph, .int .i64 line]
    rw [World.size_alloc] at h
    exact h
  have z0 := r0.lt
  have zs0 := s0.lt
  have HR : Hid (∀ X, Below w.heap.size w X → B ≤ X.heap.size ∧ RigIn X B r R) := fun X hX => ⟨Nat.le_trans hB hX.size, hR.below (hX.mono hB)⟩
  have HF := Lib.hid (Far_any r R B W (HR.out W bW).1 (HR.out W bW).2)
  have HRL : Hid (∀ X, Below w.heap.size w X → Calls Try.prog 40 #[rigV r R] X (LePost X r)) := fun X hX => rLeast_any r R B X (HR.out X hX).1 (HR.out X hX).2
  have Hfin : Hid (∀ X : World, Below w.heap.size w X → Calls Try.prog 15 #[] X fun e w' => e = .returned (.bool true) ∧ Below w.heap.size w w') := fun X hX => (works_any X).mono fun _ _ h => ⟨h.1, hX.trans (h.2.mono hX.size)⟩
  have HL : Hid (∀ X, Below w.heap.size w X → Reads X B 1 A3 l.length (l.map Value.bool)) := fun X hX => hl.below (hX.mono hB)
  unfold maxLen at hln
  clear hl
  unfold rigV at HF HRL
  unfold rigV loadV'
  unfold rigCells at r0 hW
  obtain ⟨_, q0, q1, q2, q3, q4, q5, q6, q7⟩ := Row.at_8 r0
  go_enter Try.func10, Try.ntmps10
  go_wp2_with fail
  rw [← hW]
  clear hW
  refine HF.out.mono ?_
  rintro e w1 ⟨⟨fb, rfl, hfb⟩, hb1⟩
  have b1 := bW.trans (hb1.mono bW.size)
  have r1 := r0.below hb1 z0
  have s1 := s0.below hb1 zs0
  have z1 := r1.lt
  have zs1 := s1.lt
  clear q0 q1 q2 q3 q4 q5 q6 q7 r0 s0 z0 zs0 bW hb1
  obtain ⟨_, q0, q1, q2, q3, q4, q5, q6, q7⟩ := Row.at_8 r1
  obtain ⟨_, u0, u1, u2⟩ := Row.at_3 s1
  cases fb with
  | true =>
    clear hfb
    go_wp2_with fail
    refine (Hfin.out _ b1).mono ?_
    rintro e w2 ⟨rfl, hb2⟩
    go_wp2_with fail
    go_ret
    exact ⟨rfl, hb2⟩
  | false =>
    obtain ⟨h25, h12, h70⟩ := hfb rfl
    have HC : Hid (∀ X, Below w.heap.size w X → Calls Try.prog 33 #[rigV r R] X (CopyPost X r)) := fun X hX => Copy_any r R B X (HR.out X hX).1 (HR.out X hX).2 h25 h12 h70
    clear h12 h70 hfb
    unfold rigV at HC
    by_cases h30 : (30 : Int) < (l.length : Int)
    · have hd : decide ((30 : Int) < (l.length : Int)) = true := by simpa using h30
      go_wp2_with fail
      refine (Hfin.out _ b1).mono ?_
      rintro e w2 ⟨rfl, hb2⟩
      go_wp2_with fail
      go_ret
      exact ⟨rfl, hb2⟩
    have hd : decide ((30 : Int) < (l.length : Int)) = false := by simpa using h30
    go_wp2_with fail
    refine (HC.out w1 b1).mono ?_
    rintro e w2 ⟨hb2, R1, rfl, hR1⟩
    obtain ⟨Q, hQ⟩ : ∃ Q, Q = w2.alloc (.cells (rigCells r R1).toArray 57) := ⟨_, rfl⟩
    have bQ2 : Below w2.heap.size w2 Q := by subst hQ; exact (Below.refl _ _).alloc (Nat.le_refl _) _
    have qr : Row Q w2.heap.size 57 (rigCells r R1) := by subst hQ; exact Row.new w2 _ (rigCells r R1).toArray
    have bQ1 : Below w1.heap.size w1 Q := hb2.trans (bQ2.mono hb2.size)
    have bQ := b1.trans (bQ1.mono b1.size)
    have rQ := r1.below bQ1 z1
    have sQ := s1.below bQ1 zs1
    have zQ := rQ.lt
    have zsQ := sQ.lt
    have zqQ := qr.lt
    have HQ : Hid (∀ X, Below Q.heap.size Q X → w2.heap.size ≤ X.heap.size ∧ RigIn X w2.heap.size r R1) := fun X hX => ⟨Nat.le_trans bQ2.size hX.size, (hR1.below bQ2).below (hX.mono bQ2.size)⟩
    have HLe : Hid (∀ X, Below Q.heap.size Q X → Calls Try.prog 39 #[rigV r R1] X (LePost X r)) := fun X hX => Least_any r R1 w2.heap.size X (HQ.out X hX).1 (HQ.out X hX).2
    clear q0 q1 q2 q3 q4 q5 q6 q7 u0 u1 u2 hb2 hR1 bQ2 bQ1
    unfold rigV at HLe ⊢
    unfold rigCells at hQ qr
    go_upto_region 4 with (fail)
    rw [← hQ]
    clear hQ
    obtain ⟨_, q0, q1, q2, q3, q4, q5, q6, q7⟩ := Row.at_8 qr
    go_wp2_with fail
    refine (HLe.out Q (Below.refl _ _)).mono ?_
    rintro e w3 ⟨hb3, ⟨h1, rfl⟩ | ⟨h1, rfl⟩⟩
    · have b3 := bQ.trans (hb3.mono bQ.size)
      clear q0 q1 q2 q3 q4 q5 q6 q7
      obtain ⟨_, q0, q1, q2, q3, q4, q5, q6, q7⟩ := Row.at_8 (rQ.below hb3 zQ)
      go_wp2_with fail
      refine (HRL.out w3 b3).mono ?_
      rintro e w4 ⟨hb4, ⟨h2, rfl⟩ | ⟨h2, rfl⟩⟩
      · go_wp2_with fail
        refine (Hfin.out _ (b3.trans (hb4.mono b3.size))).mono ?_
        rintro e w5 ⟨rfl, hb5⟩
        go_wp2_with fail
        go_ret
        exact ⟨rfl, hb5⟩
      · rw [h1] at h2; cases h2
    · have b3 := bQ.trans (hb3.mono bQ.size)
      have q3r := qr.below hb3 zqQ
      have s3 := sQ.below hb3 zsQ
      have r3 := rQ.below hb3 zQ
      have zq3 := q3r.lt
      have zs3 := s3.lt
      have z3 := r3.lt
      clear q0 q1 q2 q3 q4 q5 q6 q7
      obtain ⟨_, q0, q1, q2, q3, q4, q5, q6, q7⟩ := Row.at_8 r3
      go_wp2_with fail
      refine (HRL.out w3 b3).mono ?_
      rintro e w4 ⟨hb4, ⟨h2, rfl⟩ | ⟨_, rfl⟩⟩
      · rw [h1] at h2; cases h2
      have b4 := b3.trans (hb4.mono b3.size)
      have bq4 := hb3.trans (hb4.mono hb3.size)
      have qr4 := q3r.below hb4 zq3
      have s4 := s3.below hb4 zs3
      have r4 := r3.below hb4 z3
      have zq4 := qr4.lt
      have zs4 := s4.lt
      have z4 := r4.lt
      have H1 := Lib.hid h1
      have hli := least_in h1
      have hle := Lib.hid (least_le h1 l ph line)
      have hvm := Lib.hid (vLd_mom h1 (leastS r).2.1 (leastS r).2.2)
      obtain ⟨⟨a, pp, kk⟩, hls⟩ : ∃ q, q = leastS r := ⟨_, rfl⟩
      rw [← hls] at hli hle hvm ⊢
      clear hls h1
      dsimp only at hli hle hvm ⊢
      obtain ⟨hpp, hkk, haw⟩ := hli
      have Haw := Lib.hid haw
      clear haw q0 q1 q2 q3 q4 q5 q6 q7 q3r s3 r3 zq3 zs3 z3 hb3 hb4
      obtain ⟨⟨n0, g0⟩, hae⟩ : ∃ q, q = momS r l ph line := ⟨_, rfl⟩
      rw [← hae] at hle
      dsimp only at hle
      have Hae := Lib.hid hae.symm
      clear hae
      have HMo : Hid (∀ X (l' : List Bool) A5 c5 (p' k' : Int), Below w4.heap.size w4 X → Reads X X.heap.size 1 A5 l'.length (l'.map Value.bool) → l'.length ≤ maxLen → Calls Try.prog 37 #[rigV r R1, .slice A5 l'.length c5, .int .i64 p', .int .i64 k'] X fun e w' => e = .returned (.tuple #[.int .i64 (momS r l' p' k').1, .int .i64 (momS r l' p' k').2]) ∧ Below X.heap.size X w') := fun X l' A5 c5 p' k' hX h1 h2 =>
        (Moment_any r R1 X.heap.size l' A5 c5 p' k' X (Nat.le_refl _) ((HQ.out X (bq4.trans (hX.mono bq4.size))).2.more (HQ.out X (bq4.trans (hX.mono bq4.size))).1) h1 h2).mono fun e w' h => h
      unfold rigV at HMo
      have hs20 := (rigB_parts H1.out).1
      go_upto_region 10 with (fail)
      refine wp_region_all 15 (w0 := w4) (ord := [0, 1, 2, 3, 4, 5, 6, 7, 8, 9, 10, 11, 12, 13, 14]) (ds := [(0, 73), (1, 74), (2, 75), (3, 76), (4, 77), (5, 78), (6, 79), (7, 80), (8, 81), (9, 82), (10, 72), (11, 83), (12, 84), (13, 14), (14, 15)]) (l := [isV ?va0, isEmpty w4.heap.size 4 1, isV ?va2, isV ?va3, isOwn w4.heap.size 4 1 l.length (l.map Value.bool), isV ?va5, isV ?va6, isV ?va7, isV ?va8, isV ?va9, isV ?va10, isV ?va11, isV ?va12, isV ?va13, isV ?va14]) (by kernel_rfl) (by kernel_rfl) (by first | rfl | kernel_rfl) (AddSteps.cons (k := 0) (k' := 1) rfl ?sa0 (AddSteps.cons (k := 1) (k' := 2) rfl ?sa1 (AddSteps.cons (k := 2) (k' := 3) rfl ?sa2 (AddSteps.cons (k := 3) (k' := 4) rfl ?sa3 (AddSteps.cons (k := 4) (k' := 5) rfl ?sa4 (AddSteps.cons (k := 5) (k' := 6) rfl ?sa5 (AddSteps.cons (k := 6) (k' := 7) rfl ?sa6 (AddSteps.cons (k := 7) (k' := 8) rfl ?sa7 (AddSteps.cons (k := 8) (k' := 9) rfl ?sa8 (AddSteps.cons (k := 9) (k' := 10) rfl ?sa9 (AddSteps.cons (k := 10) (k' := 11) rfl ?sa10 (AddSteps.cons (k := 11) (k' := 12) rfl ?sa11 (AddSteps.cons (k := 12) (k' := 13) rfl ?sa12 (AddSteps.cons (k := 13) (k' := 14) rfl ?sa13 (AddSteps.cons (k := 14) (k' := 15) rfl ?sa14 AddSteps.nil))))))))))))))) ?sta ?fina
      case sa0 =>
        refine AddStep.go (o := ⟨some 73, _, _, _, _, _⟩) rfl rfl (fun xs y hy hV K hK => ?_)
        clear hV
        simp only [putsF, List.foldl_cons, List.foldl_nil, Act.put, List.setIfInBounds_toArray, List.set_cons_zero, List.set_cons_succ] at hK ⊢
        obtain ⟨_, q0, q1, q2, q3, q4, q5, q6, q7⟩ := Row.at_8 (qr4.below hy zq4)
        obtain ⟨_, u0, u1, u2⟩ := Row.at_3 (s4.below hy zs4)
        go_wp2_with fail
        exact hK.out _ _ (Below.refl _ _) (by exact rfl)
      case sa1 =>
        refine AddStep.go (o := ⟨some 74, _, _, _, _, _⟩) rfl rfl (fun xs y hy hV K hK => ?_)
        clear hV
        simp only [putsF, List.foldl_cons, List.foldl_nil, Act.put, List.setIfInBounds_toArray, List.set_cons_zero, List.set_cons_succ] at hK ⊢
        go_wp2_with fail
        exact hK.out _ _ ((Below.refl _ _).alloc (Nat.le_refl _) _) (new_empty hy.size)
      case sa2 =>
        refine AddStep.go (o := ⟨some 75, _, _, _, _, _⟩) rfl rfl (fun xs y hy hV K hK => ?_)
        clear hV
        simp only [putsF, List.foldl_cons, List.foldl_nil, Act.put, List.setIfInBounds_toArray, List.set_cons_zero, List.set_cons_succ] at hK ⊢
        go_wp2_with fail
        exact hK.out _ _ (Below.refl _ _) (by exact rfl)
      case sa3 =>
        refine AddStep.go (o := ⟨some 76, _, _, _, _, _⟩) rfl rfl (fun xs y hy hV K hK => ?_)
        have e2 : xs 2 = _ := hV 2 (by kernel_rfl)
        clear hV
        simp only [putsF, List.foldl_cons, List.foldl_nil, Act.put, List.setIfInBounds_toArray, List.set_cons_zero, List.set_cons_succ] at hK ⊢
        simp only [e2] at hK ⊢
        clear e2
        obtain ⟨_, q0, q1, q2, q3, q4, q5, q6, q7⟩ := Row.at_8 (qr4.below hy zq4)
        obtain ⟨_, u0, u1, u2⟩ := Row.at_3 (s4.below hy zs4)
        go_wp2_with fail
        exact hK.out _ _ (Below.refl _ _) (by exact rfl)
      case sa4 =>
        refine AddStep.go (o := ⟨some 77, _, _, _, _, _⟩) rfl rfl (fun xs y hy hV K hK => ?_)
        have h1 := (hV 1 (by kernel_rfl))
        have e3 : xs 3 = _ := hV 3 (by kernel_rfl)
        clear hV
        simp only [putsF, List.foldl_cons, List.foldl_nil, Act.put, List.setIfInBounds_toArray, List.set_cons_zero, List.set_cons_succ] at hK ⊢
        simp only [e3] at hK ⊢
        clear e3
        refine wp_app0 _ (.tmp 74) (.tmp 76) 64 (by rfl) w4.heap.size 4 i0 _ 1 1 Try.underlying64 hi hz0 hz1 hz2 rfl (by decide) _ (by rfl) h1 B A3 l.length c3 (l.map Value.bool) (by rfl) (HL.out y (b4.trans (hy.mono b4.size))) bools_one (by unfold maxLen; omega) (by omega) ?_
        intro v1 z ho hb
        exact hK.out _ _ hb ⟨ho, Nat.le_trans h1.2.2 hb.size⟩
      case sa5 =>
        refine AddStep.go (o := ⟨some 78, _, _, _, _, _⟩) rfl rfl (fun xs y hy hV K hK => ?_)
        clear hV
        simp only [putsF, List.foldl_cons, List.foldl_nil, Act.put, List.setIfInBounds_toArray, List.set_cons_zero, List.set_cons_succ] at hK ⊢
        go_wp2_with fail
        exact hK.out _ _ (Below.refl _ _) (by exact rfl)
      case sa6 =>
        refine AddStep.go (o := ⟨some 79, _, _, _, _, _⟩) rfl rfl (fun xs y hy hV K hK => ?_)
        have e5 : xs 5 = _ := hV 5 (by kernel_rfl)
        clear hV
        simp only [putsF, List.foldl_cons, List.foldl_nil, Act.put, List.setIfInBounds_toArray, List.set_cons_zero, List.set_cons_succ] at hK ⊢
        simp only [e5] at hK ⊢
        clear e5
        obtain ⟨_, q0, q1, q2, q3, q4, q5, q6, q7⟩ := Row.at_8 (qr4.below hy zq4)
        obtain ⟨_, u0, u1, u2⟩ := Row.at_3 (s4.below hy zs4)
        go_wp2_with fail
        exact hK.out _ _ (Below.refl _ _) (by exact rfl)
      case sa7 =>
        refine AddStep.go (o := ⟨some 80, _, _, _, _, _⟩) rfl rfl (fun xs y hy hV K hK => ?_)
        clear hV
        simp only [putsF, List.foldl_cons, List.foldl_nil, Act.put, List.setIfInBounds_toArray, List.set_cons_zero, List.set_cons_succ] at hK ⊢
        go_wp2_with fail
        exact hK.out _ _ (Below.refl _ _) (by exact rfl)
      case sa8 =>
        refine AddStep.go (o := ⟨some 81, _, _, _, _, _⟩) rfl rfl (fun xs y hy hV K hK => ?_)
        have e7 : xs 7 = _ := hV 7 (by kernel_rfl)
        clear hV
        simp only [putsF, List.foldl_cons, List.foldl_nil, Act.put, List.setIfInBounds_toArray, List.set_cons_zero, List.set_cons_succ] at hK ⊢
        simp only [e7] at hK ⊢
        clear e7
        obtain ⟨_, q0, q1, q2, q3, q4, q5, q6, q7⟩ := Row.at_8 (qr4.below hy zq4)
        obtain ⟨_, u0, u1, u2⟩ := Row.at_3 (s4.below hy zs4)
        go_wp2_with fail
        exact hK.out _ _ (Below.refl _ _) (by exact rfl)
      case sa9 =>
        refine AddStep.go (o := ⟨some 82, _, _, _, _, _⟩) rfl rfl (fun xs y hy hV K hK => ?_)
        have e0 : xs 0 = _ := hV 0 (by kernel_rfl)
        have h4 := (hV 4 (by kernel_rfl))
        obtain ⟨A5, c5, e4, hr5⟩ := own_reads h4.1
        clear h4
        have e6 : xs 6 = _ := hV 6 (by kernel_rfl)
        have e8 : xs 8 = _ := hV 8 (by kernel_rfl)
        clear hV
        simp only [putsF, List.foldl_cons, List.foldl_nil, Act.put, List.setIfInBounds_toArray, List.set_cons_zero, List.set_cons_succ] at hK ⊢
        simp only [e0, e4, e6, e8] at hK ⊢
        clear e0 e4 e6 e8
        go_wp2_with (go_at_call 37; refine (HMo.out y l A5 c5 ph line hy hr5 (by unfold maxLen; omega)).mono ?_; rintro e z ⟨rfl, hz⟩; rw [Hae.out]; dsimp only)
        exact hK.out _ _ hz (by exact rfl)
      case sa10 =>
        refine AddStep.go (o := ⟨some 72, _, _, _, _, _⟩) rfl rfl (fun xs y hy hV K hK => ?_)
        have e9 : xs 9 = _ := hV 9 (by kernel_rfl)
        clear hV
        simp only [putsF, List.foldl_cons, List.foldl_nil, Act.put, List.setIfInBounds_toArray, List.set_cons_zero, List.set_cons_succ] at hK ⊢
        simp only [e9] at hK ⊢
        clear e9
        go_wp2_with fail
        exact hK.out _ _ (Below.refl _ _) (by exact rfl)
      case sa11 =>
        refine AddStep.go (o := ⟨some 83, _, _, _, _, _⟩) rfl rfl (fun xs y hy hV K hK => ?_)
        have e10 : xs 10 = _ := hV 10 (by kernel_rfl)
        clear hV
        simp only [putsF, List.foldl_cons, List.foldl_nil, Act.put, List.setIfInBounds_toArray, List.set_cons_zero, List.set_cons_succ] at hK ⊢
        simp only [e10] at hK ⊢
        clear e10
        go_wp2_with fail
        exact hK.out _ _ (Below.refl _ _) (by exact rfl)
      case sa12 =>
        refine AddStep.go (o := ⟨some 84, _, _, _, _, _⟩) rfl rfl (fun xs y hy hV K hK => ?_)
        have e10 : xs 10 = _ := hV 10 (by kernel_rfl)
        clear hV
        simp only [putsF, List.foldl_cons, List.foldl_nil, Act.put, List.setIfInBounds_toArray, List.set_cons_zero, List.set_cons_succ] at hK ⊢
        simp only [e10] at hK ⊢
        clear e10
        go_wp2_with fail
        exact hK.out _ _ (Below.refl _ _) (by exact rfl)
      case sa13 =>
        refine AddStep.go (o := ⟨some 14, _, _, _, _, _⟩) rfl rfl (fun xs y hy hV K hK => ?_)
        have e11 : xs 11 = _ := hV 11 (by kernel_rfl)
        clear hV
        simp only [putsF, List.foldl_cons, List.foldl_nil, Act.put, List.setIfInBounds_toArray, List.set_cons_zero, List.set_cons_succ] at hK ⊢
        simp only [e11] at hK ⊢
        clear e11
        go_wp2_with fail
        exact hK.out _ _ (Below.refl _ _) (by exact rfl)
      case sa14 =>
        refine AddStep.go (o := ⟨some 15, _, _, _, _, _⟩) rfl rfl (fun xs y hy hV K hK => ?_)
        have e12 : xs 12 = _ := hV 12 (by kernel_rfl)
        clear hV
        simp only [putsF, List.foldl_cons, List.foldl_nil, Act.put, List.setIfInBounds_toArray, List.set_cons_zero, List.set_cons_succ] at hK ⊢
        simp only [e12] at hK ⊢
        clear e12
        go_wp2_with fail
        exact hK.out _ _ (Below.refl _ _) (by exact rfl)
      case sta => exact (AllSt.cons (stable_isV _) (AllSt.cons (stable_isEmpty _ _ _) (AllSt.cons (stable_isV _) (AllSt.cons (stable_isV _) (AllSt.cons (stable_isOwn _ _ _ _ _) (AllSt.cons (stable_isV _) (AllSt.cons (stable_isV _) (AllSt.cons (stable_isV _) (AllSt.cons (stable_isV _) (AllSt.cons (stable_isV _) (AllSt.cons (stable_isV _) (AllSt.cons (stable_isV _) (AllSt.cons (stable_isV _) (AllSt.cons (stable_isV _) (AllSt.cons (stable_isV _) AllSt.nil)))))))))))))))
      case fina =>
        intro xs y hy hV
        have e0 : xs 0 = _ := hV 0 (by decide)
        have h1 := (hV 1 (by decide))
        have e2 : xs 2 = _ := hV 2 (by decide)
        have e3 : xs 3 = _ := hV 3 (by decide)
        have h4 := (hV 4 (by decide))
        obtain ⟨A5, c5, e4, hr5⟩ := own_reads h4.1
        clear h4
        have e5 : xs 5 = _ := hV 5 (by decide)
        have e6 : xs 6 = _ := hV 6 (by decide)
        have e7 : xs 7 = _ := hV 7 (by decide)
        have e8 : xs 8 = _ := hV 8 (by decide)
        have e9 : xs 9 = _ := hV 9 (by decide)
        have e10 : xs 10 = _ := hV 10 (by decide)
        have e11 : xs 11 = _ := hV 11 (by decide)
        have e12 : xs 12 = _ := hV 12 (by decide)
        have e13 : xs 13 = _ := hV 13 (by decide)
        have e14 : xs 14 = _ := hV 14 (by decide)
        clear hV
        simp only [putsF, List.foldl_cons, List.foldl_nil, Act.put, List.setIfInBounds_toArray, List.set_cons_zero, List.set_cons_succ]
        simp only [e0, e2, e3, e4, e5, e6, e7, e8, e9, e10, e11, e12, e13, e14]
        clear e0 e2 e3 e4 e5 e6 e7 e8 e9 e10 e11 e12 e13 e14
        have bz := b4.trans (hy.mono b4.size)
        have qry := qr4.below hy zq4
        have sy := s4.below hy zs4
        have ry := r4.below hy z4
        clear hr5 h1
        have bq := bq4.trans (hy.mono bq4.size)
        have HM2 : Hid (∀ X (l' : List Bool) A5 c5, Below y.heap.size y X → l'.length = r.seats.length → Reads X X.heap.size 1 A5 r.seats.length (l'.map Value.bool) → Calls Try.prog 37 #[rigV r R1, .slice A5 r.seats.length c5, .int .i64 (pp : Int), .int .i64 (kk : Int)] X fun e w' => e = .returned (.tuple #[.int .i64 (momZ r (ldF l') pp kk), .int .i64 0]) ∧ Below X.heap.size X w') := fun X l' A5 c5 hX h1 h2 => by
          have h := HMo.out X l' A5 c5 pp kk (hy.trans (hX.mono hy.size)) (by rw [h1]; exact h2) (by rw [h1]; unfold maxLen; omega)
          rw [momS_ok H1.out h1 hpp hkk, h1] at h
          exact h
        unfold rigV at HM2
        have zqy := qry.lt
        have zy := ry.lt
        clear qr4 s4 r4 zq4 zs4 z4 sy HMo
        obtain ⟨_, q0, q1, q2, q3, q4, q5, q6, q7⟩ := Row.at_8 ry
        have Hvm : Hid (momZ r (ldF (vLd r pp kk r.seats.length)) pp kk = a) := by show _ = _; rw [hvm.out, ← Haw.out]
        by_cases hg : g0 = 0
        all_goals
          first
            | (have hna := Int.not_lt.2 (hle.out hg)
               have dg : (g0 == 0) = true := by simpa using hg
               have dn : decide (n0 < a) = false := by simpa using hna
               clear hg hna)
            | (have dg : (g0 == 0) = false := by simpa using hg
               clear hg)
          go_wp2_with fail
          go_loopw [16, 17] (fun v i wr => ∃ j : Nat, j ≤ r.seats.length ∧ i = .int .i64 j ∧ Below y.heap.size y wr ∧ wr.ownsRow y.heap.size 4 1 v j ((vLd r pp kk j).map Value.bool)) (fun _ i _ => r.seats.length - (intOf i).toNat)
          case atStart => exact ⟨0, Nat.zero_le _, rfl, Below.refl _ _, World.ownsRow_nil _ _ _ _⟩
          case round =>
            clear q0 q1 q2 q3 q4 q5 q6 q7
            obtain ⟨j, hj, rfl, hbel, hown⟩ := hrel
            have hs := hbel.size
            obtain ⟨_, q0, q1, q2, q3, q4, q5, q6, q7⟩ := Row.at_8 (ry.below hbel zy)
            obtain ⟨_, d0, d1, d2, d3, d4, d5, d6, d7⟩ := Row.at_8 (qry.below hbel zqy)
            have zrw := (ry.below hbel zy).lt
            have zqw := (qry.below hbel zqy).lt
            by_cases hlt : j < r.seats.length
            · have hjl : (j : Int) < (r.seats.length : Int) := by omega
              have hj0 : (0 : Int) ≤ (j : Int) := by omega
              have e3 : IntKind.i64.wrap ((j : Int) + 1) = (j : Int) + 1 := IntWalk.i64_in _ (by omega)
              have hmk := fun X => run_mkBools r.seats.length (by omega) X
              obtain ⟨Y, hY⟩ : ∃ Y, Y = (wr.alloc (.cells (madeCells #[.bool false] r.seats.length) 4)).alloc (.cells (madeCells #[.bool false] r.seats.length) 4) := ⟨_, rfl⟩
              have rY : Row Y (wr.heap.size + 1) 4 ((noLd r.seats.length).map Value.bool) := by
                subst hY
                have h := Row.new (wr.alloc (.cells (madeCells #[.bool false] r.seats.length) 4)) 4 (madeCells #[.bool false] r.seats.length)
                rw [World.size_alloc, toList_madeCells_one] at h
                simpa [noLd] using h
              have cY : Y.cell? ⟨wr.heap.size + 1, j, none⟩ = some (.bool false) := by rw [rY.cell (by simp [noLd, hlt])]; simp [noLd, hlt]
              have fY : Y.frozen? ⟨wr.heap.size + 1, j, none⟩ = false := rY.frozen j
              obtain ⟨t1, t2, bZ⟩ := two_rows wr r.seats.length j hlt
              rw [← hY] at t1 t2 bZ
              have hnil2 : ¬ r.seats = [] := by intro e; rw [e] at hlt; simp at hlt
              obtain ⟨U, hU⟩ : ∃ U, U = momZ r (fun _ => false) pp kk := ⟨_, rfl⟩
              obtain ⟨Vv, hV⟩ : ∃ V, V = momZ r (fun i => decide (i = j)) pp kk := ⟨_, rfl⟩
              have HV1 : Hid ((vLd r pp kk (j + 1)).map Value.bool = (vLd r pp kk j).map Value.bool ++ [.bool (decide (Vv < U))]) := by show _ = _; rw [vLd_succ, ← hU, ← hV]
              have HU : Hid (momZ r (ldF (noLd r.seats.length)) pp kk = U) := by show _ = _; rw [noLd_mom, hU]
              have HV : Hid (momZ r (ldF (oneLd r.seats.length j)) pp kk = Vv) := by show _ = _; rw [oneLd_mom, hV]
              have mm3 : j + 1 ≤ maxLen := by unfold maxLen; omega
              clear hU hV rY
              go_upto_region 19 with (fail)
              rw [← hY]
              clear hY hmk
              go_upto_region 20 with (fail)
              generalize Y.setCell ⟨wr.heap.size + 1, j, none⟩ (.bool true) = Z at *
              clear cY fY q0 q1 q2 q3 q4 q5 q6 q7 d0 d1 d2 d3 d4 d5 d6 d7
              have bZy := hbel.trans (bZ.mono hbel.size)
              obtain ⟨_, d0, d1, d2, d3, d4, d5, d6, d7⟩ := Row.at_8 (qry.below bZy zqy)
              go_wp2_with fail
              refine (HM2.out Z (noLd r.seats.length) (some ⟨wr.heap.size, 0, none⟩) r.seats.length bZy (by simp [noLd]) (t1.reads (by simp [noLd]) t1.lt)).mono ?_
              rintro e z1 ⟨rfl, hz1'⟩
              rw [HU.out]
              have bz1 := bZy.trans (hz1'.mono bZy.size)
              have bw1 := bZ.trans (hz1'.mono bZ.size)
              have t2' := t2.below hz1' t2.lt
              clear d0 d1 d2 d3 d4 d5 d6 d7
              obtain ⟨_, d0, d1, d2, d3, d4, d5, d6, d7⟩ := Row.at_8 (qry.below bz1 zqy)
              go_wp2_with fail
              refine (HM2.out z1 (oneLd r.seats.length j) (some ⟨wr.heap.size + 1, 0, none⟩) r.seats.length bz1 (by simp [oneLd]) (t2'.reads (by simp [oneLd]) t2'.lt)).mono ?_
              rintro e z2 ⟨rfl, hz2'⟩
              rw [HV.out]
              have bz2 := bz1.trans (hz2'.mono bz1.size)
              have bw2 := bw1.trans (hz2'.mono bw1.size)
              have hown2 := own_below hown (bw2.alloc bw2.size (.cells #[.bool (decide (Vv < U))] 4))
              have rn := Row.new z2 4 #[.bool (decide (Vv < U))]
              have hbz : y.heap.size ≤ (z2.alloc (.cells #[.bool (decide (Vv < U))] 4)).heap.size := by rw [World.size_alloc]; have := bz2.size; omega
              clear d0 d1 d2 d3 d4 d5 d6 d7 t1 t2 t2'
              go_wp2_with (at_builtin; refine wpList_app _ rfl _ _ 64 rfl y.heap.size 4 i0 (.bool false) 1 1 Try.underlying64 hi hz0 hz1 hz2 rfl (by decide) _ j ((vLd r pp kk j).map Value.bool) rfl hown2 (z2.heap.size + 1) (some ⟨z2.heap.size, 0, none⟩) 1 1 [.bool (decide (Vv < U))] rfl (rn.reads rfl (Nat.lt_succ_self _)) (by intro u' hu'; simp at hu'; subst hu'; rfl) mm3 (by omega) hbz ?_)
              intro v5 w5 hown5 hbel5
              obtain ⟨A6, c6, rfl, _⟩ := own_reads hown5
              go_wp2_with fail
              go_roundw
              case rel => exact ⟨j + 1, by omega, by go_num, (bz2.alloc bz2.size _).trans hbel5, by rw [HV1.out]; exact hown5⟩
              case measure => simp [intOf]; omega
            · obtain rfl : j = r.seats.length := by omega
              obtain ⟨A6, c6, rfl, hrd⟩ := own_reads hown
              go_wp2_with fail
              refine (HM2.out wr (vLd r pp kk r.seats.length) A6 c6 hbel (vLd_len ..) hrd).mono ?_
              rintro e z1 ⟨rfl, hz1'⟩
              rw [Hvm.out]
              have bz1 := bz.trans ((hbel.trans (hz1'.mono hbel.size)).mono bz.size)
              go_wp2_with fail
              refine (Hfin.out _ bz1).mono ?_
              rintro e z3 ⟨rfl, hz3⟩
              go_wp2_with fail
              go_ret
              exact ⟨rfl, hz3⟩
end Go.Proofs.Ytcfkcpgjnkdbkaa
