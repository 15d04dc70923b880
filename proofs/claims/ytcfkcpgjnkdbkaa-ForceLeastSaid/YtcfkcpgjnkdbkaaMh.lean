/- Contract of the specification's Least. Conditions: a rig that reads as data. -/
import Derived.Test.YtcfkcpgjnkdbkaaMg
namespace Go.Proofs.Ytcfkcpgjnkdbkaa
open Go.RowKit

theorem wp_first {r : RigZ} (h : rigB r = true) : ∃ y l, wpL r (phZ r) = y :: l ∧ y.1 < maxI := by
  have hp := phZ_bd h
  have hf := (rigB_parts h).2.2.1.1
  cases hl : wpL r (phZ r) with
  | nil =>
    have : (momZ r (worstZ r 0 0) 0 0, 0, 0) ∈ allW r (phZ r) := (mem_allW _ _ _).2 ⟨show 0 < phZ r by omega, show 0 < r.feet.length by omega, rfl⟩
    rw [allW_eq, hl] at this
    cases this
  | cons y l =>
    refine ⟨y, l, rfl, ?_⟩
    have hy : y ∈ allW r (phZ r) := by rw [allW_eq, hl]; exact List.mem_cons_self
    have h1 := ((mem_allW _ _ _).1 hy).2.2
    have h2 := mom_bd h (worstZ r y.2.1 y.2.2) y.2.1 y.2.2 r.seats.length
    have hs := (rigB_parts h).1
    unfold momZ at h1
    rw [← h1] at h2
    unfold maxI
    omega
theorem rst_all {r : RigZ} (h : rigB r = true) : rst (wpL r (phZ r)) = ((leastS r).1, ((leastS r).2.1 : Int), ((leastS r).2.2 : Int)) := by
  obtain ⟨y, l, hl, hy⟩ := wp_first h
  unfold leastS
  rw [hl]
  exact rst_eq y l (maxI, 0, 0) hy
set_option maxRecDepth 100000 in
set_option maxHeartbeats 4000000 in
theorem rLeast_any (r : RigZ) (R : RigR) (B : Nat) (w : World) (hB : B ≤ w.heap.size) (hR : RigIn w B r R) :
    Calls Try.prog 40 #[rigV r R] w (LePost w r) := by
  obtain ⟨W, hW⟩ : ∃ W, W = w.alloc (.cells (rigCells r R).toArray 57) := ⟨_, rfl⟩
  have bW : Below w.heap.size w W := by subst hW; exact (Below.refl _ _).alloc (Nat.le_refl _) _
  have r0 : Row W w.heap.size 57 (rigCells r R) := by subst hW; exact Row.new w _ (rigCells r R).toArray
  have HR : Hid (∀ X, Below w.heap.size w X → B ≤ X.heap.size ∧ RigIn X B r R) := fun X hX => ⟨Nat.le_trans hB hX.size, hR.below (hX.mono hB)⟩
  have HC : Hid (∀ X, Below w.heap.size w X → Calls Try.prog 36 #[rigV r R] X fun e w' => e = .returned (.int .i64 (rigE r)) ∧ Below X.heap.size X w') := fun X hX => rCheckRig_any r R B X (HR.out X hX).1 (HR.out X hX).2
  have HP : Hid (∀ X, Below w.heap.size w X → Calls Try.prog 73 #[rigV r R] X fun e w' => e = .returned (.int .i64 (phZ r : Int)) ∧ Below X.heap.size X w') := fun X hX => rPhases_any r R B X (HR.out X hX).1 (HR.out X hX).2
  have z0 := r0.lt
  cases h1 : rigB r with
  | false =>
    have HN : Hid (rigE r = 33) := by show _ = _; unfold rigE; rw [h1]; rfl
    have H1 := Lib.hid h1
    clear h1
    unfold rigV at HC ⊢
    unfold rigCells at r0 hW
    obtain ⟨_, q0, q1, q2, q3, q4, q5, q6, q7⟩ := Row.at_8 r0
    go_enter Try.func40, Try.ntmps40
    go_wp2_with fail
    rw [← hW]
    clear hW
    refine (HC.out W bW).mono ?_
    rintro e w1 ⟨rfl, hb1⟩
    rw [HN.out]
    go_wp2_with fail
    refine bodyPost_ret (v := .tuple #[.int .i64 0, .int .i64 0, .int .i64 0, .int .i64 33]) (by simp [results, Try.results40, go_sem]) rfl ?_
    exact ⟨bW.trans (hb1.mono bW.size), .inl ⟨H1.out, rfl⟩⟩
  | true =>
    have HN : Hid (rigE r = 0) := by show _ = _; unfold rigE; rw [h1]; rfl
    have HW : Hid (∀ X p k, Below w.heap.size w X → p < phZ r → k < r.feet.length → Calls Try.prog 76 #[rigV r R, .int .i64 (p : Int), .int .i64 (k : Int)] X (WoPost X r p k)) := fun X p k hX hp hk => rworst_any r R B p k X (HR.out X hX).1 (HR.out X hX).2 h1 hk hp
    have HMo : Hid (∀ X p k A4 c4 B4, Below w.heap.size w X → p < phZ r → k < r.feet.length → B4 ≤ X.heap.size → Reads X B4 1 A4 r.seats.length ((wLd r p k r.seats.length).map Value.bool) → Calls Try.prog 74 #[rigV r R, .slice A4 r.seats.length c4, .int .i64 (p : Int), .int .i64 (k : Int)] X fun e w' => e = .returned (.int .i64 (momZ r (worstZ r p k) p k)) ∧ Below X.heap.size X w') := fun X p k A4 c4 B4 hX hp hk h4 hr4 => by
      have hr4' := hr4.more h4
      have h := rmoment_any r R X.heap.size p k (wLd r p k r.seats.length) A4 c4 X (Nat.le_refl _) ((HR.out X hX).2.more (HR.out X hX).1) (by rw [wLd_len]; exact hr4') (wLd_len ..) h1 hk hp
      rw [wLd_len, wLd_mom] at h
      exact h
    have HE := Lib.hid (rst_all h1)
    have H1 := Lib.hid h1
    have hpb := phZ_bd h1
    have hf8 : 3 ≤ r.feet.length ∧ r.feet.length ≤ 8 := ⟨(rigB_parts h1).2.2.1.1, (rigB_parts h1).2.2.1.2.1⟩
    clear h1
    obtain ⟨N, hN⟩ : ∃ N, N = phZ r := ⟨_, rfl⟩
    rw [← hN] at HE hpb HP HW HMo
    clear hN
    unfold rigV at HC HP HW HMo ⊢
    unfold rigCells at r0 hW
    obtain ⟨_, q0, q1, q2, q3, q4, q5, q6, q7⟩ := Row.at_8 r0
    go_enter Try.func40, Try.ntmps40
    go_wp2_with fail
    rw [← hW]
    clear hW
    refine (HC.out W bW).mono ?_
    rintro e w1 ⟨rfl, hb1⟩
    rw [HN.out]
    have b1 := bW.trans (hb1.mono bW.size)
    have r1 := r0.below hb1 z0
    clear q0 q1 q2 q3 q4 q5 q6 q7 r0 z0 bW hb1
    go_wp2_with fail
    go_loopw [7, 8, 9, 10] (fun m a b i wr => ∃ P : Nat, P ≤ N ∧ i = .int .i64 P ∧ m = .int .i64 (rst (wpL r P)).1 ∧ a = .int .i64 (rst (wpL r P)).2.1 ∧ b = .int .i64 (rst (wpL r P)).2.2 ∧ Below w.heap.size w wr ∧ Row wr w.heap.size 57 (rigCells r R)) (fun _ _ _ i _ => N - (intOf i).toNat)
    case atStart => exact ⟨0, Nat.zero_le _, rfl, rfl, rfl, rfl, b1, r1⟩
    case round =>
      clear b1 r1
      obtain ⟨P, hP, rfl, rfl, rfl, rfl, hbel, rj⟩ := hrel
      have HL : Hid (wpL r (P + 1) = wpL r P ++ wlL r P r.feet.length) := wpL_succ r P
      have HL0 : Hid (wpL r P ++ wlL r P 0 = wpL r P) := by show _ = _; simp [wlL]
      unfold rigCells at rj
      have zj := rj.lt
      obtain ⟨_, q0, q1, q2, q3, q4, q5, q6, q7⟩ := Row.at_8 rj
      have hs := hbel.size
      rw [← HL0.out]
      by_cases hlt : P < N
      · have e3 : IntKind.i64.wrap ((P : Int) + 1) = (P : Int) + 1 := IntWalk.i64_in _ (by omega)
        have hPl : (P : Int) < (N : Int) := by omega
        obtain ⟨st, hst⟩ : ∃ st, st = rst (wpL r P ++ wlL r P 0) := ⟨_, rfl⟩
        rw [← hst]
        have Hst := Lib.hid hst
        clear hst
        go_wp2_with fail
        refine (HP.out _ hbel).mono ?_
        rintro e w2 ⟨rfl, hb2⟩
        have b2 := hbel.trans (hb2.mono hs)
        have r2 := rj.below hb2 zj
        clear q0 q1 q2 q3 q4 q5 q6 q7 rj zj hbel hb2 hs
        go_wp2_with fail
        rw [Hst.out]
        go_loopw [7, 8, 9, 11] (fun m a b i wr => ∃ k : Nat, k ≤ r.feet.length ∧ i = .int .i64 k ∧ m = .int .i64 (rst (wpL r P ++ wlL r P k)).1 ∧ a = .int .i64 (rst (wpL r P ++ wlL r P k)).2.1 ∧ b = .int .i64 (rst (wpL r P ++ wlL r P k)).2.2 ∧ Below w.heap.size w wr ∧ Row wr w.heap.size 57 (rigCells r R)) (fun _ _ _ i _ => r.feet.length - (intOf i).toNat)
        case atStart => exact ⟨0, Nat.zero_le _, rfl, rfl, rfl, rfl, b2, r2⟩
        case round =>
          clear b2 r2
          obtain ⟨k, hk, rfl, rfl, rfl, rfl, hbel, rj⟩ := hrel
          have Hrj := Lib.hid rj
          unfold rigCells at rj
          have zj := rj.lt
          obtain ⟨_, q0, q1, q2, q3, q4, q5, q6, q7⟩ := Row.at_8 rj
          by_cases hlk : k < r.feet.length
          · have e5 : IntKind.i64.wrap ((k : Int) + 1) = (k : Int) + 1 := IntWalk.i64_in _ (by omega)
            have hkl : (k : Int) < (r.feet.length : Int) := by omega
            obtain ⟨x, hx⟩ : ∃ x, x = momZ r (worstZ r P k) P k := ⟨_, rfl⟩
            obtain ⟨⟨s1, s2, s3⟩, hst2⟩ : ∃ st, st = rst (wpL r P ++ wlL r P k) := ⟨_, rfl⟩
            have HS : Hid (rst (wpL r P ++ wlL r P (k + 1)) = if s2 < 0 ∨ x < s1 then (x, (P : Int), (k : Int)) else (s1, s2, s3)) := by
              show _ = _
              rw [wlL_succ, ← List.append_assoc, rst_snoc, ← hst2, ← hx]
            have HX := Lib.hid hx
            rw [← hst2]
            clear hst2 hx
            dsimp only
            go_upto_region 11 with (fail)
            refine wp_region_all 9 (w0 := wr) (ord := [0, 1, 2, 3, 4, 5, 6, 7, 8]) (ds := [(0, 31), (1, 32), (2, 33), (3, 34), (4, 35), (5, 36), (6, 37), (7, 38), (8, 12)]) (l := [isV ?va0, isV ?va1, isV ?va2, isV ?va3, isReads 1 r.seats.length ((wLd r P k r.seats.length).map Value.bool), isV ?va5, isV ?va6, isV ?va7, isV ?va8]) (by kernel_rfl) (by kernel_rfl) (by first | rfl | kernel_rfl) (AddSteps.cons (k := 0) (k' := 1) rfl ?sa0 (AddSteps.cons (k := 1) (k' := 2) rfl ?sa1 (AddSteps.cons (k := 2) (k' := 3) rfl ?sa2 (AddSteps.cons (k := 3) (k' := 4) rfl ?sa3 (AddSteps.cons (k := 4) (k' := 5) rfl ?sa4 (AddSteps.cons (k := 5) (k' := 6) rfl ?sa5 (AddSteps.cons (k := 6) (k' := 7) rfl ?sa6 (AddSteps.cons (k := 7) (k' := 8) rfl ?sa7 (AddSteps.cons (k := 8) (k' := 9) rfl ?sa8 AddSteps.nil))))))))) ?sta ?fina
            case sa0 =>
              refine AddStep.go (o := ⟨some 31, _, _, _, _, _⟩) rfl rfl (fun xs y hy hV K hK => ?_)
              clear hV
              simp only [putsF, List.foldl_cons, List.foldl_nil, Act.put, List.setIfInBounds_toArray, List.set_cons_zero, List.set_cons_succ] at hK ⊢
              obtain ⟨_, q0, q1, q2, q3, q4, q5, q6, q7⟩ := Row.at_8 (rj.below hy zj)
              go_wp2_with fail
              exact hK.out _ _ (Below.refl _ _) (by exact rfl)
            case sa1 =>
              refine AddStep.go (o := ⟨some 32, _, _, _, _, _⟩) rfl rfl (fun xs y hy hV K hK => ?_)
              clear hV
              simp only [putsF, List.foldl_cons, List.foldl_nil, Act.put, List.setIfInBounds_toArray, List.set_cons_zero, List.set_cons_succ] at hK ⊢
              obtain ⟨_, q0, q1, q2, q3, q4, q5, q6, q7⟩ := Row.at_8 (rj.below hy zj)
              go_wp2_with fail
              exact hK.out _ _ (Below.refl _ _) (by exact rfl)
            case sa2 =>
              refine AddStep.go (o := ⟨some 33, _, _, _, _, _⟩) rfl rfl (fun xs y hy hV K hK => ?_)
              clear hV
              simp only [putsF, List.foldl_cons, List.foldl_nil, Act.put, List.setIfInBounds_toArray, List.set_cons_zero, List.set_cons_succ] at hK ⊢
              go_wp2_with fail
              exact hK.out _ _ (Below.refl _ _) (by exact rfl)
            case sa3 =>
              refine AddStep.go (o := ⟨some 34, _, _, _, _, _⟩) rfl rfl (fun xs y hy hV K hK => ?_)
              clear hV
              simp only [putsF, List.foldl_cons, List.foldl_nil, Act.put, List.setIfInBounds_toArray, List.set_cons_zero, List.set_cons_succ] at hK ⊢
              go_wp2_with fail
              exact hK.out _ _ (Below.refl _ _) (by exact rfl)
            case sa4 =>
              refine AddStep.go (o := ⟨some 35, _, _, _, _, _⟩) rfl rfl (fun xs y hy hV K hK => ?_)
              have e1 : xs 1 = _ := hV 1 (by kernel_rfl)
              have e2 : xs 2 = _ := hV 2 (by kernel_rfl)
              have e3 : xs 3 = _ := hV 3 (by kernel_rfl)
              clear hV
              simp only [putsF, List.foldl_cons, List.foldl_nil, Act.put, List.setIfInBounds_toArray, List.set_cons_zero, List.set_cons_succ] at hK ⊢
              simp only [e1, e2, e3] at hK ⊢
              clear e1 e2 e3
              go_wp2_with (go_at_call 76; refine (HW.out y P k (hbel.trans (hy.mono hbel.size)) hlt hlk).mono ?_; rintro e z ⟨hz, A4, c4, rfl, hr4⟩)
              exact hK.out _ _ hz ⟨A4, c4, _, rfl, Nat.le_refl _, hr4⟩
            case sa5 =>
              refine AddStep.go (o := ⟨some 36, _, _, _, _, _⟩) rfl rfl (fun xs y hy hV K hK => ?_)
              clear hV
              simp only [putsF, List.foldl_cons, List.foldl_nil, Act.put, List.setIfInBounds_toArray, List.set_cons_zero, List.set_cons_succ] at hK ⊢
              go_wp2_with fail
              exact hK.out _ _ (Below.refl _ _) (by exact rfl)
            case sa6 =>
              refine AddStep.go (o := ⟨some 37, _, _, _, _, _⟩) rfl rfl (fun xs y hy hV K hK => ?_)
              clear hV
              simp only [putsF, List.foldl_cons, List.foldl_nil, Act.put, List.setIfInBounds_toArray, List.set_cons_zero, List.set_cons_succ] at hK ⊢
              go_wp2_with fail
              exact hK.out _ _ (Below.refl _ _) (by exact rfl)
            case sa7 =>
              refine AddStep.go (o := ⟨some 38, _, _, _, _, _⟩) rfl rfl (fun xs y hy hV K hK => ?_)
              have e0 : xs 0 = _ := hV 0 (by kernel_rfl)
              obtain ⟨A4, c4, B4, e4, hB4, hr4⟩ := (hV 4 (by kernel_rfl))
              have e5 : xs 5 = _ := hV 5 (by kernel_rfl)
              have e6 : xs 6 = _ := hV 6 (by kernel_rfl)
              clear hV
              simp only [putsF, List.foldl_cons, List.foldl_nil, Act.put, List.setIfInBounds_toArray, List.set_cons_zero, List.set_cons_succ] at hK ⊢
              simp only [e0, e4, e5, e6] at hK ⊢
              clear e0 e4 e5 e6
              go_wp2_with (go_at_call 74; refine (HMo.out y P k A4 c4 B4 (hbel.trans (hy.mono hbel.size)) hlt hlk hB4 hr4).mono ?_; rintro e z ⟨rfl, hz⟩)
              exact hK.out _ _ hz (by exact rfl)
            case sa8 =>
              refine AddStep.go (o := ⟨some 12, _, _, _, _, _⟩) rfl rfl (fun xs y hy hV K hK => ?_)
              have e7 : xs 7 = _ := hV 7 (by kernel_rfl)
              clear hV
              simp only [putsF, List.foldl_cons, List.foldl_nil, Act.put, List.setIfInBounds_toArray, List.set_cons_zero, List.set_cons_succ] at hK ⊢
              simp only [e7] at hK ⊢
              clear e7
              go_wp2_with fail
              exact hK.out _ _ (Below.refl _ _) (by exact rfl)
            case sta => exact (AllSt.cons (stable_isV _) (AllSt.cons (stable_isV _) (AllSt.cons (stable_isV _) (AllSt.cons (stable_isV _) (AllSt.cons (stable_isReads _ _ _) (AllSt.cons (stable_isV _) (AllSt.cons (stable_isV _) (AllSt.cons (stable_isV _) (AllSt.cons (stable_isV _) AllSt.nil)))))))))
            case fina =>
              intro xs y hy hV
              have e0 : xs 0 = _ := hV 0 (by decide)
              have e1 : xs 1 = _ := hV 1 (by decide)
              have e2 : xs 2 = _ := hV 2 (by decide)
              have e3 : xs 3 = _ := hV 3 (by decide)
              obtain ⟨A4, c4, B4, e4, hB4, hr4⟩ := (hV 4 (by decide))
              have e5 : xs 5 = _ := hV 5 (by decide)
              have e6 : xs 6 = _ := hV 6 (by decide)
              have e7 : xs 7 = _ := hV 7 (by decide)
              have e8 : xs 8 = _ := hV 8 (by decide)
              clear hV
              simp only [putsF, List.foldl_cons, List.foldl_nil, Act.put, List.setIfInBounds_toArray, List.set_cons_zero, List.set_cons_succ]
              simp only [e0, e1, e2, e3, e4, e5, e6, e7, e8]
              clear e0 e1 e2 e3 e4 e5 e6 e7 e8

              have b3 := hbel.trans (hy.mono hbel.size)
              have r3 := Row.below Hrj.out hy zj
              rw [← HX.out]
              by_cases c1 : s2 < 0
              · have d1 : decide (s2 < 0) = true := by simpa using c1
                go_wp2_with fail
                go_roundw
                case rel => exact ⟨k + 1, by omega, by go_num, by rw [HS.out, if_pos (.inl c1)], by rw [HS.out, if_pos (.inl c1)], by rw [HS.out, if_pos (.inl c1)], b3, r3⟩
                case measure => simp [intOf]; omega
              · have d1 : decide (s2 < 0) = false := by simpa using c1
                by_cases c2 : x < s1
                · have d2 : decide (x < s1) = true := by simpa using c2
                  go_wp2_with fail
                  go_roundw
                  case rel => exact ⟨k + 1, by omega, by go_num, by rw [HS.out, if_pos (.inr c2)], by rw [HS.out, if_pos (.inr c2)], by rw [HS.out, if_pos (.inr c2)], b3, r3⟩
                  case measure => simp [intOf]; omega
                · have d2 : decide (x < s1) = false := by simpa using c2
                  go_wp2_with fail
                  go_roundw
                  case rel => exact ⟨k + 1, by omega, by go_num, by rw [HS.out, if_neg (by omega)], by rw [HS.out, if_neg (by omega)], by rw [HS.out, if_neg (by omega)], b3, r3⟩
                  case measure => simp [intOf]; omega
          · obtain rfl : k = r.feet.length := by omega
            go_wp2_with fail
            go_roundw
            case rel => exact ⟨P + 1, by omega, by go_num, by rw [HL.out], by rw [HL.out], by rw [HL.out], hbel, Hrj.out⟩
            case measure => simp [intOf]; omega
      · obtain rfl : P = N := by omega
        rw [HL0.out, HE.out]
        go_wp2_with fail
        refine (HP.out _ hbel).mono ?_
        rintro e w2 ⟨rfl, hb2⟩
        go_wp2_with fail
        refine bodyPost_ret (v := .tuple #[.int .i64 (leastS r).1, .int .i64 ((leastS r).2.1 : Int), .int .i64 ((leastS r).2.2 : Int), .int .i64 0]) (by simp [results, Try.results40, go_sem]) rfl ?_
        exact ⟨hbel.trans (hb2.mono hs), .inr ⟨H1.out, rfl⟩⟩
end Go.Proofs.Ytcfkcpgjnkdbkaa
