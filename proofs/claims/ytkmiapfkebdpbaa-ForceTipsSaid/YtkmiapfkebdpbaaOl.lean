/- ForceTips: the walk. Conditions: a rig that reads as data. -/
import Derived.Test.YtkmiapfkebdpbaaOj
import Derived.Test.YtkmiapfkebdpbaaOf
/- Contract of the specification's Tips, and why it answers as the program does. Conditions: a rig that reads as data. -/
namespace Go.Proofs.Ytkmiapfkebdpbaa
open Go.RowKit

theorem fewR_nil (rd : List Int) (s : Int) (m : Nat) : fewR rd s [] (m : Int) = refSel rd s m := by
  unfold fewR
  rw [if_neg (by omega)]
  have e : selS rd [] = 0 := by cases rd <;> rfl
  rw [e, Int.add_zero, Int.toNat_natCast]
  simp
theorem fewR_below (rd : List Int) (s : Int) (m : Nat) : (fewR rd s [] (m : Int)).isSome = belowZ s (minSel rd m) := by rw [fewR_nil, refSel_some]
theorem few_first {rd : List Int} {s : Int} {m : Nat} (hm : m ≤ rd.length) (hno : ∀ j, j < m → belowZ s (minSel rd j) = false) (hy : belowZ s (minSel rd m) = true) : FewN rd s m :=
  ⟨hm, fun i hi => by
    have h := hno i hi
    rw [below_lsum s rd (by omega)] at h
    simpa using h, fun _ => by
    rw [below_lsum s rd hm] at hy
    simpa using hy⟩
theorem few_one {rd : List Int} {s : Int} {n m : Nat} (h : FewN rd s n) (h' : FewN rd s m) : n = m := by
  obtain ⟨h1, h2, h3⟩ := h
  obtain ⟨k1, k2, k3⟩ := h'
  rcases Nat.lt_trichotomy n m with hlt | rfl | hlt
  · have := k2 n hlt
    have := h3 (by omega)
    omega
  · rfl
  · have := h2 m hlt
    have := k3 (by omega)
    omega
theorem first_one {r : RigZ} {x y : Int × Nat × Nat} (h : FirstW r x) (h' : FirstW r y) : x = y := by
  obtain ⟨p, h1, h2, h3⟩ := h
  obtain ⟨q, k1, k2, k3⟩ := h'
  rcases List.prefix_or_prefix_of_prefix h3 k3 with hp | hp
  · have hl := hp.length_le
    simp only [List.length_append, List.length_singleton] at hl
    rcases Nat.lt_or_ge p.length q.length with hlt | hge
    · have hq : p ++ [x] <+: q := List.prefix_of_prefix_length_le hp (List.prefix_append q [y]) (by simp; omega)
      have := k1 x (hq.subset (by simp))
      omega
    · have he := List.IsPrefix.eq_of_length hp (by simp; omega)
      have := congrArg List.getLast? he
      simpa using this
  · have hl := hp.length_le
    simp only [List.length_append, List.length_singleton] at hl
    rcases Nat.lt_or_ge q.length p.length with hlt | hge
    · have hq : q ++ [y] <+: p := List.prefix_of_prefix_length_le hp (List.prefix_append p [x]) (by simp; omega)
      have := h1 y (hq.subset (by simp))
      omega
    · have he := List.IsPrefix.eq_of_length hp (by simp; omega)
      have := congrArg List.getLast? he
      simp at this
      exact this.symm
/-- The loading of fewest full seats, as a slice reads. -/
def LdR (r : RigZ) (p k : Nat) (u : Value) (y : World) : Prop := ∃ (n : Nat) (A : Option Addr) (c B : Nat), FewN (ridersZ r p k) (momZ r (fun _ => false) p k) n ∧ u = .slice A r.seats.length c ∧ B ≤ y.heap.size ∧ Reads y B 1 A r.seats.length ((progSel (ridersZ r p k) (momZ r (fun _ => false) p k) n).map Value.bool)
def TrPost (w : World) (r : RigZ) (e : Ending) (w' : World) : Prop :=
  Below w.heap.size w w' ∧ ((rigB r = false ∧ e = .returned (.tuple #[.slice none 0 0, .int .i64 0, .int .i64 0, .bool false, .int .i64 33])) ∨
    (rigB r = true ∧ NoLow (wpL r (phZ r)) ∧ e = .returned (.tuple #[.slice none 0 0, .int .i64 0, .int .i64 0, .bool false, .int .i64 0])) ∨
    (rigB r = true ∧ ∃ x v, FirstW r x ∧ LdR r x.2.1 x.2.2 v w' ∧ e = .returned (.tuple #[v, .int .i64 (x.2.1 : Int), .int .i64 (x.2.2 : Int), .bool true, .int .i64 0])))
theorem nolow_snoc {l : List (Int × Nat × Nat)} {x : Int × Nat × Nat} (h : NoLow l) (hx : 0 ≤ x.1) : NoLow (l ++ [x]) := fun y hy => by
  rcases List.mem_append.1 hy with hy | hy
  · exact h y hy
  · obtain rfl : y = x := by simpa using hy
    exact hx
set_option maxRecDepth 100000 in
set_option maxHeartbeats 4000000 in
theorem rTips_any (r : RigZ) (R : RigR) (B : Nat) (w : World) (hB : B ≤ w.heap.size) (hR : RigIn w B r R) :
    Calls Try.prog 42 #[rigV r R] w (TrPost w r) := by
  obtain ⟨W, hW⟩ : ∃ W, W = w.alloc (.cells (rigCells r R).toArray 57) := ⟨_, rfl⟩
  have bW : Below w.heap.size w W := by subst hW; exact (Below.refl _ _).alloc (Nat.le_refl _) _
  have r0 : Row W w.heap.size 57 (rigCells r R) := by subst hW; exact Row.new w _ (rigCells r R).toArray
  have HR : Hid (∀ X, Below w.heap.size w X → B ≤ X.heap.size ∧ RigIn X B r R) := fun X hX => ⟨Nat.le_trans hB hX.size, hR.below (hX.mono hB)⟩
  have HC : Hid (∀ X, Below w.heap.size w X → Calls Try.prog 36 #[rigV r R] X fun e w' => e = .returned (.int .i64 (rigE r)) ∧ Below X.heap.size X w') := fun X hX => rCheckRig_any r R B X (HR.out X hX).1 (HR.out X hX).2
  have HP : Hid (∀ X, Below w.heap.size w X → Calls Try.prog 73 #[rigV r R] X fun e w' => e = .returned (.int .i64 (phZ r : Int)) ∧ Below X.heap.size X w') := fun X hX => rPhases_any r R B X (HR.out X hX).1 (HR.out X hX).2
  have z0 := r0.lt
  cases h1 : rigB r with
  | false =>
    have HN : Hid (rigE r = 33) := by show _ = _; unfold rigE; rw [h1]; rfl
    have H1 := Lib.hid h1
    clear h1
    unfold rigV at HC ⊢
    unfold rigCells at r0 hW
    obtain ⟨_, q0, q1, q2, q3, q4, q5, q6, q7⟩ := Row.at_8 r0
    go_enter Try.func42, Try.ntmps42
    go_wp2_with fail
    rw [← hW]
    clear hW
    refine (HC.out W bW).mono ?_
    rintro e w1 ⟨rfl, hb1⟩
    rw [HN.out]
    go_wp2_with fail
    refine bodyPost_ret (v := .tuple #[.slice none 0 0, .int .i64 0, .int .i64 0, .bool false, .int .i64 33]) (by simp [results, Try.results42, go_sem]) rfl ?_
    exact ⟨bW.trans (hb1.mono bW.size), .inl ⟨H1.out, rfl⟩⟩
  | true =>
    have HN : Hid (rigE r = 0) := by show _ = _; unfold rigE; rw [h1]; rfl
    have HW : Hid (∀ X p k, Below w.heap.size w X → p < phZ r → k < r.feet.length → Calls Try.prog 76 #[rigV r R, .int .i64 (p : Int), .int .i64 (k : Int)] X (WoPost X r p k)) := fun X p k hX hp hk => rworst_any r R B p k X (HR.out X hX).1 (HR.out X hX).2 h1 hk hp
    have HMo : Hid (∀ X p k A4 c4 B4, Below w.heap.size w X → p < phZ r → k < r.feet.length → B4 ≤ X.heap.size → Reads X B4 1 A4 r.seats.length ((wLd r p k r.seats.length).map Value.bool) → Calls Try.prog 74 #[rigV r R, .slice A4 r.seats.length c4, .int .i64 (p : Int), .int .i64 (k : Int)] X fun e w' => e = .returned (.int .i64 (momZ r (worstZ r p k) p k)) ∧ Below X.heap.size X w') := fun X p k A4 c4 B4 hX hp hk h4 hr4 => by
      have hr4' := hr4.more h4
      have h := rmoment_any r R X.heap.size p k (wLd r p k r.seats.length) A4 c4 X (Nat.le_refl _) ((HR.out X hX).2.more (HR.out X hX).1) (by rw [wLd_len]; exact hr4') (wLd_len ..) h1 hk hp
      rw [wLd_len, wLd_mom] at h
      exact h
    have hs20 := (rigB_parts h1).1
    have HFw : Hid (∀ X p k (m : Nat), Below w.heap.size w X → p < phZ r → k < r.feet.length → m ≤ 100 → Calls Try.prog 78 #[rigV r R, .slice none 0 0, .int .i64 (m : Int), .int .i64 (p : Int), .int .i64 (k : Int)] X (FwPost X r p k [] (m : Int))) := fun X p k m hX hp hk hm =>
      rfewest_any r R B p k h1 hk hp r.seats.length [] (m : Int) none 0 0 X (by simp) (by omega) (by omega) (HR.out X hX).1 (HR.out X hX).2 (Nat.zero_le _) Reads.none_
    have H1 := Lib.hid h1
    have hpb := phZ_bd h1
    have hf8 : 3 ≤ r.feet.length ∧ r.feet.length ≤ 8 := ⟨(rigB_parts h1).2.2.1.1, (rigB_parts h1).2.2.1.2.1⟩
    clear h1
    unfold TrPost
    have HFi : Hid (∀ P k x, P < phZ r → k < r.feet.length → x = momZ r (worstZ r P k) P k → x < 0 → NoLow (wpL r P ++ wlL r P k) → FirstW r (x, P, k)) := fun P k x hP hk hx h0 hno => ⟨_, hno, h0, by rw [hx]; exact w_pre1 hP hk⟩
    obtain ⟨NN, hNN⟩ : ∃ N, N = phZ r := ⟨_, rfl⟩
    rw [← hNN] at HFi hpb HP HW HMo HFw ⊢
    clear hNN
    unfold rigV at HC HP HW HMo HFw ⊢
    unfold rigCells at r0 hW
    obtain ⟨_, q0, q1, q2, q3, q4, q5, q6, q7⟩ := Row.at_8 r0
    go_enter Try.func42, Try.ntmps42
    go_wp2_with fail
    rw [← hW]
    clear hW
    refine (HC.out W bW).mono ?_
    rintro e w1 ⟨rfl, hb1⟩
    rw [HN.out]
    have b1 := bW.trans (hb1.mono bW.size)
    have r1 := r0.below hb1 z0
    clear q0 q1 q2 q3 q4 q5 q6 q7 r0 z0 bW hb1
    go_wp2_with fail
    go_loopw [8] (fun i wr => ∃ P : Nat, P ≤ NN ∧ i = .int .i64 P ∧ Hid (NoLow (wpL r P)) ∧ Below w.heap.size w wr ∧ Row wr w.heap.size 57 (rigCells r R)) (fun i _ => NN - (intOf i).toNat)
    case atStart => exact ⟨0, Nat.zero_le _, rfl, Lib.hid (show NoLow (wpL r 0) from fun y hy => by simp [wpL] at hy), b1, r1⟩
    case round =>
      clear b1 r1
      obtain ⟨P, hP, rfl, Hno, hbel, rj⟩ := hrel
      have HL : Hid (wpL r (P + 1) = wpL r P ++ wlL r P r.feet.length) := wpL_succ r P
      have HL0 : Hid (wpL r P ++ wlL r P 0 = wpL r P) := by show _ = _; simp [wlL]
      unfold rigCells at rj
      have zj := rj.lt
      obtain ⟨_, q0, q1, q2, q3, q4, q5, q6, q7⟩ := Row.at_8 rj
      have hs := hbel.size
      by_cases hlt : P < NN
      · have e3 : IntKind.i64.wrap ((P : Int) + 1) = (P : Int) + 1 := IntWalk.i64_in _ (by omega)
        have hPl : (P : Int) < (NN : Int) := by omega
        go_wp2_with fail
        refine (HP.out _ hbel).mono ?_
        rintro e w2 ⟨rfl, hb2⟩
        have b2 := hbel.trans (hb2.mono hs)
        have r2 := rj.below hb2 zj
        clear q0 q1 q2 q3 q4 q5 q6 q7 rj zj hbel hb2 hs
        go_wp2_with fail
        go_loopw [9] (fun i wr => ∃ k : Nat, k ≤ r.feet.length ∧ i = .int .i64 k ∧ Hid (NoLow (wpL r P ++ wlL r P k)) ∧ Below w.heap.size w wr ∧ Row wr w.heap.size 57 (rigCells r R)) (fun i _ => r.feet.length - (intOf i).toNat)
        case atStart => exact ⟨0, Nat.zero_le _, rfl, (by show NoLow _; rw [HL0.out]; exact Hno.out), b2, r2⟩
        case round =>
          clear b2 r2
          obtain ⟨k, hk, rfl, Hnk, hbel, rj⟩ := hrel
          have Hrj := Lib.hid rj
          unfold rigCells at rj
          have zj := rj.lt
          obtain ⟨_, q0, q1, q2, q3, q4, q5, q6, q7⟩ := Row.at_8 rj
          by_cases hlk : k < r.feet.length
          · have e5 : IntKind.i64.wrap ((k : Int) + 1) = (k : Int) + 1 := IntWalk.i64_in _ (by omega)
            have hkl : (k : Int) < (r.feet.length : Int) := by omega
            obtain ⟨x, hx⟩ : ∃ x, x = momZ r (worstZ r P k) P k := ⟨_, rfl⟩
            have HS : Hid (0 ≤ x → NoLow (wpL r P ++ wlL r P (k + 1))) := fun h0 => by
              rw [wlL_succ, ← List.append_assoc]
              exact nolow_snoc Hnk.out (by rw [← hx]; exact h0)
            have HX := Lib.hid hx
            clear hx
            go_upto_region 10 with (fail)
            refine wp_region_all 9 (w0 := wr) (ord := [0, 1, 2, 3, 4, 5, 6, 7, 8]) (ds := [(0, 31), (1, 32), (2, 33), (3, 34), (4, 35), (5, 36), (6, 37), (7, 38), (8, 39)]) (l := [isV ?va0, isV ?va1, isV ?va2, isV ?va3, isReads 1 r.seats.length ((wLd r P k r.seats.length).map Value.bool), isV ?va5, isV ?va6, isV (.int .i64 x), isV ?va8]) (by kernel_rfl) (by kernel_rfl) (by first | rfl | kernel_rfl) (AddSteps.cons (k := 0) (k' := 1) rfl ?sa0 (AddSteps.cons (k := 1) (k' := 2) rfl ?sa1 (AddSteps.cons (k := 2) (k' := 3) rfl ?sa2 (AddSteps.cons (k := 3) (k' := 4) rfl ?sa3 (AddSteps.cons (k := 4) (k' := 5) rfl ?sa4 (AddSteps.cons (k := 5) (k' := 6) rfl ?sa5 (AddSteps.cons (k := 6) (k' := 7) rfl ?sa6 (AddSteps.cons (k := 7) (k' := 8) rfl ?sa7 (AddSteps.cons (k := 8) (k' := 9) rfl ?sa8 AddSteps.nil))))))))) ?sta ?fina
            case sa0 =>
              refine AddStep.go (o := ⟨some 31, _, _, _, _, _⟩) rfl rfl (fun xs y hy hV K hK => ?_)
              clear hV
              simp only [putsF, List.foldl_cons, List.foldl_nil, Act.put, List.setIfInBounds_toArray, List.set_cons_zero, List.set_cons_succ] at hK ⊢
              obtain ⟨_, q0, q1, q2, q3, q4, q5, q6, q7⟩ := Row.at_8 (rj.below hy zj)
              go_wp2_with fail
              exact hK.out _ _ (Below.refl _ _) (by exact rfl)
            case sa1 =>
              refine AddStep.go (o := ⟨some 32, _, _, _, _, _⟩) rfl rfl (fun xs y hy hV K hK => ?_)
              clear hV
              simp only [putsF, List.foldl_cons, List.foldl_nil, Act.put, List.setIfInBounds_toArray, List.set_cons_zero, List.set_cons_succ] at hK ⊢
              obtain ⟨_, q0, q1, q2, q3, q4, q5, q6, q7⟩ := Row.at_8 (rj.below hy zj)
              go_wp2_with fail
              exact hK.out _ _ (Below.refl _ _) (by exact rfl)
            case sa2 =>
              refine AddStep.go (o := ⟨some 33, _, _, _, _, _⟩) rfl rfl (fun xs y hy hV K hK => ?_)
              clear hV
              simp only [putsF, List.foldl_cons, List.foldl_nil, Act.put, List.setIfInBounds_toArray, List.set_cons_zero, List.set_cons_succ] at hK ⊢
              go_wp2_with fail
              exact hK.out _ _ (Below.refl _ _) (by exact rfl)
            case sa3 =>
              refine AddStep.go (o := ⟨some 34, _, _, _, _, _⟩) rfl rfl (fun xs y hy hV K hK => ?_)
              clear hV
              simp only [putsF, List.foldl_cons, List.foldl_nil, Act.put, List.setIfInBounds_toArray, List.set_cons_zero, List.set_cons_succ] at hK ⊢
              go_wp2_with fail
              exact hK.out _ _ (Below.refl _ _) (by exact rfl)
            case sa4 =>
              refine AddStep.go (o := ⟨some 35, _, _, _, _, _⟩) rfl rfl (fun xs y hy hV K hK => ?_)
              have e1 : xs 1 = _ := hV 1 (by kernel_rfl)
              have e2 : xs 2 = _ := hV 2 (by kernel_rfl)
              have e3 : xs 3 = _ := hV 3 (by kernel_rfl)
              clear hV
              simp only [putsF, List.foldl_cons, List.foldl_nil, Act.put, List.setIfInBounds_toArray, List.set_cons_zero, List.set_cons_succ] at hK ⊢
              simp only [e1, e2, e3] at hK ⊢
              clear e1 e2 e3
              go_wp2_with (go_at_call 76; refine (HW.out y P k (hbel.trans (hy.mono hbel.size)) hlt hlk).mono ?_; rintro e z ⟨hz, A4, c4, rfl, hr4⟩)
              exact hK.out _ _ hz ⟨A4, c4, _, rfl, Nat.le_refl _, hr4⟩
            case sa5 =>
              refine AddStep.go (o := ⟨some 36, _, _, _, _, _⟩) rfl rfl (fun xs y hy hV K hK => ?_)
              clear hV
              simp only [putsF, List.foldl_cons, List.foldl_nil, Act.put, List.setIfInBounds_toArray, List.set_cons_zero, List.set_cons_succ] at hK ⊢
              go_wp2_with fail
              exact hK.out _ _ (Below.refl _ _) (by exact rfl)
            case sa6 =>
              refine AddStep.go (o := ⟨some 37, _, _, _, _, _⟩) rfl rfl (fun xs y hy hV K hK => ?_)
              clear hV
              simp only [putsF, List.foldl_cons, List.foldl_nil, Act.put, List.setIfInBounds_toArray, List.set_cons_zero, List.set_cons_succ] at hK ⊢
              go_wp2_with fail
              exact hK.out _ _ (Below.refl _ _) (by exact rfl)
            case sa7 =>
              refine AddStep.go (o := ⟨some 38, _, _, _, _, _⟩) rfl rfl (fun xs y hy hV K hK => ?_)
              have e0 : xs 0 = _ := hV 0 (by kernel_rfl)
              obtain ⟨A4, c4, B4, e4, hB4, hr4⟩ := (hV 4 (by kernel_rfl))
              have e5 : xs 5 = _ := hV 5 (by kernel_rfl)
              have e6 : xs 6 = _ := hV 6 (by kernel_rfl)
              clear hV
              simp only [putsF, List.foldl_cons, List.foldl_nil, Act.put, List.setIfInBounds_toArray, List.set_cons_zero, List.set_cons_succ] at hK ⊢
              simp only [e0, e4, e5, e6] at hK ⊢
              clear e0 e4 e5 e6
              go_wp2_with (go_at_call 74; refine (HMo.out y P k A4 c4 B4 (hbel.trans (hy.mono hbel.size)) hlt hlk hB4 hr4).mono ?_; rintro e z ⟨rfl, hz⟩)
              exact hK.out _ _ hz (by show _ = _; rw [HX.out])
            case sa8 =>
              refine AddStep.go (o := ⟨some 39, _, _, _, _, _⟩) rfl rfl (fun xs y hy hV K hK => ?_)
              have e7 : xs 7 = .int .i64 x := (hV 7 (by kernel_rfl))
              clear hV
              simp only [putsF, List.foldl_cons, List.foldl_nil, Act.put, List.setIfInBounds_toArray, List.set_cons_zero, List.set_cons_succ] at hK ⊢
              simp only [e7] at hK ⊢
              clear e7
              go_wp2_with fail
              exact hK.out _ _ (Below.refl _ _) (by exact rfl)
            case sta => exact (AllSt.cons (stable_isV _) (AllSt.cons (stable_isV _) (AllSt.cons (stable_isV _) (AllSt.cons (stable_isV _) (AllSt.cons (stable_isReads _ _ _) (AllSt.cons (stable_isV _) (AllSt.cons (stable_isV _) (AllSt.cons (stable_isV _) (AllSt.cons (stable_isV _) AllSt.nil)))))))))
            case fina =>
              intro xs y hy hV
              have e0 : xs 0 = _ := hV 0 (by decide)
              have e1 : xs 1 = _ := hV 1 (by decide)
              have e2 : xs 2 = _ := hV 2 (by decide)
              have e3 : xs 3 = _ := hV 3 (by decide)
              obtain ⟨A4, c4, B4, e4, hB4, hr4⟩ := (hV 4 (by decide))
              have e5 : xs 5 = _ := hV 5 (by decide)
              have e6 : xs 6 = _ := hV 6 (by decide)
              have e7 : xs 7 = .int .i64 x := (hV 7 (by decide))
              have e8 : xs 8 = _ := hV 8 (by decide)
              clear hV
              simp only [putsF, List.foldl_cons, List.foldl_nil, Act.put, List.setIfInBounds_toArray, List.set_cons_zero, List.set_cons_succ]
              simp only [e0, e1, e2, e3, e4, e5, e6, e7, e8]
              clear e0 e1 e2 e3 e4 e5 e6 e7 e8
              have b3 := hbel.trans (hy.mono hbel.size)
              have r3 := Row.below Hrj.out hy zj
              by_cases c1 : 0 ≤ x
              · have d1 : decide (0 ≤ x) = true := by simpa using c1
                clear q0 q1 q2 q3 q4 q5 q6 q7
                go_wp2_with fail
                go_roundw
                case rel => exact ⟨k + 1, by omega, by go_num, HS.out c1, b3, r3⟩
                case measure => simp [intOf]; omega
              · have hng : momZ r (worstZ r P k) P k < 0 := by rw [← HX.out]; omega
                have Hex := Lib.hid (worst_few hng)
                have Hfi := Lib.hid (HFi.out P k x hlt hlk HX.out (by omega) Hnk.out)
                have Hlen := Lib.hid (ridersZ_len r P k)
                clear hng q0 q1 q2 q3 q4 q5 q6 q7 rj zj
                obtain ⟨s, hs⟩ : ∃ s, s = momZ r (fun _ => false) P k := ⟨_, rfl⟩
                obtain ⟨rd, hrd⟩ : ∃ rd, rd = ridersZ r P k := ⟨_, rfl⟩
                rw [← hs, ← hrd] at Hex
                rw [← hrd] at Hlen
                have HFk : Hid (∀ X (m : Nat), Below w.heap.size w X → m ≤ 100 → Calls Try.prog 78 #[.agg #[.slice R.A1 r.seats.length R.c1, .slice R.A2 r.feet.length R.c2, .int .i64 r.frame, .int .i64 r.center.x, .int .i64 r.center.y, .int .i64 r.center.z, .int .i64 r.empty, .int .i64 r.full], .slice none 0 0, .int .i64 (m : Int), .int .i64 (P : Int), .int .i64 (k : Int)] X fun e w' => Below X.heap.size X w' ∧ ∃ u1, e = .returned (.tuple #[u1, .bool (fewR rd s [] (m : Int)).isSome]) ∧ RO (fewR rd s [] (m : Int)) r.seats.length u1 w') := fun X m hX hm => by
                  have h := HFw.out X P k m hX hlt hlk hm
                  unfold FwPost at h
                  rw [← hs, ← hrd] at h
                  exact h
                have HLd : Hid (∀ (m : Nat) (u : Value) (y : World), FewN rd s m → (∃ (A : Option Addr) (c B : Nat), u = .slice A r.seats.length c ∧ B ≤ y.heap.size ∧ Reads y B 1 A r.seats.length ((progSel rd s m).map Value.bool)) → LdR r P k u y) := fun m u y h1 ⟨A, c, B, h2, h3, h4⟩ => ⟨m, A, c, B, by rw [← hs, ← hrd]; exact h1, h2, h3, by rw [← hs, ← hrd]; exact h4⟩
                clear hs hrd
                have r3' := r3
                unfold rigCells at r3'
                obtain ⟨_, q0, q1, q2, q3, q4, q5, q6, q7⟩ := Row.at_8 r3'
                clear r3'
                go_upto_region 12 with (fail)
                go_wp2_with fail
                go_loopw [10] (fun i wr => ∃ m : Nat, m ≤ r.seats.length + 1 ∧ i = .int .i64 m ∧ Hid (∀ j, j < m → belowZ s (minSel rd j) = false) ∧ Below w.heap.size w wr ∧ Row wr w.heap.size 57 (rigCells r R)) (fun i _ => r.seats.length + 1 - (intOf i).toNat)
                case atStart => exact ⟨0, Nat.zero_le _, rfl, fun j hj => absurd hj (Nat.not_lt_zero _), b3, r3⟩
                case round =>
                  clear b3 r3 q0 q1 q2 q3 q4 q5 q6 q7 hbel
                  obtain ⟨m, hm, rfl, Hnm, hbel, rj⟩ := hrel
                  have Hrj := Lib.hid rj
                  unfold rigCells at rj
                  have zj := rj.lt
                  obtain ⟨_, q0, q1, q2, q3, q4, q5, q6, q7⟩ := Row.at_8 rj
                  by_cases hmn : m ≤ r.seats.length
                  · have hml : (m : Int) ≤ (r.seats.length : Int) := by omega
                    have e7 : IntKind.i64.wrap ((m : Int) + 1) = (m : Int) + 1 := IntWalk.i64_in _ (by omega)
                    have hcall := HFk.out _ m hbel (by omega)
                    obtain ⟨o, ho⟩ : ∃ o, o = fewR rd s [] (m : Int) := ⟨_, rfl⟩
                    rw [← ho] at hcall
                    have Ho := Lib.hid ho
                    clear ho
                    go_wp2_with fail
                    refine hcall.mono ?_
                    clear hcall
                    rintro e w4 ⟨hb4, u1, rfl, hro⟩
                    have b4 := hbel.trans (hb4.mono hbel.size)
                    have r4 := Row.below Hrj.out hb4 zj
                    have hy := fewR_below rd s m
                    rw [← Ho.out] at hy
                    have Hy := Lib.hid hy
                    clear hy
                    cases o with
                    | some t =>
                      go_wp2_with fail
                      refine bodyPost_ret (v := .tuple #[u1, .int .i64 (P : Int), .int .i64 (k : Int), .bool true, .int .i64 0]) (by simp [results, Try.results42, go_sem]) rfl ?_
                      have hfew := few_first (by rw [Hlen.out]; exact hmn) Hnm.out Hy.out.symm
                      have hsel : progSel rd s m = t := sel_eq rd s m t (by rw [← fewR_nil]; exact Ho.out.symm)
                      exact ⟨b4, .inr (.inr ⟨H1.out, (x, P, k), u1, Hfi.out, HLd.out m u1 _ hfew (by
                        obtain ⟨A, c, B', h1, h2, h3⟩ := hro t rfl
                        exact ⟨A, c, B', h1, h2, by rw [hsel]; exact h3⟩), rfl⟩)⟩
                    | none =>
                      go_wp2_with fail
                      go_roundw
                      case rel =>
                        refine ⟨m + 1, by omega, by go_num, Lib.hid (fun j hj => ?_), b4, r4⟩
                        rcases Nat.lt_succ_iff_lt_or_eq.1 hj with h | h
                        · exact Hnm.out j h
                        · rw [h]; exact Hy.out.symm
                      case measure => simp [intOf]; omega
                  · exfalso
                    obtain ⟨j, hj⟩ := Hex.out
                    have hj2 := below_some hj
                    rw [Hlen.out] at hj2
                    rw [Hnm.out j (by omega)] at hj
                    cases hj
          · obtain rfl : k = r.feet.length := by omega
            go_wp2_with fail
            go_roundw
            case rel => exact ⟨P + 1, by omega, by go_num, (by show NoLow _; rw [HL.out]; exact Hnk.out), hbel, Hrj.out⟩
            case measure => simp [intOf]; omega
      · obtain rfl : P = NN := by omega
        go_wp2_with fail
        refine (HP.out _ hbel).mono ?_
        rintro e w2 ⟨rfl, hb2⟩
        go_wp2_with fail
        refine bodyPost_ret (v := .tuple #[.slice none 0 0, .int .i64 0, .int .i64 0, .bool false, .int .i64 0]) (by simp [results, Try.results42, go_sem]) rfl ?_
        exact ⟨hbel.trans (hb2.mono hs), .inr (.inl ⟨H1.out, Hno.out, rfl⟩)⟩
end Go.Proofs.Ytkmiapfkebdpbaa
namespace Go.Proofs.Ytkmiapfkebdpbaa
open Go.RowKit

theorem Reads.bool_at {w : World} {B n : Nat} {A : Option Addr} {l : List Bool} (h : Reads w B 1 A n (l.map Value.bool)) {j : Nat} (hj : j < l.length) : ∃ b o, A = some ⟨b, o, none⟩ ∧ b < B ∧ w.cell? ⟨b, o + j, none⟩ = some (.bool (l.getD j false)) := by
  have hn : 0 < n := by
    have := h.1
    simp at this
    omega
  obtain ⟨b, o, h1, h2, h3⟩ := h.2 hn
  exact ⟨b, o, h1, h2, h3 j _ (by simp [hj])⟩
set_option maxHeartbeats 1000000 in
theorem sameBools_any (l : List Bool) (A A' : Option Addr) (c c' B B' : Nat) (w : World) (hB : B ≤ w.heap.size) (hB' : B' ≤ w.heap.size) (h : Reads w B 1 A l.length (l.map Value.bool)) (h' : Reads w B' 1 A' l.length (l.map Value.bool)) (hl : l.length ≤ 1000) :
    Calls Try.prog 43 #[.slice A l.length c, .slice A' l.length c'] w fun e w' => e = .returned (.bool true) ∧ Below w.heap.size w w' := by
  have H := Lib.hid (fun (X : World) (hX : Below w.heap.size w X) => h.below (hX.mono hB))
  have H' := Lib.hid (fun (X : World) (hX : Below w.heap.size w X) => h'.below (hX.mono hB'))
  clear h h'
  go_enter Try.func43, Try.ntmps43
  go_wp2_with fail
  go_loopw [5] (fun i wr => ∃ j : Nat, j ≤ l.length ∧ i = .int .i64 j ∧ Below w.heap.size w wr) (fun i _ => l.length - (intOf i).toNat)
  case atStart => exact ⟨0, Nat.zero_le _, rfl, Below.refl _ _⟩
  case round =>
    obtain ⟨j, hj, rfl, hbel⟩ := hrel
    by_cases hlt : j < l.length
    · obtain ⟨b1, o1, rfl, z1, d0⟩ := (H.out _ hbel).bool_at hlt
      obtain ⟨b2, o2, rfl, z2, d1⟩ := (H'.out _ hbel).bool_at hlt
      have z1 : b1 < wr.heap.size := by have := hbel.size; omega
      have z2 : b2 < wr.heap.size := by have := hbel.size; omega
      obtain ⟨v, hv⟩ : ∃ v, v = l.getD j false := ⟨_, rfl⟩
      rw [← hv] at d0 d1
      clear hv
      have e3 : IntKind.i64.wrap ((j : Int) + 1) = (j : Int) + 1 := IntWalk.i64_in _ (by omega)
      have hjl : (j : Int) < (l.length : Int) := by omega
      have hj0 : (0 : Int) ≤ (j : Int) := by omega
      have hnil : ¬ l = [] := by intro e; rw [e] at hlt; simp at hlt
      go_upto_region 6 with (fail)
      refine wp_region_all 9 (w0 := wr) (ord := [0, 1, 2, 3, 4, 5, 6, 7, 8]) (ds := [(0, 17), (1, 18), (2, 19), (3, 20), (4, 21), (5, 22), (6, 23), (7, 24), (8, 25)]) (l := [isV ?va0, isV ?va1, isV ?va2, isV ?va3, isV ?va4, isV ?va5, isV ?va6, isV ?va7, isV (.bool false)]) (by kernel_rfl) (by kernel_rfl) (by first | rfl | kernel_rfl) (AddSteps.cons (k := 0) (k' := 1) rfl ?sa0 (AddSteps.cons (k := 1) (k' := 2) rfl ?sa1 (AddSteps.cons (k := 2) (k' := 3) rfl ?sa2 (AddSteps.cons (k := 3) (k' := 4) rfl ?sa3 (AddSteps.cons (k := 4) (k' := 5) rfl ?sa4 (AddSteps.cons (k := 5) (k' := 6) rfl ?sa5 (AddSteps.cons (k := 6) (k' := 7) rfl ?sa6 (AddSteps.cons (k := 7) (k' := 8) rfl ?sa7 (AddSteps.cons (k := 8) (k' := 9) rfl ?sa8 AddSteps.nil))))))))) ?sta ?fina
      case sa0 =>
        refine AddStep.go (o := ⟨some 17, _, _, _, _, _⟩) rfl rfl (fun xs y hy hV K hK => ?_)
        clear hV
        simp only [putsF, List.foldl_cons, List.foldl_nil, Act.put, List.setIfInBounds_toArray, List.set_cons_zero, List.set_cons_succ] at hK ⊢
        go_wp2_with fail
        exact hK.out _ _ (Below.refl _ _) (by exact rfl)
      case sa1 =>
        refine AddStep.go (o := ⟨some 18, _, _, _, _, _⟩) rfl rfl (fun xs y hy hV K hK => ?_)
        clear hV
        simp only [putsF, List.foldl_cons, List.foldl_nil, Act.put, List.setIfInBounds_toArray, List.set_cons_zero, List.set_cons_succ] at hK ⊢
        go_wp2_with fail
        exact hK.out _ _ (Below.refl _ _) (by exact rfl)
      case sa2 =>
        refine AddStep.go (o := ⟨some 19, _, _, _, _, _⟩) rfl rfl (fun xs y hy hV K hK => ?_)
        have e0 : xs 0 = _ := hV 0 (by kernel_rfl)
        have e1 : xs 1 = _ := hV 1 (by kernel_rfl)
        clear hV
        simp only [putsF, List.foldl_cons, List.foldl_nil, Act.put, List.setIfInBounds_toArray, List.set_cons_zero, List.set_cons_succ] at hK ⊢
        simp only [e0, e1] at hK ⊢
        clear e0 e1
        go_wp2_with fail
        exact hK.out _ _ (Below.refl _ _) (by exact rfl)
      case sa3 =>
        refine AddStep.go (o := ⟨some 20, _, _, _, _, _⟩) rfl rfl (fun xs y hy hV K hK => ?_)
        have e2 : xs 2 = _ := hV 2 (by kernel_rfl)
        clear hV
        simp only [putsF, List.foldl_cons, List.foldl_nil, Act.put, List.setIfInBounds_toArray, List.set_cons_zero, List.set_cons_succ] at hK ⊢
        simp only [e2] at hK ⊢
        clear e2
        have d0 := (hy.cell (p := ⟨b1, o1 + j, none⟩) z1).trans d0
        have d1 := (hy.cell (p := ⟨b2, o2 + j, none⟩) z2).trans d1
        go_wp2_with fail
        exact hK.out _ _ (Below.refl _ _) (by exact rfl)
      case sa4 =>
        refine AddStep.go (o := ⟨some 21, _, _, _, _, _⟩) rfl rfl (fun xs y hy hV K hK => ?_)
        clear hV
        simp only [putsF, List.foldl_cons, List.foldl_nil, Act.put, List.setIfInBounds_toArray, List.set_cons_zero, List.set_cons_succ] at hK ⊢
        go_wp2_with fail
        exact hK.out _ _ (Below.refl _ _) (by exact rfl)
      case sa5 =>
        refine AddStep.go (o := ⟨some 22, _, _, _, _, _⟩) rfl rfl (fun xs y hy hV K hK => ?_)
        clear hV
        simp only [putsF, List.foldl_cons, List.foldl_nil, Act.put, List.setIfInBounds_toArray, List.set_cons_zero, List.set_cons_succ] at hK ⊢
        go_wp2_with fail
        exact hK.out _ _ (Below.refl _ _) (by exact rfl)
      case sa6 =>
        refine AddStep.go (o := ⟨some 23, _, _, _, _, _⟩) rfl rfl (fun xs y hy hV K hK => ?_)
        have e4 : xs 4 = _ := hV 4 (by kernel_rfl)
        have e5 : xs 5 = _ := hV 5 (by kernel_rfl)
        clear hV
        simp only [putsF, List.foldl_cons, List.foldl_nil, Act.put, List.setIfInBounds_toArray, List.set_cons_zero, List.set_cons_succ] at hK ⊢
        simp only [e4, e5] at hK ⊢
        clear e4 e5
        go_wp2_with fail
        exact hK.out _ _ (Below.refl _ _) (by exact rfl)
      case sa7 =>
        refine AddStep.go (o := ⟨some 24, _, _, _, _, _⟩) rfl rfl (fun xs y hy hV K hK => ?_)
        have e6 : xs 6 = _ := hV 6 (by kernel_rfl)
        clear hV
        simp only [putsF, List.foldl_cons, List.foldl_nil, Act.put, List.setIfInBounds_toArray, List.set_cons_zero, List.set_cons_succ] at hK ⊢
        simp only [e6] at hK ⊢
        clear e6
        have d0 := (hy.cell (p := ⟨b1, o1 + j, none⟩) z1).trans d0
        have d1 := (hy.cell (p := ⟨b2, o2 + j, none⟩) z2).trans d1
        go_wp2_with fail
        exact hK.out _ _ (Below.refl _ _) (by exact rfl)
      case sa8 =>
        refine AddStep.go (o := ⟨some 25, _, _, _, _, _⟩) rfl rfl (fun xs y hy hV K hK => ?_)
        have e3 : xs 3 = _ := hV 3 (by kernel_rfl)
        have e7 : xs 7 = _ := hV 7 (by kernel_rfl)
        clear hV
        simp only [putsF, List.foldl_cons, List.foldl_nil, Act.put, List.setIfInBounds_toArray, List.set_cons_zero, List.set_cons_succ] at hK ⊢
        simp only [e3, e7] at hK ⊢
        clear e3 e7
        go_wp2_with fail
        exact hK.out _ _ (Below.refl _ _) (by show _ = _; simp)
      case sta => exact (AllSt.cons (stable_isV _) (AllSt.cons (stable_isV _) (AllSt.cons (stable_isV _) (AllSt.cons (stable_isV _) (AllSt.cons (stable_isV _) (AllSt.cons (stable_isV _) (AllSt.cons (stable_isV _) (AllSt.cons (stable_isV _) (AllSt.cons (stable_isV _) AllSt.nil)))))))))
      case fina =>
        intro xs y hy hV
        have e0 : xs 0 = _ := hV 0 (by decide)
        have e1 : xs 1 = _ := hV 1 (by decide)
        have e2 : xs 2 = _ := hV 2 (by decide)
        have e3 : xs 3 = _ := hV 3 (by decide)
        have e4 : xs 4 = _ := hV 4 (by decide)
        have e5 : xs 5 = _ := hV 5 (by decide)
        have e6 : xs 6 = _ := hV 6 (by decide)
        have e7 : xs 7 = _ := hV 7 (by decide)
        have e8 : xs 8 = .bool false := (hV 8 (by decide))
        clear hV
        simp only [putsF, List.foldl_cons, List.foldl_nil, Act.put, List.setIfInBounds_toArray, List.set_cons_zero, List.set_cons_succ]
        simp only [e0, e1, e2, e3, e4, e5, e6, e7, e8]
        clear e0 e1 e2 e3 e4 e5 e6 e7 e8
        go_wp2_with fail
        go_roundw
        case rel => exact ⟨j + 1, by omega, by go_num, hbel.trans (hy.mono hbel.size)⟩
        case measure => simp [intOf]; omega
    · obtain rfl : j = l.length := by omega
      go_wp2_with fail
      go_ret
      exact ⟨rfl, hbel⟩
/-- What Tips answers. -/
def TipsR (r : RigZ) (L : List Bool) (P K : Int) (b : Bool) (er : Int) : Prop :=
  (rigB r = false ∧ L = [] ∧ P = 0 ∧ K = 0 ∧ b = false ∧ er = 33) ∨ (rigB r = true ∧ NoLow (wpL r (phZ r)) ∧ L = [] ∧ P = 0 ∧ K = 0 ∧ b = false ∧ er = 0) ∨
  (rigB r = true ∧ ∃ x n, FirstW r x ∧ FewN (ridersZ r x.2.1 x.2.2) (momZ r (fun _ => false) x.2.1 x.2.2) n ∧ L = progSel (ridersZ r x.2.1 x.2.2) (momZ r (fun _ => false) x.2.1 x.2.2) n ∧ P = (x.2.1 : Int) ∧ K = (x.2.2 : Int) ∧ b = true ∧ er = 0)
theorem first_not {r : RigZ} {x : Int × Nat × Nat} (h : FirstW r x) (hn : NoLow (wpL r (phZ r))) : False := by
  obtain ⟨pre, _, h2, h3⟩ := h
  have := hn x (h3.subset (by simp))
  omega
theorem tips_one {r : RigZ} {L L' : List Bool} {P P' K K' er er' : Int} {b b' : Bool} (h : TipsR r L P K b er) (h' : TipsR r L' P' K' b' er') : L' = L ∧ P' = P ∧ K' = K ∧ b' = b ∧ er' = er := by
  rcases h with ⟨a0, rfl, rfl, rfl, rfl, rfl⟩ | ⟨a0, a1, rfl, rfl, rfl, rfl, rfl⟩ | ⟨a0, x, n, a1, a2, rfl, rfl, rfl, rfl, rfl⟩ <;> rcases h' with ⟨b0, rfl, rfl, rfl, rfl, rfl⟩ | ⟨b0, b1, rfl, rfl, rfl, rfl, rfl⟩ | ⟨b0, y, m, b1, b2, rfl, rfl, rfl, rfl, rfl⟩
  case inr.inr.inr.inr =>
    obtain rfl := first_one a1 b1
    obtain rfl := few_one a2 b2
    exact ⟨rfl, rfl, rfl, rfl, rfl⟩
  case inr.inl.inr.inr => exact (first_not b1 a1).elim
  case inr.inr.inr.inl => exact (first_not a1 b1).elim
  all_goals first | exact ⟨rfl, rfl, rfl, rfl, rfl⟩ | (rw [a0] at b0; cases b0)
theorem progSel_lenT (l : List Int) : ∀ (S : Int) (n : Nat), (progSel l S n).length = l.length := by
  induction l with
  | nil => intro S n; rfl
  | cons x l ih =>
    intro S n
    simp only [progSel]
    split <;> simp [ih]
def TAns (w : World) (r : RigZ) (e : Ending) (w' : World) : Prop := Below w.heap.size w w' ∧ ∃ (L : List Bool) (A : Option Addr) (c : Nat) (P K : Int) (b : Bool) (er : Int), Hid (TipsR r L P K b er) ∧ e = .returned (.tuple #[.slice A L.length c, .int .i64 P, .int .i64 K, .bool b, .int .i64 er]) ∧ Reads w' w'.heap.size 1 A L.length (L.map Value.bool)
theorem ans_prog {w w' : World} {r : RigZ} {e : Ending} (h : TiPost w r e w') : TAns w r e w' := by
  obtain ⟨hb, ⟨h1, rfl⟩ | ⟨h1, h2, rfl⟩ | ⟨h1, x, v, h2, ⟨n, G, h3, rfl, _, h5⟩, rfl⟩⟩ := h
  · exact ⟨hb, [], none, 0, 0, 0, false, 33, .inl ⟨h1, rfl, rfl, rfl, rfl, rfl⟩, rfl, Reads.none_⟩
  · exact ⟨hb, [], none, 0, 0, 0, false, 0, .inr (.inl ⟨h1, h2, rfl, rfl, rfl, rfl, rfl⟩), rfl, Reads.none_⟩
  · have hl : (progSel (ridersZ r x.2.1 x.2.2) (momZ r (fun _ => false) x.2.1 x.2.2) n).length = r.seats.length := by rw [progSel_lenT, ridersZ_len]
    refine ⟨hb, _, some ⟨G, 0, none⟩, r.seats.length, _, _, true, 0, .inr (.inr ⟨h1, x, n, h2, h3, rfl, rfl, rfl, rfl, rfl⟩), by rw [hl], ?_⟩
    rw [hl]
    exact h5.reads (by simp [hl]) h5.lt
theorem ans_spec {w w' : World} {r : RigZ} {e : Ending} (h : TrPost w r e w') : TAns w r e w' := by
  obtain ⟨hb, ⟨h1, rfl⟩ | ⟨h1, h2, rfl⟩ | ⟨h1, x, v, h2, ⟨n, A, c, B, h3, rfl, h4, h5⟩, rfl⟩⟩ := h
  · exact ⟨hb, [], none, 0, 0, 0, false, 33, .inl ⟨h1, rfl, rfl, rfl, rfl, rfl⟩, rfl, Reads.none_⟩
  · exact ⟨hb, [], none, 0, 0, 0, false, 0, .inr (.inl ⟨h1, h2, rfl, rfl, rfl, rfl, rfl⟩), rfl, Reads.none_⟩
  · have hl : (progSel (ridersZ r x.2.1 x.2.2) (momZ r (fun _ => false) x.2.1 x.2.2) n).length = r.seats.length := by rw [progSel_lenT, ridersZ_len]
    refine ⟨hb, _, A, c, _, _, true, 0, .inr (.inr ⟨h1, x, n, h2, h3, rfl, rfl, rfl, rfl, rfl⟩), by rw [hl], ?_⟩
    rw [hl]
    exact h5.more h4
set_option maxRecDepth 100000 in
set_option maxHeartbeats 4000000 in
theorem tips_walk (r : RigZ) (R : RigR) (B : Nat) (w : World) (hB : B ≤ w.heap.size) (hR : RigIn w B r R) :
    Calls Try.prog 11 #[rigV r R] w (TrueP w) := by
  obtain ⟨W, hW⟩ : ∃ W, W = w.alloc (.cells (rigCells r R).toArray 57) := ⟨_, rfl⟩
  have bW : Below w.heap.size w W := by subst hW; exact (Below.refl _ _).alloc (Nat.le_refl _) _
  have r0 : Row W w.heap.size 57 (rigCells r R) := by subst hW; exact Row.new w _ (rigCells r R).toArray
  have z0 := r0.lt
  have HR : Hid (∀ X, Below w.heap.size w X → B ≤ X.heap.size ∧ RigIn X B r R) := fun X hX => ⟨Nat.le_trans hB hX.size, hR.below (hX.mono hB)⟩
  have HF := Lib.hid (Far_any r R B W (HR.out W bW).1 (HR.out W bW).2)
  have Hfin : Hid (∀ X : World, Below w.heap.size w X → Calls Try.prog 15 #[] X fun e w' => e = .returned (.bool true) ∧ Below w.heap.size w w') := fun X hX => (works_any X).mono fun _ _ h => ⟨h.1, hX.trans (h.2.mono hX.size)⟩
  have HT : Hid (∀ X R1, RigIn X X.heap.size r R1 → Calls Try.prog 41 #[rigV r R1] X (TAns X r)) := fun X R1 h => (Tips_any r R1 X.heap.size X (Nat.le_refl _) h).mono fun _ _ h => ans_prog h
  have HS : Hid (∀ X, Below w.heap.size w X → Calls Try.prog 42 #[rigV r R] X (TAns X r)) := fun X hX => (rTips_any r R B X (HR.out X hX).1 (HR.out X hX).2).mono fun _ _ h => ans_spec h
  unfold rigV at HF HT HS
  unfold rigV
  unfold rigCells at r0 hW
  obtain ⟨_, q0, q1, q2, q3, q4, q5, q6, q7⟩ := Row.at_8 r0
  go_enter Try.func11, Try.ntmps11
  go_wp2_with fail
  rw [← hW]
  clear hW
  refine HF.out.mono ?_
  rintro e w1 ⟨⟨fb, rfl, hfb⟩, hb1⟩
  have b1 := bW.trans (hb1.mono bW.size)
  have r1 := r0.below hb1 z0
  have z1 := r1.lt
  clear q0 q1 q2 q3 q4 q5 q6 q7 r0 z0 bW hb1
  obtain ⟨_, q0, q1, q2, q3, q4, q5, q6, q7⟩ := Row.at_8 r1
  cases fb with
  | true =>
    clear hfb
    go_wp2_with fail
    refine (Hfin.out _ b1).mono ?_
    rintro e w2 ⟨rfl, hb2⟩
    go_wp2_with fail
    go_ret
    exact ⟨rfl, hb2⟩
  | false =>
    obtain ⟨h25, h12, h70⟩ := hfb rfl
    have HC := Lib.hid (Copy_any r R B w1 (HR.out w1 b1).1 (HR.out w1 b1).2 h25 h12 h70)
    clear h12 h70 hfb
    unfold rigV at HC
    by_cases h10 : (10 : Int) < (r.seats.length : Int) ∧ (r.seats.length : Int) ≤ 20
    · obtain ⟨h10a, h10b⟩ := h10
      have hd1 : decide ((10 : Int) < (r.seats.length : Int)) = true := by simpa using h10a
      have hd2 : decide ((r.seats.length : Int) ≤ 20) = true := by simpa using h10b
      go_wp2_with fail
      refine (Hfin.out _ b1).mono ?_
      rintro e w2 ⟨rfl, hb2⟩
      go_wp2_with fail
      go_ret
      exact ⟨rfl, hb2⟩
    by_cases h10a : (10 : Int) < (r.seats.length : Int)
    all_goals
      first
        | (have hd1 : decide ((10 : Int) < (r.seats.length : Int)) = true := by simpa using h10a
           have h20 : ¬ (r.seats.length : Int) ≤ 20 := fun h => h10 ⟨h10a, h⟩
           have hd2 : decide ((r.seats.length : Int) ≤ 20) = false := by simpa using h20
           clear h10 h10a)
        | (have hd1 : decide ((10 : Int) < (r.seats.length : Int)) = false := by simpa using h10a
           clear h10 h10a)
      go_upto_region 3 with (fail)
      go_wp2_with fail
      refine HC.out.mono ?_
      rintro e w2 ⟨hb2, R1, rfl, hR1⟩
      have b2 := b1.trans (hb2.mono b1.size)
      have r2 := r1.below hb2 z1
      have hT1 := HT.out w2 R1 hR1
      unfold rigV
      clear q0 q1 q2 q3 q4 q5 q6 q7 r1 z1 hb2 HC b1 hR1
      go_wp2_with fail
      refine hT1.mono ?_
      clear hT1
      rintro e w3 ⟨hb3, L, A3, c3, P, K, bo, er, hans, rfl, hr3⟩
      have b3 := b2.trans (hb3.mono b2.size)
      have r3 := r2.below hb3 r2.lt
      clear r2 b2 hb3
      obtain ⟨_, q0, q1, q2, q3, q4, q5, q6, q7⟩ := Row.at_8 r3
      go_wp2_with fail
      refine (HS.out w3 b3).mono ?_
      rintro e w4 ⟨hb4, L', A4, c4, P', K', bo', er', hans', rfl, hr4⟩
      obtain ⟨rfl, rfl, rfl, rfl, rfl⟩ := tips_one hans.out hans'.out
      have b4 := b3.trans (hb4.mono b3.size)
      have hr34 := (hr3.below hb4).more hb4.size
      have hL20 : L'.length ≤ 1000 := by
        rcases hans.out with ⟨_, h, _⟩ | ⟨_, _, h, _⟩ | ⟨_, x, n, _, _, h, _⟩
        · rw [h]; simp
        · rw [h]; simp
        · rw [h, progSel_lenT, ridersZ_len]; omega
      have hcall := sameBools_any L' A3 A4 c3 c4 w4.heap.size w4.heap.size w4 (Nat.le_refl _) (Nat.le_refl _) hr34 hr4 hL20
      clear hans hans' hr3 hr4 hr34 b3 hb4 r3 q0 q1 q2 q3 q4 q5 q6 q7 hL20
      go_wp2_with fail
      refine hcall.mono ?_
      clear hcall
      rintro e w5 ⟨rfl, hb5⟩
      have b5 := b4.trans (hb5.mono b4.size)
      go_wp2_with fail
      refine (Hfin.out _ b5).mono ?_
      rintro e w6 ⟨rfl, hb6⟩
      go_wp2_with fail
      go_ret
      exact ⟨rfl, hb6⟩
end Go.Proofs.Ytkmiapfkebdpbaa
