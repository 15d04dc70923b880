/- Contracts of the specification's Keeps and Worst. Conditions: a path reads as points. -/
import Derived.Test.YtkmiapfkebdpbaaNb
import Derived.Test.YtkmiapfkebdpbaaLo
namespace Go.Proofs.Ytkmiapfkebdpbaa
open Go.RowKit

theorem motor_nums {m : Mot} (fails : Bool) (h : motB m = true) : ∃ T sp : Nat, m.top = (T : Int) ∧ T ≤ 10 ∧ sp ≤ 10 ∧ (if fails = true then m.jerk else m.ease) = (sp : Int) ∧ m.top.toNat = T ∧ (stepOf m fails).toNat = sp := by
  have h := (motB_iff m).1 h
  refine ⟨m.top.toNat, (stepOf m fails).toNat, by omega, by omega, ?_, ?_, rfl, rfl⟩
  · unfold stepOf; split <;> omega
  · unfold stepOf; split <;> omega
set_option maxRecDepth 100000 in
set_option maxHeartbeats 2000000 in
theorem rKeeps_any (t : List Pt) (m : Mot) (x : Lim) (fails : Bool) (A : Option Addr) (c B : Nat) (w : World) (hB : B ≤ w.heap.size) (hr : Reads w B 3 A t.length (ptCells t)) (hn : t.length ≤ maxLen) :
    Calls Try.prog 21 #[.slice A t.length c, motV m, limV x, .bool fails] w (KPost w t m x fails) := by
  obtain ⟨W, hW⟩ : ∃ W, W = ((w.alloc (.cells #[.int .i64 m.top, .int .i64 m.ease, .int .i64 m.jerk] 35)).alloc (.cells #[.int .i64 x.side, .int .i64 x.low, .int .i64 x.high] 37)).alloc (.cells #[.int .i64 0, .int .i64 0, .int .i64 0] 24) := ⟨_, rfl⟩
  have bW : Below w.heap.size w W := by subst hW; exact (((Below.refl _ _).alloc (Nat.le_refl _) _).alloc (by simp) _).alloc (by simp; omega) _
  have r0 : Row W w.heap.size 35 [.int .i64 m.top, .int .i64 m.ease, .int .i64 m.jerk] := by subst hW; exact ((Row.new w _ _).alloc _).alloc _
  have r1 : Row W (w.heap.size + 1) 37 [.int .i64 x.side, .int .i64 x.low, .int .i64 x.high] := by
    subst hW
    have h := (Row.new (w.alloc (.cells #[.int .i64 m.top, .int .i64 m.ease, .int .i64 m.jerk] 35)) 37 #[.int .i64 x.side, .int .i64 x.low, .int .i64 x.high]).alloc (.cells #[.int .i64 0, .int .i64 0, .int .i64 0] 24)
    simpa only [World.size_alloc] using h
  have r2 : Row W (w.heap.size + 1 + 1) 24 [.int .i64 0, .int .i64 0, .int .i64 0] := by
    subst hW
    have h := Row.new ((w.alloc (.cells #[.int .i64 m.top, .int .i64 m.ease, .int .i64 m.jerk] 35)).alloc (.cells #[.int .i64 x.side, .int .i64 x.low, .int .i64 x.high] 37)) 24 #[.int .i64 0, .int .i64 0, .int .i64 0]
    simpa only [World.size_alloc] using h
  have HK : Hid (∀ X (T sp : Nat), Below w.heap.size w X → pathB t = true → limB x = true → T ≤ 10 → sp ≤ 10 → m.top = (T : Int) → (if fails = true then m.jerk else m.ease) = (sp : Int) → Calls Try.prog 56 #[.slice A t.length c, motV m, limV x, .bool fails] X (KzPost X (keepsZ t T sp x))) := fun X T sp hX h1 h2 h3 h4 h5 h6 => by
    obtain ⟨mt, me, mj⟩ := m
    dsimp only at h5 h6
    subst h5
    exact rkeeps_any t T sp me mj x fails A c B X (Nat.le_trans hB hX.size) (hr.below (hX.mono hB)) h1 h2 h3 h4 h6
  have HC := Lib.hid (checked_any t m x A c B W (Nat.le_trans hB bW.size) (hr.below (bW.mono hB)) hn)
  have z0 := r0.lt
  have z1 := r1.lt
  have z2 := r2.lt
  unfold motV limV at HK HC ⊢
  obtain ⟨_, q0, q1, q2⟩ := Row.at_3 r0
  obtain ⟨_, u0, u1, u2⟩ := Row.at_3 r1
  clear hr hn
  go_enter Try.func21, Try.ntmps21
  go_wp2_with fail
  rw [← hW]
  clear hW
  refine HC.out.mono ?_
  rintro e w1 ⟨rfl, hb1⟩
  have b1 := bW.trans (hb1.mono bW.size)
  have s0 := r0.below hb1 z0
  have s1 := r1.below hb1 z1
  have s2 := r2.below hb1 z2
  obtain ⟨q, hq⟩ : ∃ q, q = limE t m x := ⟨_, rfl⟩
  rw [← hq]
  have Hq := Lib.hid hq
  clear hq q0 q1 q2 u0 u1 u2 r0 r1 r2
  obtain ⟨_, q0, q1, q2⟩ := Row.at_3 s0
  obtain ⟨_, u0, u1, u2⟩ := Row.at_3 s1
  obtain ⟨f2, g0, g1, g2⟩ := Row.at_3 s2
  have y2 := s2.lt
  by_cases h0 : q = 0
  case neg =>
    have h1 : (q != 0) = true := by simpa using h0
    go_wp2_with fail
    refine bodyPost_ret (v := .tuple #[.agg #[.int .i64 0, .int .i64 0, .int .i64 0], .bool false, .int .i64 q]) (by simp [results, Try.results21, go_sem, *]) rfl ?_
    refine ⟨below_set3 b1 (by omega) _ _ _, ?_⟩
    unfold keepS
    rw [← Hq.out, if_pos h0]
    rfl
  case pos =>
    subst h0
    obtain ⟨hpa, hmo, hli⟩ := limE_zero.1 Hq.out.symm
    obtain ⟨T, sp, hT, hT10, hsp10, hsp, e1, e2⟩ := motor_nums fails hmo
    have HS : Hid (keepS t m x fails = ((keepsZ t T sp x).1, (keepsZ t T sp x).2, 0)) := by
      show _ = _
      unfold keepS
      rw [if_neg (by rw [← Hq.out]; simp), e1, e2]
    have HK2 := Lib.hid (HK.out w1 T sp b1 hpa hli hT10 hsp10 hT hsp)
    obtain ⟨⟨ch, bo⟩, hkz⟩ : ∃ z, z = keepsZ t T sp x := ⟨_, rfl⟩
    rw [← hkz] at HS HK2
    clear hT hsp e1 e2 hkz HK
    go_wp2_with fail
    refine HK2.out.mono ?_
    rintro e w2 ⟨hb2, rfl⟩
    have b2 := b1.trans (hb2.mono b1.size)
    have t2 := s2.below hb2 y2
    have zt := t2.lt
    clear q0 q1 q2 u0 u1 u2 f2 g0 g1 g2
    obtain ⟨f2, g0, g1, g2⟩ := Row.at_3 t2
    unfold encC chgV
    go_wp2_with fail
    refine bodyPost_ret (v := .tuple #[.agg #[.int .i64 (ch.ph : Int), .int .i64 (ch.bf : Int), .int .i64 (ch.af : Int)], .bool bo, .int .i64 0]) (by simp [results, Try.results21, go_sem, *]) rfl ?_
    refine ⟨Below.alloc (below_set3 b2 (by omega) _ _ _) (below_set3 b2 (by omega) _ _ _).size _, ?_⟩
    rw [HS.out]
    rfl
/-- A slice that reads as this. -/
def isReads' (size n : Nat) (xs : List Value) : Value → World → Prop := fun u y => ∃ (A : Option Addr) (c B : Nat), u = .slice A n c ∧ B ≤ y.heap.size ∧ Reads y B size A n xs
theorem stable_isReads' (size n : Nat) (xs : List Value) : Stable (isReads' size n xs) := fun _ _ _ ⟨A, c, B, h1, h2, h3⟩ hb => ⟨A, c, B, h1, Nat.le_trans h2 hb.size, h3.below (hb.mono h2)⟩
theorem worstR_snoc (t : List Pt) (l : List Chg) (c : Chg) : worstR t (l ++ [c]) = if l = [] then wstep t ⟨0, (feltZ t c).z, (feltZ t c).z⟩ c else wstep t (worstR t l) c := by
  cases l with
  | nil => rfl
  | cons y l => simp only [worstR, List.cons_append, List.foldl_append, List.foldl_cons, List.foldl_nil]; rw [if_neg (by simp)]
theorem limE_no {t : List Pt} {m : Mot} : limE t m ⟨0, 0, 0⟩ = motionE t m := by
  unfold limE
  by_cases h : motionE t m ≠ 0
  · rw [if_pos h]
  · rw [if_neg h, if_neg (by decide)]
    omega
set_option maxRecDepth 100000 in
set_option maxHeartbeats 4000000 in
theorem rWorst_any (t : List Pt) (m : Mot) (fails : Bool) (A : Option Addr) (c B : Nat) (w : World) (hB : B ≤ w.heap.size) (hr : Reads w B 3 A t.length (ptCells t)) (hn : t.length ≤ maxLen) :
    Calls Try.prog 23 #[.slice A t.length c, motV m, .bool fails] w (WsPost w t m fails) := by
  obtain ⟨W, hW⟩ : ∃ W, W = w.alloc (.cells #[.int .i64 m.top, .int .i64 m.ease, .int .i64 m.jerk] 35) := ⟨_, rfl⟩
  have bW : Below w.heap.size w W := by subst hW; exact (Below.refl _ _).alloc (Nat.le_refl _) _
  have r0 : Row W w.heap.size 35 [.int .i64 m.top, .int .i64 m.ease, .int .i64 m.jerk] := by subst hW; exact Row.new w _ _
  have HC := checked_any t m ⟨0, 0, 0⟩ A c B W (Nat.le_trans hB bW.size) (hr.below (bW.mono hB)) hn
  rw [limE_no] at HC
  have HC := Lib.hid HC
  have z0 := r0.lt
  obtain ⟨_, q0, q1, q2⟩ := Row.at_3 r0
  unfold limV motV at HC
  unfold motV
  dsimp only at HC
  go_enter Try.func23, Try.ntmps23
  go_wp2_with fail
  rw [← hW]
  clear hW
  refine HC.out.mono ?_
  rintro e w1 ⟨rfl, hb1⟩
  have b1 := bW.trans (hb1.mono bW.size)
  have r1 := r0.below hb1 z0
  have z1 := r1.lt
  obtain ⟨q, hq⟩ : ∃ q, q = motionE t m := ⟨_, rfl⟩
  rw [← hq]
  have Hq := Lib.hid hq
  clear hq q0 q1 q2 r0 z0
  obtain ⟨_, q0, q1, q2⟩ := Row.at_3 r1
  by_cases h0 : q = 0
  case neg =>
    have h1 : (q != 0) = true := by simpa using h0
    go_wp2_with fail
    refine bodyPost_ret (v := .tuple #[.int .i64 0, .int .i64 0, .int .i64 0, .int .i64 q]) (by simp [results, Try.results23, go_sem, *]) rfl ?_
    refine ⟨b1, ?_⟩
    unfold wrS wsE
    rw [← Hq.out, if_pos h0]
  case pos =>
    subst h0
    obtain ⟨hpa, hmo⟩ := motionE_zero.1 Hq.out.symm
    obtain ⟨T, sp, hT, hT10, hsp10, hsp, e1, e2⟩ := motor_nums fails hmo
    obtain ⟨n1, n2, hspn⟩ := (pathB_iff t).1 hpa
    have HS0 : Hid (wrS t m fails = (worstP t (chgs t.length T sp), 0)) := by
      show _ = _
      unfold wrS
      rw [if_neg (by rw [← Hq.out]; simp), e1, e2]
    have HC : Hid (∀ X : World, Calls Try.prog 59 #[.slice A t.length c, .agg #[.int .i64 m.top, .int .i64 m.ease, .int .i64 m.jerk], .int .i64 (if fails = true then m.jerk else m.ease)] X (ChsPost X (chgs t.length T sp))) := fun X => by
      rw [hsp, hT]
      exact Changes_any t.length T sp m.ease m.jerk A c X (by omega) hT10 hsp10
    have HS : Hid (∀ X : World, Calls Try.prog 60 #[.agg #[.int .i64 m.top, .int .i64 m.ease, .int .i64 m.jerk], .bool fails] X fun e w' => e = .returned (.int .i64 (if fails = true then m.jerk else m.ease)) ∧ Below X.heap.size X w') := fun X => step_any m fails X
    obtain ⟨stp, hstp⟩ : ∃ stp, stp = (if fails = true then m.jerk else m.ease) := ⟨_, rfl⟩
    rw [← hstp] at HC HS
    clear hT hsp e1 e2 hstp
    go_upto_region 4 with (fail)
    refine wp_region_all 7 (w0 := w1) (ord := [0, 1, 2, 3, 4, 5, 6]) (ds := [(0, 24), (1, 25), (2, 26), (3, 27), (4, 28), (5, 29), (6, 11)]) (l := [isV ?va0, isV ?va1, isV ?va2, isV ?va3, isV ?va4, isReads' 3 (chgs t.length T sp).length (chgCells (chgs t.length T sp)), isReads' 3 (chgs t.length T sp).length (chgCells (chgs t.length T sp))]) (by kernel_rfl) (by kernel_rfl) (by first | rfl | kernel_rfl) (AddSteps.cons (k := 0) (k' := 1) rfl ?sa0 (AddSteps.cons (k := 1) (k' := 2) rfl ?sa1 (AddSteps.cons (k := 2) (k' := 3) rfl ?sa2 (AddSteps.cons (k := 3) (k' := 4) rfl ?sa3 (AddSteps.cons (k := 4) (k' := 5) rfl ?sa4 (AddSteps.cons (k := 5) (k' := 6) rfl ?sa5 (AddSteps.cons (k := 6) (k' := 7) rfl ?sa6 AddSteps.nil))))))) ?sta ?fina
    case sa0 =>
      refine AddStep.go (o := ⟨some 24, _, _, _, _, _⟩) rfl rfl (fun xs y hy hV K hK => ?_)
      clear hV
      simp only [putsF, List.foldl_cons, List.foldl_nil, Act.put, List.setIfInBounds_toArray, List.set_cons_zero, List.set_cons_succ] at hK ⊢
      go_wp2_with fail
      exact hK.out _ _ (Below.refl _ _) (by exact rfl)
    case sa1 =>
      refine AddStep.go (o := ⟨some 25, _, _, _, _, _⟩) rfl rfl (fun xs y hy hV K hK => ?_)
      clear hV
      simp only [putsF, List.foldl_cons, List.foldl_nil, Act.put, List.setIfInBounds_toArray, List.set_cons_zero, List.set_cons_succ] at hK ⊢
      obtain ⟨_, q0, q1, q2⟩ := Row.at_3 (r1.below hy z1)
      go_wp2_with fail
      exact hK.out _ _ (Below.refl _ _) (by exact rfl)
    case sa2 =>
      refine AddStep.go (o := ⟨some 26, _, _, _, _, _⟩) rfl rfl (fun xs y hy hV K hK => ?_)
      clear hV
      simp only [putsF, List.foldl_cons, List.foldl_nil, Act.put, List.setIfInBounds_toArray, List.set_cons_zero, List.set_cons_succ] at hK ⊢
      obtain ⟨_, q0, q1, q2⟩ := Row.at_3 (r1.below hy z1)
      go_wp2_with fail
      exact hK.out _ _ (Below.refl _ _) (by exact rfl)
    case sa3 =>
      refine AddStep.go (o := ⟨some 27, _, _, _, _, _⟩) rfl rfl (fun xs y hy hV K hK => ?_)
      clear hV
      simp only [putsF, List.foldl_cons, List.foldl_nil, Act.put, List.setIfInBounds_toArray, List.set_cons_zero, List.set_cons_succ] at hK ⊢
      go_wp2_with fail
      exact hK.out _ _ (Below.refl _ _) (by exact rfl)
    case sa4 =>
      refine AddStep.go (o := ⟨some 28, _, _, _, _, _⟩) rfl rfl (fun xs y hy hV K hK => ?_)
      have e2 : xs 2 = _ := hV 2 (by kernel_rfl)
      have e3 : xs 3 = _ := hV 3 (by kernel_rfl)
      clear hV
      simp only [putsF, List.foldl_cons, List.foldl_nil, Act.put, List.setIfInBounds_toArray, List.set_cons_zero, List.set_cons_succ] at hK ⊢
      simp only [e2, e3] at hK ⊢
      clear e2 e3
      go_wp2_with (go_at_call 60; refine (HS.out _).mono ?_; rintro e z ⟨rfl, hz⟩)
      exact hK.out _ _ hz (by exact rfl)
    case sa5 =>
      refine AddStep.go (o := ⟨some 29, _, _, _, _, _⟩) rfl rfl (fun xs y hy hV K hK => ?_)
      have e0 : xs 0 = _ := hV 0 (by kernel_rfl)
      have e1 : xs 1 = _ := hV 1 (by kernel_rfl)
      have e4 : xs 4 = _ := hV 4 (by kernel_rfl)
      clear hV
      simp only [putsF, List.foldl_cons, List.foldl_nil, Act.put, List.setIfInBounds_toArray, List.set_cons_zero, List.set_cons_succ] at hK ⊢
      simp only [e0, e1, e4] at hK ⊢
      clear e0 e1 e4
      go_wp2_with (go_at_call 59; refine (HC.out _).mono ?_; rintro e z ⟨hz, AC, cC, rfl, hrd⟩)
      exact hK.out _ _ hz ⟨AC, cC, _, rfl, Nat.le_refl _, hrd⟩
    case sa6 =>
      refine AddStep.go (o := ⟨some 11, _, _, _, _, _⟩) rfl rfl (fun xs y hy hV K hK => ?_)
      obtain ⟨AC, cC, BC, e5, hBC, hrd⟩ := (hV 5 (by kernel_rfl))
      clear hV
      simp only [putsF, List.foldl_cons, List.foldl_nil, Act.put, List.setIfInBounds_toArray, List.set_cons_zero, List.set_cons_succ] at hK ⊢
      simp only [e5] at hK ⊢
      clear e5
      go_wp2_with fail
      exact hK.out _ _ (Below.refl _ _) ⟨AC, cC, BC, rfl, hBC, hrd⟩
    case sta => exact (AllSt.cons (stable_isV _) (AllSt.cons (stable_isV _) (AllSt.cons (stable_isV _) (AllSt.cons (stable_isV _) (AllSt.cons (stable_isV _) (AllSt.cons (stable_isReads' _ _ _) (AllSt.cons (stable_isReads' _ _ _) AllSt.nil)))))))
    case fina =>
      intro xs y hy hV
      have e0 : xs 0 = _ := hV 0 (by decide)
      have e1 : xs 1 = _ := hV 1 (by decide)
      have e2 : xs 2 = _ := hV 2 (by decide)
      have e3 : xs 3 = _ := hV 3 (by decide)
      have e4 : xs 4 = _ := hV 4 (by decide)
      obtain ⟨AC, cC, BC, e5, hBC, hrd⟩ := (hV 5 (by decide))
      obtain ⟨AD, cD, BD, e6, hBD, hrd⟩ := (hV 6 (by decide))
      clear hV
      simp only [putsF, List.foldl_cons, List.foldl_nil, Act.put, List.setIfInBounds_toArray, List.set_cons_zero, List.set_cons_succ]
      simp only [e0, e1, e2, e3, e4, e5, e6]
      clear e0 e1 e2 e3 e4 e5 e6
      obtain ⟨L, hL⟩ : ∃ L, L = chgs t.length T sp := ⟨_, rfl⟩
      have hLl : L.length ≤ 100000 := by
        rw [hL, chgs_phR]
        have := some_len (T := T) (s := sp) (n := t.length) (p := t.length) (v := 0) (k := 0) hT10 (by omega) (Nat.le_refl _) (by omega) (by omega)
        simpa [vsR, wsR] using this
      have Hmem : Hid (∀ (k : Nat) (ch : Chg), L[k]? = some ch → ch.ph < t.length ∧ ch.bf ≤ 10 ∧ ch.af ≤ 10) := fun k ch h => by
        have h1 : ch ∈ chgs t.length T sp := by rw [← hL]; exact List.mem_of_getElem? h
        have h2 := (mem_chgs _ _ _ _).1 h1
        omega
      have HE : Hid (wrS t m fails = (worstR t L, 0)) := by
        show _ = _
        rw [HS0.out, hL, worst_eq t _ (chgs_ne t.length T sp (by omega))]
        intro ch hch
        have h2 := (mem_chgs _ _ _ _).1 hch
        have h3 := (feltI_bd hspn ch.ph ch.bf ch.af).2.2
        rw [feltI_nat t ch h2.1] at h3
        omega
      rw [← hL] at hrd ⊢
      clear hL HS0 HC HS q0 q1 q2
      have bY := b1.trans (hy.mono b1.size)
      have rY := r1.below hy z1
      have hrdY := hrd.more hBD
      go_wp2_with fail
      go_loopw [12, 13, 14, 15] (fun a b d i wr => ∃ k : Nat, k ≤ L.length ∧ i = .int .i64 k ∧ a = .int .i64 (worstR t (L.take k)).side ∧ b = .int .i64 (worstR t (L.take k)).low ∧ d = .int .i64 (worstR t (L.take k)).high ∧ Below y.heap.size y wr) (fun _ _ _ i _ => L.length - (intOf i).toNat)
      case atStart => exact ⟨0, Nat.zero_le _, rfl, rfl, rfl, rfl, Below.refl _ _⟩
      case round =>
        obtain ⟨k, hk, rfl, rfl, rfl, rfl, hbel⟩ := hrel
        have bwr := bY.trans (hbel.mono bY.size)
        obtain ⟨st, hst⟩ : ∃ st, st = worstR t (L.take k) := ⟨_, rfl⟩
        by_cases hlt : k < L.length
        · obtain ⟨ch, hch⟩ : ∃ ch, L[k]? = some ch := ⟨_, List.getElem?_eq_getElem hlt⟩
          obtain ⟨m1, m2, m3⟩ := Hmem.out k ch hch
          obtain ⟨b, o, rfl, hb, c0, c1, c2⟩ := (hrdY.below hbel).atp hlt
          have hpc : ptAt (L.map chgPt) k = chgPt ch := by simp [ptAt, hch]
          rw [hpc] at c0 c1 c2
          simp only [chgPt] at c0 c1 c2
          have hfb := feltZ_bd hpa ch m1
          have hrf := rfelt_any t ch A c B
          obtain ⟨f, hf⟩ : ∃ f, f = feltZ t ch := ⟨_, rfl⟩
          have HF : Hid (∀ X : World, Below w.heap.size w X → Calls Try.prog 51 #[.slice A t.length c, .agg #[.int .i64 (ch.ph : Int), .int .i64 (ch.bf : Int), .int .i64 (ch.af : Int)]] X fun e w' => e = .returned (ptV f) ∧ Below X.heap.size X w') := fun X hX => by
            rw [hf]
            exact hrf X (Nat.le_trans hB hX.size) (hr.below (hX.mono hB)) hpa m1 m2 m3
          rw [← hf] at hfb
          obtain ⟨sv, hsv⟩ : ∃ sv, sv = sideZ f := ⟨_, rfl⟩
          have Hsv := Lib.hid hsv
          have HSt : Hid (worstR t (L.take (k + 1)) = if k = 0 then ⟨max 0 sv, min f.z f.z, max f.z f.z⟩ else ⟨max st.side sv, min st.low f.z, max st.high f.z⟩) := by
            show _ = _
            have e : L.take (k + 1) = L.take k ++ [ch] := by rw [List.take_add_one, hch]; rfl
            rw [e, worstR_snoc, ← hst]
            have hz : L.take k = [] ↔ k = 0 := by
              constructor
              · intro h
                have := congrArg List.length h
                rw [List.length_take, List.length_nil] at this
                omega
              · intro h; subst h; rfl
            by_cases h : k = 0
            · rw [if_pos (hz.2 h), if_pos h]; unfold wstep; rw [← hf, ← hsv]
            · rw [if_neg (fun e => h (hz.1 e)), if_neg h]; unfold wstep; rw [← hf, ← hsv]
          rw [← hst]
          have Hst := Lib.hid hst
          clear hf hch hpc hrf hst hsv
          have e3 : IntKind.i64.wrap ((k : Int) + 1) = (k : Int) + 1 := IntWalk.i64_in _ (by omega)
          have hkl : (k : Int) < (L.length : Int) := by omega
          have hk0 : (0 : Int) ≤ (k : Int) := by omega
          have hLn : ¬ L = [] := by intro e; rw [e] at hlt; simp at hlt
          by_cases hz : k = 0
          · have hz' : ((k : Int) == 0) = true := by simp; omega
            have Ht := HSt.out
            rw [if_pos hz] at Ht
            have Ht := Lib.hid Ht
            have Hs0 : Hid (st = ⟨0, 0, 0⟩) := by show _ = _; rw [Hst.out, hz]; rfl
            clear hz
            go_wp2_with fail
            refine (HF.out wr bwr).mono ?_
            rintro e w4 ⟨rfl, hb4⟩
            unfold ptV
            go_wp2_with fail
            refine (rside_any sv f Hsv.out hfb _).mono ?_
            rintro e w5 ⟨rfl, hb5⟩
            have bb : Below wr.heap.size wr w5 := (hb4.alloc hb4.size _).trans (hb5.mono (by rw [World.size_alloc]; have := hb4.size; omega))
            have rP : Row w5 w4.heap.size 28 [.int .i64 f.x, .int .i64 f.y, .int .i64 f.z] := (Row.new w4 _ _).below hb5 (by rw [World.size_alloc]; omega)
            obtain ⟨_, p0, p1, p2⟩ := Row.at_3 rP
            go_wp2_with fail
            all_goals
              have hs0 := Hs0.out
              subst hs0
              go_roundw
              case rel => exact ⟨k + 1, by omega, by go_num, int_eq (by rw [Ht.out]; dsimp only at *; omega), int_eq (by rw [Ht.out]; dsimp only at *; omega), int_eq (by rw [Ht.out]; dsimp only at *; omega), hbel.trans (bb.mono hbel.size)⟩
              case measure => simp [intOf]; omega
          · have hz' : ((k : Int) == 0) = false := by simp; omega
            have Ht := HSt.out
            rw [if_neg hz] at Ht
            have Ht := Lib.hid Ht
            go_wp2_with fail
            refine (HF.out wr bwr).mono ?_
            rintro e w4 ⟨rfl, hb4⟩
            unfold ptV
            go_wp2_with fail
            refine (rside_any sv f Hsv.out hfb _).mono ?_
            rintro e w5 ⟨rfl, hb5⟩
            have bb : Below wr.heap.size wr w5 := (hb4.alloc hb4.size _).trans (hb5.mono (by rw [World.size_alloc]; have := hb4.size; omega))
            have rP : Row w5 w4.heap.size 28 [.int .i64 f.x, .int .i64 f.y, .int .i64 f.z] := (Row.new w4 _ _).below hb5 (by rw [World.size_alloc]; omega)
            obtain ⟨_, p0, p1, p2⟩ := Row.at_3 rP
            go_wp2_with fail
            all_goals
              go_roundw
              case rel => exact ⟨k + 1, by omega, by go_num, int_eq (by rw [Ht.out]; dsimp only; omega), int_eq (by rw [Ht.out]; dsimp only; omega), int_eq (by rw [Ht.out]; dsimp only; omega), hbel.trans (bb.mono hbel.size)⟩
              case measure => simp [intOf]; omega
        · obtain rfl : k = L.length := by omega
          have hkl : ¬ (L.length : Int) < (L.length : Int) := by omega
          have HE2 : Hid (wrS t m fails = (st, 0)) := by show _ = _; rw [HE.out, hst, List.take_length]
          rw [← hst]
          clear hst
          go_wp2_with fail
          refine bodyPost_ret (v := .tuple #[.int .i64 st.side, .int .i64 st.low, .int .i64 st.high, .int .i64 0]) (by simp [results, Try.results23, go_sem, *]) rfl ?_
          refine ⟨bwr, ?_⟩
          rw [HE2.out]
          rfl
end Go.Proofs.Ytkmiapfkebdpbaa
