/- The walk of QueueChecks. Conditions: an evening and groups that read as data. -/
import Derived.Test.YtijbhcdnbaaobaaEf
import Derived.Test.YtijbhcdnbaaobaaHw
namespace Go.Proofs.Ytijbhcdnbaaobaa
open Go.RowKit

def TrueP (w : World) (e : Ending) (w' : World) : Prop := e = .returned (.bool true) ∧ Below w.heap.size w w'
/-- A copied evening, copied groups (for a region's rule). -/
def isEve (f : EveZ) : Value → World → Prop := fun u y => ∃ A c, u = eveV f A c ∧ ∃ B, B ≤ y.heap.size ∧ Reads y B 5 A f.rides.length (bthCells f.rides)
theorem stable_isEve (f : EveZ) : Stable (isEve f) := fun _ _ _ ⟨A, c, h1, B, h2, h3⟩ hb => ⟨A, c, h1, B, Nat.le_trans h2 hb.size, h3.below (hb.mono h2)⟩
theorem isEve_mk {y z : World} {f : EveZ} {A : Option Addr} {c : Nat} (ho : z.ownsRow y.heap.size 47 5 (.slice A f.rides.length c) f.rides.length (bthCells f.rides)) : isEve f (eveV f A c) z := by
  obtain ⟨A', c', e, hr⟩ := nown_reads ho
  injection e with e1
  exact ⟨A, c, rfl, _, Nat.le_refl _, by rw [e1]; exact hr⟩
def isGrps (l : List GrpZ) : Value → World → Prop := fun u y => ∃ A c, u = .slice A l.length c ∧ ∃ B rs, B ≤ y.heap.size ∧ GrpsIn y B A rs l
theorem stable_isGrps (l : List GrpZ) : Stable (isGrps l) := fun _ _ _ ⟨A, c, h1, B, rs, h2, h3⟩ hb => ⟨A, c, h1, B, rs, Nat.le_trans h2 hb.size, h3.below (hb.mono h2)⟩
theorem GrpsIn.more {w : World} {B B2 : Nat} {A : Option Addr} {rs : List (Option Addr × Nat)} {l : List GrpZ} (h : GrpsIn w B A rs l) (hb : B ≤ B2) : GrpsIn w B2 A rs l :=
  ⟨h.len, fun h0 => (by obtain ⟨b, o, e, h1, h2⟩ := h.outer h0; exact ⟨b, o, e, Nat.lt_of_lt_of_le h1 hb, h2⟩), fun i hi => (h.inner i hi).more hb, h.lens⟩
theorem far_not {f : EveZ} {l : List GrpZ} (h : farB f l = false) : f.rides.length ≤ 10 ∧ l.length ≤ 70 ∧ ∀ i, i < l.length → (l.getD i default).wants.length ≤ 20 := by
  unfold farB at h
  simp only [Bool.or_eq_false_iff, decide_eq_false_iff_not] at h
  refine ⟨by omega, by omega, fun i hi => ?_⟩
  have := List.any_eq_false.1 h.2 _ (getD_mem' hi)
  unfold farG at this
  simp only [decide_eq_true_eq] at this
  omega
set_option maxRecDepth 100000 in
set_option maxHeartbeats 4000000 in
theorem qchecks_walk (f : EveZ) (l : List GrpZ) (A A2 : Option Addr) (c c2 B : Nat) (rs : List (Option Addr × Nat)) (w : World) (hB : B ≤ w.heap.size) (hr : Reads w B 5 A f.rides.length (bthCells f.rides)) (hn : f.rides.length ≤ maxLen) (hl : GrpsIn w B A2 rs l) :
    Calls Try.prog 3 #[eveV f A c, .slice A2 l.length c2] w (TrueP w) := by
  obtain ⟨W, hW⟩ : ∃ W, W = w.alloc (.cells #[.slice A f.rides.length c, .int .i64 f.walk] 24) := ⟨_, rfl⟩
  have bW : Below w.heap.size w W := by subst hW; exact (Below.refl _ _).alloc (Nat.le_refl _) _
  have r0 : Row W w.heap.size 24 [.slice A f.rides.length c, .int .i64 f.walk] := by subst hW; exact Row.new w _ _
  have q0 : W.cell? ⟨w.heap.size, 0, none⟩ = some (.slice A f.rides.length c) := r0.cell (j := 0) (by simp)
  have q1 : W.cell? ⟨w.heap.size, 1, none⟩ = some (.int .i64 f.walk) := r0.cell (j := 1) (by simp)
  have z0 := r0.lt
  have HR : Hid (∀ X, Below w.heap.size w X → B ≤ X.heap.size ∧ Reads X B 5 A f.rides.length (bthCells f.rides) ∧ GrpsIn X B A2 rs l) := fun X hX => ⟨Nat.le_trans hB hX.size, hr.below (hX.mono hB), hl.below (hX.mono hB)⟩
  have HF := Lib.hid (far_any f l A A2 c c2 B rs W (HR.out W bW).1 hn (HR.out W bW).2.2)
  obtain ⟨k, hk⟩ : ∃ k, k = checkQ f l := ⟨_, rfl⟩
  have HRC : Hid (∀ X, Below w.heap.size w X → Calls Try.prog 20 #[eveV f A c, .slice A2 l.length c2] X fun e w' => e = .returned (.int .i64 k) ∧ Below X.heap.size X w') := fun X hX => by rw [hk]; exact rCheck_any f l A A2 c c2 B rs X (HR.out X hX).1 (HR.out X hX).2.1 hn (HR.out X hX).2.2
  have HQ : Hid (∀ (X : World) (A1 A3 : Option Addr) (c1 c3 B1 B3 : Nat) (rs3 : List (Option Addr × Nat)), B1 ≤ X.heap.size → B3 ≤ X.heap.size → Reads X B1 5 A1 f.rides.length (bthCells f.rides) → GrpsIn X B3 A3 rs3 l → Calls Try.prog 17 #[eveV f A1 c1, .slice A3 l.length c3] X fun e w' => e = .returned (.int .i64 k) ∧ Below X.heap.size X w') := fun X A1 A3 c1 c3 B1 B3 rs3 h1 h3 h4 h5 => by
    rw [hk]
    exact Check_any f l A1 A3 c1 c3 X.heap.size rs3 X (Nat.le_refl _) (h4.more h1) hn (h5.more h3)
  have Hfin : Hid (∀ X : World, Below w.heap.size w X → Calls Try.prog 16 #[] X fun e w' => e = .returned (.bool true) ∧ Below w.heap.size w w') := fun X hX => (works_any X).mono fun _ _ h => ⟨h.1, hX.trans (h.2.mono hX.size)⟩
  unfold eveV at HF HRC HQ ⊢
  clear hr hl hk
  go_enter Try.func3, Try.ntmps3
  go_upto_region 1 with (fail)
  rw [← hW]
  clear hW
  cases hfb : farB f l with
  | true =>
    rw [hfb] at HF
    go_wp2_with (first | (go_at_call 15; refine HF.out.mono ?_; rintro e w1 ⟨rfl, hb1⟩; have b1 := bW.trans (hb1.mono bW.size); clear hb1) | (go_at_call 16; refine (Hfin.out _ b1).mono ?_; rintro e w2 ⟨rfl, hb2⟩; have HB2 := Lib.hid hb2; clear hb2))
    go_ret
    exact ⟨rfl, HB2.out⟩
  | false =>
    rw [hfb] at HF
    obtain ⟨n1, n2, n3⟩ := far_not hfb
    have HC : Hid (∀ X, Below w.heap.size w X → Calls Try.prog 18 #[eveV f A c] X (EveTo X f)) := fun X hX => rCopy_any f A c B X (HR.out X hX).1 (HR.out X hX).2.1 (by omega)
    have HG : Hid (∀ X, Below w.heap.size w X → Calls Try.prog 19 #[.slice A2 l.length c2] X (GrpTo X l)) := fun X hX => rCopyGroups_any l A2 c2 B rs X (HR.out X hX).1 (HR.out X hX).2.2 (by omega) (fun i hi => by have := n3 i hi; omega)
    unfold eveV at HC
    clear n1 n2 n3 hfb hn
    go_upto_region 3 with (go_at_call 15; refine HF.out.mono ?_; rintro e w1 ⟨rfl, hb1⟩)
    have b1 := bW.trans (hb1.mono bW.size)
    have r1 := r0.below hb1 z0
    have z1 := r1.lt
    have x0 : w1.cell? ⟨w.heap.size, 0, none⟩ = some (.slice A f.rides.length c) := r1.cell (j := 0) (by simp)
    have x1 : w1.cell? ⟨w.heap.size, 1, none⟩ = some (.int .i64 f.walk) := r1.cell (j := 1) (by simp)
    clear q0 q1 r0 r1 hb1 z0 HF
    refine wp_region_all 13 (w0 := w1) (ord := [0, 1, 2, 3, 4, 5, 6, 7, 8, 9, 10, 11, 12]) (ds := [(0, 9), (1, 10), (2, 11), (3, 12), (4, 13), (5, 14), (6, 15), (7, 16), (8, 17), (9, 18), (10, 19), (11, 20), (12, 4)]) (l := [isV ?va0, isEve f, isV ?va2, isGrps l, isV ?va4, isV ?va5, isV ?va6, isV ?va7, isV ?va8, isV ?va9, isV ?va10, isV ?va11, isV ?va12]) (by kernel_rfl) (by kernel_rfl) (by first | rfl | kernel_rfl) (AddSteps.cons (k := 0) (k' := 1) rfl ?sa0 (AddSteps.cons (k := 1) (k' := 2) rfl ?sa1 (AddSteps.cons (k := 2) (k' := 3) rfl ?sa2 (AddSteps.cons (k := 3) (k' := 4) rfl ?sa3 (AddSteps.cons (k := 4) (k' := 5) rfl ?sa4 (AddSteps.cons (k := 5) (k' := 6) rfl ?sa5 (AddSteps.cons (k := 6) (k' := 7) rfl ?sa6 (AddSteps.cons (k := 7) (k' := 8) rfl ?sa7 (AddSteps.cons (k := 8) (k' := 9) rfl ?sa8 (AddSteps.cons (k := 9) (k' := 10) rfl ?sa9 (AddSteps.cons (k := 10) (k' := 11) rfl ?sa10 (AddSteps.cons (k := 11) (k' := 12) rfl ?sa11 (AddSteps.cons (k := 12) (k' := 13) rfl ?sa12 AddSteps.nil))))))))))))) ?sta ?fina
    case sa0 =>
      refine AddStep.go (o := ⟨some 9, _, _, _, _, _⟩) rfl rfl (fun xs y hy hV K hK => ?_)
      clear hV
      simp only [putsF, List.foldl_cons, List.foldl_nil, Act.put, List.setIfInBounds_toArray, List.set_cons_zero, List.set_cons_succ] at hK ⊢
      have x0 := (hy.cell (p := ⟨w.heap.size, 0, none⟩) z1).trans x0
      have x1 := (hy.cell (p := ⟨w.heap.size, 1, none⟩) z1).trans x1
      go_wp2_with fail
      exact hK.out _ _ (Below.refl _ _) (by exact rfl)
    case sa1 =>
      refine AddStep.go (o := ⟨some 10, _, _, _, _, _⟩) rfl rfl (fun xs y hy hV K hK => ?_)
      have e0 : xs 0 = _ := hV 0 (by kernel_rfl)
      clear hV
      simp only [putsF, List.foldl_cons, List.foldl_nil, Act.put, List.setIfInBounds_toArray, List.set_cons_zero, List.set_cons_succ] at hK ⊢
      simp only [e0] at hK ⊢
      clear e0
      go_wp2_with (go_at_call 18; refine (HC.out y (b1.trans (hy.mono b1.size))).mono ?_; rintro e z ⟨A1, c1, rfl, hz, ho⟩)
      exact hK.out _ _ hz (isEve_mk ho)
    case sa2 =>
      refine AddStep.go (o := ⟨some 11, _, _, _, _, _⟩) rfl rfl (fun xs y hy hV K hK => ?_)
      clear hV
      simp only [putsF, List.foldl_cons, List.foldl_nil, Act.put, List.setIfInBounds_toArray, List.set_cons_zero, List.set_cons_succ] at hK ⊢
      go_wp2_with fail
      exact hK.out _ _ (Below.refl _ _) (by exact rfl)
    case sa3 =>
      refine AddStep.go (o := ⟨some 12, _, _, _, _, _⟩) rfl rfl (fun xs y hy hV K hK => ?_)
      have e2 : xs 2 = _ := hV 2 (by kernel_rfl)
      clear hV
      simp only [putsF, List.foldl_cons, List.foldl_nil, Act.put, List.setIfInBounds_toArray, List.set_cons_zero, List.set_cons_succ] at hK ⊢
      simp only [e2] at hK ⊢
      clear e2
      go_wp2_with (go_at_call 19; refine (HG.out y (b1.trans (hy.mono b1.size))).mono ?_; rintro e z ⟨A3, c3, rs3, rfl, hz, hg⟩)
      exact hK.out _ _ hz ⟨A3, c3, rfl, _, rs3, Nat.le_refl _, hg⟩
    case sa4 =>
      refine AddStep.go (o := ⟨some 13, _, _, _, _, _⟩) rfl rfl (fun xs y hy hV K hK => ?_)
      obtain ⟨A1, c1, e1, B1, hB1, hr1⟩ := (hV 1 (by kernel_rfl))
      obtain ⟨A3, c3, e3, B3, rs3, hB3, hg3⟩ := (hV 3 (by kernel_rfl))
      clear hV
      simp only [putsF, List.foldl_cons, List.foldl_nil, Act.put, List.setIfInBounds_toArray, List.set_cons_zero, List.set_cons_succ] at hK ⊢
      simp only [e1, e3] at hK ⊢
      clear e1 e3
      go_wp2_with (go_at_call 17; refine (HQ.out y A1 A3 c1 c3 B1 B3 rs3 hB1 hB3 hr1 hg3).mono ?_; rintro e z ⟨rfl, hz⟩)
      exact hK.out _ _ hz (by exact rfl)
    case sa5 =>
      refine AddStep.go (o := ⟨some 14, _, _, _, _, _⟩) rfl rfl (fun xs y hy hV K hK => ?_)
      clear hV
      simp only [putsF, List.foldl_cons, List.foldl_nil, Act.put, List.setIfInBounds_toArray, List.set_cons_zero, List.set_cons_succ] at hK ⊢
      have x0 := (hy.cell (p := ⟨w.heap.size, 0, none⟩) z1).trans x0
      have x1 := (hy.cell (p := ⟨w.heap.size, 1, none⟩) z1).trans x1
      go_wp2_with fail
      exact hK.out _ _ (Below.refl _ _) (by exact rfl)
    case sa6 =>
      refine AddStep.go (o := ⟨some 15, _, _, _, _, _⟩) rfl rfl (fun xs y hy hV K hK => ?_)
      clear hV
      simp only [putsF, List.foldl_cons, List.foldl_nil, Act.put, List.setIfInBounds_toArray, List.set_cons_zero, List.set_cons_succ] at hK ⊢
      go_wp2_with fail
      exact hK.out _ _ (Below.refl _ _) (by exact rfl)
    case sa7 =>
      refine AddStep.go (o := ⟨some 16, _, _, _, _, _⟩) rfl rfl (fun xs y hy hV K hK => ?_)
      have e5 : xs 5 = _ := hV 5 (by kernel_rfl)
      have e6 : xs 6 = _ := hV 6 (by kernel_rfl)
      clear hV
      simp only [putsF, List.foldl_cons, List.foldl_nil, Act.put, List.setIfInBounds_toArray, List.set_cons_zero, List.set_cons_succ] at hK ⊢
      simp only [e5, e6] at hK ⊢
      clear e5 e6
      go_wp2_with (go_at_call 20; refine (HRC.out y (b1.trans (hy.mono b1.size))).mono ?_; rintro e z ⟨rfl, hz⟩)
      exact hK.out _ _ hz (by exact rfl)
    case sa8 =>
      refine AddStep.go (o := ⟨some 17, _, _, _, _, _⟩) rfl rfl (fun xs y hy hV K hK => ?_)
      have e4 : xs 4 = _ := hV 4 (by kernel_rfl)
      have e7 : xs 7 = _ := hV 7 (by kernel_rfl)
      clear hV
      simp only [putsF, List.foldl_cons, List.foldl_nil, Act.put, List.setIfInBounds_toArray, List.set_cons_zero, List.set_cons_succ] at hK ⊢
      simp only [e4, e7] at hK ⊢
      clear e4 e7
      go_wp2_with fail
      exact hK.out _ _ (Below.refl _ _) (by exact rfl)
    case sa9 =>
      refine AddStep.go (o := ⟨some 18, _, _, _, _, _⟩) rfl rfl (fun xs y hy hV K hK => ?_)
      have e8 : xs 8 = _ := hV 8 (by kernel_rfl)
      clear hV
      simp only [putsF, List.foldl_cons, List.foldl_nil, Act.put, List.setIfInBounds_toArray, List.set_cons_zero, List.set_cons_succ] at hK ⊢
      simp only [e8] at hK ⊢
      clear e8
      go_wp2_with fail
      exact hK.out _ _ (Below.refl _ _) (by exact rfl)
    case sa10 =>
      refine AddStep.mk (o := ⟨some 19, _, _, _, _, _⟩) rfl (fun xs y hy hV K hK => ?_)
      have e9 : xs 9 = _ := hV 9 (by kernel_rfl)
      clear hV
      simp only [putsF, List.foldl_cons, List.foldl_nil, Act.put, List.setIfInBounds_toArray, List.set_cons_zero, List.set_cons_succ] at hK ⊢
      simp only [e9] at hK ⊢
      clear e9
      rw [if_pos (show Region.wanted _ _ = true from by kernel_rfl)]
      go_wp2_with (go_at_call 16; refine (works_any _).mono ?_; rintro e z ⟨rfl, hz⟩)
      exact hK.out _ _ hz (by exact rfl)
    case sa11 =>
      refine AddStep.go (o := ⟨some 20, _, _, _, _, _⟩) rfl rfl (fun xs y hy hV K hK => ?_)
      have e9 : xs 9 = _ := hV 9 (by kernel_rfl)
      have e10 : xs 10 = _ := hV 10 (by kernel_rfl)
      clear hV
      simp only [putsF, List.foldl_cons, List.foldl_nil, Act.put, List.setIfInBounds_toArray, List.set_cons_zero, List.set_cons_succ] at hK ⊢
      simp only [e9, e10] at hK ⊢
      clear e9 e10
      go_wp2_with fail
      exact hK.out _ _ (Below.refl _ _) (by exact rfl)
    case sa12 =>
      refine AddStep.go (o := ⟨some 4, _, _, _, _, _⟩) rfl rfl (fun xs y hy hV K hK => ?_)
      have e11 : xs 11 = _ := hV 11 (by kernel_rfl)
      clear hV
      simp only [putsF, List.foldl_cons, List.foldl_nil, Act.put, List.setIfInBounds_toArray, List.set_cons_zero, List.set_cons_succ] at hK ⊢
      simp only [e11] at hK ⊢
      clear e11
      go_wp2_with fail
      exact hK.out _ _ (Below.refl _ _) (by exact rfl)
    case sta => exact (AllSt.cons (stable_isV _) (AllSt.cons (stable_isEve f) (AllSt.cons (stable_isV _) (AllSt.cons (stable_isGrps l) (AllSt.cons (stable_isV _) (AllSt.cons (stable_isV _) (AllSt.cons (stable_isV _) (AllSt.cons (stable_isV _) (AllSt.cons (stable_isV _) (AllSt.cons (stable_isV _) (AllSt.cons (stable_isV _) (AllSt.cons (stable_isV _) (AllSt.cons (stable_isV _) AllSt.nil)))))))))))))
    case fina =>
      intro xs y hy hV
      have e0 : xs 0 = _ := hV 0 (by decide)
      obtain ⟨A1, c1, e1, B1, hB1, hr1⟩ := (hV 1 (by decide))
      have e2 : xs 2 = _ := hV 2 (by decide)
      obtain ⟨A3, c3, e3, B3, rs3, hB3, hg3⟩ := (hV 3 (by decide))
      have e4 : xs 4 = _ := hV 4 (by decide)
      have e5 : xs 5 = _ := hV 5 (by decide)
      have e6 : xs 6 = _ := hV 6 (by decide)
      have e7 : xs 7 = _ := hV 7 (by decide)
      have e8 : xs 8 = _ := hV 8 (by decide)
      have e9 : xs 9 = _ := hV 9 (by decide)
      have e10 : xs 10 = _ := hV 10 (by decide)
      have e11 : xs 11 = _ := hV 11 (by decide)
      have e12 : xs 12 = _ := hV 12 (by decide)
      clear hV
      simp only [putsF, List.foldl_cons, List.foldl_nil, Act.put, List.setIfInBounds_toArray, List.set_cons_zero, List.set_cons_succ]
      simp only [e0, e1, e2, e3, e4, e5, e6, e7, e8, e9, e10, e11, e12]
      clear e0 e1 e2 e3 e4 e5 e6 e7 e8 e9 e10 e11 e12
      go_wp2_with fail
      go_ret
      exact ⟨rfl, b1.trans (hy.mono b1.size)⟩
end Go.Proofs.Ytijbhcdnbaaobaa
