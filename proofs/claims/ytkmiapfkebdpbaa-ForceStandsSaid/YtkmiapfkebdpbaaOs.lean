/- The walk of ForceStands: the law says true, and leaves what was there. Conditions: a rig and a loading that read as data. -/
import Derived.Test.YtkmiapfkebdpbaaOf
import Derived.Test.YtkmiapfkebdpbaaMd
import Derived.Test.YtkmiapfkebdpbaaLw
import Derived.Test.YtkmiapfkebdpbaaKy
import Derived.Test.YtkmiapfkebdpbaaRg
import Derived.Test.YtkmiapfkebdpbaaRh
/- Plain facts for ForceStands: what is found does not stand; if nothing is found, all loadings stand. -/
namespace Go.Proofs.Ytkmiapfkebdpbaa
open Go.RowKit

theorem progSel_len (l : List Int) : ∀ (S : Int) (n : Nat), (progSel l S n).length = l.length := by
  induction l with
  | nil => intro S n; rfl
  | cons x l ih =>
    intro S n
    simp only [progSel]
    split <;> simp [ih]
theorem progSel_low (l : List Int) : ∀ (S : Int) (n : Nat), belowZ S (minSel l n) = true → S + selS l (progSel l S n) < 0 := by
  induction l with
  | nil =>
    intro S n h
    have hn := below_some h
    obtain rfl : n = 0 := by simpa using hn
    rw [minSel_zero] at h
    simpa [belowZ, selS, progSel] using h
  | cons x l ih =>
    intro S n h
    simp only [progSel]
    by_cases hc : 0 < n ∧ belowZ (S + x) (minSel l (n - 1)) = true
    · rw [if_pos hc]
      have := ih (S + x) (n - 1) hc.2
      simp only [selS, if_true]
      omega
    · rw [if_neg hc]
      have := ih S n (sel_step h hc)
      simp only [selS, Bool.false_eq_true, if_false]
      omega
theorem ldF_map (l : List Bool) : (List.range l.length).map (ldF l) = l := by
  refine List.ext_getElem (by simp) fun i h1 h2 => ?_
  simp [ldF, h2]
theorem tips_low {r : RigZ} {p k n : Nat} (hneg : momZ r (worstZ r p k) p k < 0) (hf : FewN (ridersZ r p k) (momZ r (fun _ => false) p k) n) : momZ r (ldF (progSel (ridersZ r p k) (momZ r (fun _ => false) p k) n)) p k < 0 := by
  rw [mom_sel]
  have hl : (progSel (ridersZ r p k) (momZ r (fun _ => false) p k) n).length = r.seats.length := by rw [progSel_len, ridersZ_len]
  rw [← hl, ldF_map]
  exact progSel_low _ _ _ (few_is hf (worst_few hneg)).1
theorem least_no {r : RigZ} (h : NoLow (wpL r (phZ r))) : 0 ≤ (leastS r).1 := by
  rcases leastF_mem (wpL r (phZ r)) (maxI, 0, 0) with h1 | h1
  · unfold leastS
    rw [h1]
    decide
  · exact h _ h1
theorem first_mem {r : RigZ} {x : Int × Nat × Nat} (h : FirstW r x) : x ∈ wpL r (phZ r) := by
  obtain ⟨pre, _, _, h3⟩ := h
  exact h3.subset (List.mem_append_right _ (List.mem_singleton.2 rfl))
theorem first_at {r : RigZ} {x : Int × Nat × Nat} (h : FirstW r x) : x.2.1 < phZ r ∧ x.2.2 < r.feet.length ∧ momZ r (worstZ r x.2.1 x.2.2) x.2.1 x.2.2 < 0 := by
  obtain ⟨h1, h2, h3⟩ := (mem_allW r (phZ r) x).1 (first_mem h)
  obtain ⟨pre, _, h4, _⟩ := h
  exact ⟨h1, h2, by rw [← h3]; exact h4⟩
theorem least_low {r : RigZ} {x : Int × Nat × Nat} (h : FirstW r x) : (leastS r).1 < 0 := by
  have h1 := (leastF_le (wpL r (phZ r)) (maxI, 0, 0)).2 x (first_mem h)
  obtain ⟨_, _, h2, _⟩ := h
  unfold leastS
  omega
theorem no_low {r : RigZ} (hv : rigB r = true) (h : NoLow (wpL r (phZ r))) {l : List Bool} {ph line a : Int} (hm : momS r l ph line = (a, 0)) : 0 ≤ a := by
  unfold momS at hm
  rw [if_neg (by rw [hv]; simp)] at hm
  by_cases hc : l.length = r.seats.length ∧ inB ph 0 ((phZ r : Int) - 1) = true ∧ inB line 0 ((r.feet.length : Int) - 1) = true
  · rw [if_pos hc] at hm
    injection hm with hm _
    have h1 := inB_iff.1 hc.2.1
    have h2 := inB_iff.1 hc.2.2
    have h3 := h _ ((mem_allW r (phZ r) (momZ r (worstZ r ph.toNat line.toNat) ph.toNat line.toNat, ph.toNat, line.toNat)).2 ⟨by dsimp only; omega, by dsimp only; omega, rfl⟩)
    have h4 := mom_worst (rigB_parts hv).2.2.2.2.2.1.2 (ldF l) ph.toNat line.toNat r.seats.length
    rw [← hm]
    exact Int.le_trans h3 h4
  · rw [if_neg hc] at hm
    injection hm with _ hm
    cases hm
end Go.Proofs.Ytkmiapfkebdpbaa
namespace Go.Proofs.Ytkmiapfkebdpbaa
open Go.RowKit

def TrueP (w : World) (e : Ending) (w' : World) : Prop := e = .returned (.bool true) ∧ Below w.heap.size w w'
theorem RigIn.more {w : World} {B B' : Nat} {r : RigZ} {R : RigR} (h : RigIn w B r R) (hB : B ≤ B') : RigIn w B' r R :=
  ⟨⟨h.s.len, fun h0 => by
    obtain ⟨b, o, e, hb, hc⟩ := h.s.outer h0
    exact ⟨b, o, e, by omega, hc⟩, fun i hi => (h.s.inner i hi).more hB, h.s.lens⟩, h.f.more hB, h.lf⟩
theorem bools_one {l : List Bool} : ∀ u ∈ l.map Value.bool, u.oneCell' = true := by
  intro u hu
  obtain ⟨b, _, rfl⟩ := List.mem_map.1 hu
  rfl
theorem Try.info_bool : (Try.prog.info? 4).map (fun i => (i.zero, i.size, i.bytes)) = some (some (.bool false), 1, 1) := by kernel_rfl
def loadV' (A : Option Addr) (n c : Nat) (ph line : Int) : Value := .agg #[.slice A n c, .int .i64 ph, .int .i64 line]
set_option maxRecDepth 100000 in
set_option maxHeartbeats 4000000 in
theorem stands_walk (r : RigZ) (R : RigR) (l : List Bool) (A3 : Option Addr) (c3 : Nat) (ph line : Int) (B : Nat) (w : World) (hB : B ≤ w.heap.size) (hR : RigIn w B r R) (hl : Reads w B 1 A3 l.length (l.map Value.bool)) (hln : l.length ≤ maxLen) :
    Calls Try.prog 14 #[rigV r R, loadV' A3 l.length c3 ph line] w (TrueP w) := by
  obtain ⟨i0, hi, hz0, hz1, hz2⟩ := info_parts Try.info_bool
  obtain ⟨W, hW⟩ : ∃ W, W = (w.alloc (.cells (rigCells r R).toArray 57)).alloc (.cells #[.slice A3 l.length c3, .int .i64 ph, .int .i64 line] 66) := ⟨_, rfl⟩
  have bW : Below w.heap.size w W := by subst hW; exact ((Below.refl _ _).alloc (Nat.le_refl _) _).alloc (by simp) _
  have r0 : Row W w.heap.size 57 (rigCells r R) := by subst hW; exact (Row.new w _ (rigCells r R).toArray).alloc _
  have s0 : Row W (w.heap.size + 1) 66 [.slice A3 l.length c3, .int .i64 ph, .int .i64 line] := by
    subst hW
    have h := Row.new (w.alloc (.cells (rigCells r R).toArray 57)) 66 #[.slice A3 l.length c3, .int .i64 ph, .int .i64 line]
    rw [World.size_alloc] at h
    exact h
  have z0 := r0.lt
  have zs0 := s0.lt
  have HR : Hid (∀ X, Below w.heap.size w X → B ≤ X.heap.size ∧ RigIn X B r R) := fun X hX => ⟨Nat.le_trans hB hX.size, hR.below (hX.mono hB)⟩
  have HF := Lib.hid (Far_any r R B W (HR.out W bW).1 (HR.out W bW).2)
  have Hfin : Hid (∀ X : World, Below w.heap.size w X → Calls Try.prog 15 #[] X fun e w' => e = .returned (.bool true) ∧ Below w.heap.size w w') := fun X hX => (works_any X).mono fun _ _ h => ⟨h.1, hX.trans (h.2.mono hX.size)⟩
  have Hl0 := Lib.hid (fun (X : World) (hX : Below w.heap.size w X) => hl.below (hX.mono hB))
  have HT : Hid (∀ X R1, RigIn X X.heap.size r R1 → Calls Try.prog 41 #[rigV r R1] X (TiPost X r)) := fun X R1 h => Tips_any r R1 X.heap.size X (Nat.le_refl _) h
  have HLe : Hid (∀ X R1, RigIn X X.heap.size r R1 → Calls Try.prog 39 #[rigV r R1] X (LePost X r)) := fun X R1 h => Least_any r R1 X.heap.size X (Nat.le_refl _) h
  have HMo0 : Hid (∀ (X : World) (R1 : RigR) (ld : List Bool) (A5 : Option Addr) (c5 : Nat) (p k : Int), ld.length ≤ maxLen → RigIn X X.heap.size r R1 → Reads X X.heap.size 1 A5 ld.length (ld.map Value.bool) → Calls Try.prog 37 #[rigV r R1, .slice A5 ld.length c5, .int .i64 p, .int .i64 k] X (MoPost X r ld p k)) := fun X R1 ld A5 c5 p k h0 h1 h2 => Moment_any r R1 X.heap.size ld A5 c5 p k X (Nat.le_refl _) h1 h2 h0
  unfold maxLen at hln
  clear hl
  unfold rigV at HF HT HLe HMo0
  unfold rigV loadV'
  unfold rigCells at r0 hW
  obtain ⟨_, q0, q1, q2, q3, q4, q5, q6, q7⟩ := Row.at_8 r0
  go_enter Try.func14, Try.ntmps14
  go_wp2_with fail
  rw [← hW]
  clear hW
  refine HF.out.mono ?_
  rintro e w1 ⟨⟨fb, rfl, hfb⟩, hb1⟩
  have b1 := bW.trans (hb1.mono bW.size)
  have r1 := r0.below hb1 z0
  have s1 := s0.below hb1 zs0
  have z1 := r1.lt
  have zs1 := s1.lt
  clear q0 q1 q2 q3 q4 q5 q6 q7 r0 s0 z0 zs0 bW hb1
  obtain ⟨_, q0, q1, q2, q3, q4, q5, q6, q7⟩ := Row.at_8 r1
  obtain ⟨_, u0, u1, u2⟩ := Row.at_3 s1
  cases fb with
  | true =>
    clear hfb
    go_wp2_with fail
    refine (Hfin.out _ b1).mono ?_
    rintro e w2 ⟨rfl, hb2⟩
    go_wp2_with fail
    go_ret
    exact ⟨rfl, hb2⟩
  | false =>
    obtain ⟨h25, h12, h70⟩ := hfb rfl
    have HC := Lib.hid (Copy_any r R B w1 (HR.out w1 b1).1 (HR.out w1 b1).2 h25 h12 h70)
    clear h12 h70 hfb
    unfold rigV at HC
    by_cases h10 : (10 : Int) < (r.seats.length : Int)
    · have hd1 : decide ((10 : Int) < (r.seats.length : Int)) = true := by simpa using h10
      go_wp2_with fail
      refine (Hfin.out _ b1).mono ?_
      rintro e w2 ⟨rfl, hb2⟩
      go_wp2_with fail
      go_ret
      exact ⟨rfl, hb2⟩
    have hd1 : decide ((10 : Int) < (r.seats.length : Int)) = false := by simpa using h10
    by_cases h30 : (30 : Int) < (l.length : Int)
    · have hd : decide ((30 : Int) < (l.length : Int)) = true := by simpa using h30
      go_wp2_with fail
      refine (Hfin.out _ b1).mono ?_
      rintro e w2 ⟨rfl, hb2⟩
      go_wp2_with fail
      go_ret
      exact ⟨rfl, hb2⟩
    have hd : decide ((30 : Int) < (l.length : Int)) = false := by simpa using h30
    have hn10 : r.seats.length ≤ 10 := by omega
    have hl30 : l.length ≤ 30 := by omega
    go_upto_region 3 with (fail)
    clear h10 h30 hd hd1
    go_wp2_with fail
    refine HC.out.mono ?_
    rintro e w2 ⟨hb2, R1, rfl, hR1⟩
    have b2 := b1.trans (hb2.mono b1.size)
    have s2 := s1.below hb2 zs1
    clear q0 q1 q2 q3 q4 q5 q6 q7 u0 u1 u2 r1 s1 z1 zs1 hb2 HC
    unfold rigV
    go_upto_region 4 with (fail)
    obtain ⟨X, hX⟩ : ∃ X, X = w2.alloc (.cells (rigCells r R1).toArray 57) := ⟨_, rfl⟩
    have bX : Below w.heap.size w X := by subst hX; exact b2.alloc b2.size _
    have sX : Row X (w.heap.size + 1) 66 [.slice A3 l.length c3, .int .i64 ph, .int .i64 line] := by subst hX; exact s2.alloc _
    have cX : Row X w2.heap.size 57 (rigCells r R1) := by subst hX; exact Row.new w2 _ (rigCells r R1).toArray
    have RX : RigIn X X.heap.size r R1 := by subst hX; exact (hR1.below ((Below.refl _ _).alloc (Nat.le_refl _) _)).more (by simp)
    unfold rigCells at cX hX
    rw [← hX]
    clear hX b2 s2 hR1
    have HT1 := HT.out X R1 RX
    have cX2 := cX
    obtain ⟨_, q0, q1, q2, q3, q4, q5, q6, q7⟩ := Row.at_8 cX2
    clear cX2
    go_wp2_with fail
    refine HT1.mono ?_
    clear HT1
    rintro e w3 ⟨hb3, ⟨hv, rfl⟩ | ⟨hv, hno, rfl⟩ | ⟨hv, x, v, hfi, hld, rfl⟩⟩
    all_goals
      have b3 := bX.trans (hb3.mono bX.size)
      have s3 := sX.below hb3 sX.lt
      have c3' := cX.below hb3 cX.lt
      have R3 := (RX.below hb3).more hb3.size
      have HL1 := HLe.out w3 R1 R3
      clear q0 q1 q2 q3 q4 q5 q6 q7 sX cX RX bX hb3
      obtain ⟨_, q0, q1, q2, q3, q4, q5, q6, q7⟩ := Row.at_8 c3'
    · go_wp2_with fail
      refine HL1.mono ?_
      clear HL1
      rintro e w4 ⟨hb4, ⟨_, rfl⟩ | ⟨hv2, rfl⟩⟩
      · have b4 := b3.trans (hb4.mono b3.size)
        go_wp2_with fail
        refine (Hfin.out _ b4).mono ?_
        rintro e w5 ⟨rfl, hb5⟩
        go_wp2_with fail
        go_ret
        exact ⟨rfl, hb5⟩
      · rw [hv] at hv2
        cases hv2
    · go_wp2_with fail
      refine HL1.mono ?_
      clear HL1
      rintro e w4 ⟨hb4, ⟨hv2, rfl⟩ | ⟨_, rfl⟩⟩
      · rw [hv] at hv2
        cases hv2
      · have b4 := b3.trans (hb4.mono b3.size)
        have s4 := s3.below hb4 s3.lt
        have c4 := c3'.below hb4 c3'.lt
        have R4 := (R3.below hb4).more hb4.size
        have hle := least_no hno
        obtain ⟨m, hm⟩ : ∃ m, m = (leastS r).1 := ⟨_, rfl⟩
        obtain ⟨m2, hm2⟩ : ∃ m2 : Int, m2 = ((leastS r).2.1 : Int) := ⟨_, rfl⟩
        obtain ⟨m3, hm3⟩ : ∃ m3 : Int, m3 = ((leastS r).2.2 : Int) := ⟨_, rfl⟩
        rw [← hm] at hle ⊢
        rw [← hm2, ← hm3]
        have hle' : decide (m < 0) = false := by simpa using hle
        obtain ⟨⟨a, er⟩, hae⟩ : ∃ q, q = momS r l ph line := ⟨_, rfl⟩
        have HMo : Hid (∀ X A5 c5, Below w4.heap.size w4 X → Reads X X.heap.size 1 A5 l.length (l.map Value.bool) → Calls Try.prog 37 #[rigV r R1, .slice A5 l.length c5, .int .i64 ph, .int .i64 line] X fun e w' => e = .returned (.tuple #[.int .i64 a, .int .i64 er]) ∧ Below X.heap.size X w') := fun X A5 c5 hX h2 =>
          (HMo0.out X R1 l A5 c5 ph line hln ((R4.below hX).more hX.size) h2).mono fun e w' h => by
            obtain ⟨h1, h2⟩ := h
            rw [← hae] at h1
            exact ⟨h1, h2⟩
        have Hge : Hid (er = 0 → 0 ≤ a) := fun h0 => no_low hv hno (by rw [← hae, h0])
        unfold rigV at HMo
        have HL := Lib.hid (fun (X : World) (hX : Below w4.heap.size w4 X) => Hl0.out X (b4.trans (hX.mono b4.size)))
        clear q0 q1 q2 q3 q4 q5 q6 q7 s3 c3' R3 b3 hb4 hno hae hm hm2 hm3
        obtain ⟨_, q0, q1, q2, q3, q4, q5, q6, q7⟩ := Row.at_8 c4
        go_upto_region 13 with (fail)
        clear hle hle' q0 q1 q2 q3 q4 q5 q6 q7
        refine wp_region_all 15 (w0 := w4) (ord := [0, 1, 2, 3, 4, 5, 6, 7, 8, 9, 10, 11, 12, 13, 14]) (ds := [(0, 88), (1, 89), (2, 90), (3, 91), (4, 92), (5, 93), (6, 94), (7, 95), (8, 96), (9, 97), (10, 87), (11, 98), (12, 99), (13, 17), (14, 18)]) (l := [isV ?vb0, isEmpty w4.heap.size 4 1, isV ?vb2, isV ?vb3, isOwn w4.heap.size 4 1 l.length (l.map Value.bool), isV ?vb5, isV ?vb6, isV ?vb7, isV ?vb8, isV (.tuple #[.int .i64 a, .int .i64 er]), isV ?vb10, isV ?vb11, isV ?vb12, isV ?vb13, isV ?vb14]) (by kernel_rfl) (by kernel_rfl) (by first | rfl | kernel_rfl) (AddSteps.cons (k := 0) (k' := 1) rfl ?sb0 (AddSteps.cons (k := 1) (k' := 2) rfl ?sb1 (AddSteps.cons (k := 2) (k' := 3) rfl ?sb2 (AddSteps.cons (k := 3) (k' := 4) rfl ?sb3 (AddSteps.cons (k := 4) (k' := 5) rfl ?sb4 (AddSteps.cons (k := 5) (k' := 6) rfl ?sb5 (AddSteps.cons (k := 6) (k' := 7) rfl ?sb6 (AddSteps.cons (k := 7) (k' := 8) rfl ?sb7 (AddSteps.cons (k := 8) (k' := 9) rfl ?sb8 (AddSteps.cons (k := 9) (k' := 10) rfl ?sb9 (AddSteps.cons (k := 10) (k' := 11) rfl ?sb10 (AddSteps.cons (k := 11) (k' := 12) rfl ?sb11 (AddSteps.cons (k := 12) (k' := 13) rfl ?sb12 (AddSteps.cons (k := 13) (k' := 14) rfl ?sb13 (AddSteps.cons (k := 14) (k' := 15) rfl ?sb14 AddSteps.nil))))))))))))))) ?stb ?finb
        case sb0 =>
          refine AddStep.go (o := ⟨some 88, _, _, _, _, _⟩) rfl rfl (fun xs y hy hV K hK => ?_)
          clear hV
          simp only [putsF, List.foldl_cons, List.foldl_nil, Act.put, List.setIfInBounds_toArray, List.set_cons_zero, List.set_cons_succ] at hK ⊢
          obtain ⟨_, q0, q1, q2, q3, q4, q5, q6, q7⟩ := Row.at_8 (c4.below hy c4.lt)
          obtain ⟨_, u0, u1, u2⟩ := Row.at_3 (s4.below hy s4.lt)
          go_wp2_with fail
          exact hK.out _ _ (Below.refl _ _) (by exact rfl)
        case sb1 =>
          refine AddStep.go (o := ⟨some 89, _, _, _, _, _⟩) rfl rfl (fun xs y hy hV K hK => ?_)
          clear hV
          simp only [putsF, List.foldl_cons, List.foldl_nil, Act.put, List.setIfInBounds_toArray, List.set_cons_zero, List.set_cons_succ] at hK ⊢
          go_wp2_with fail
          exact hK.out _ _ ((Below.refl _ _).alloc (Nat.le_refl _) _) (new_empty hy.size)
        case sb2 =>
          refine AddStep.go (o := ⟨some 90, _, _, _, _, _⟩) rfl rfl (fun xs y hy hV K hK => ?_)
          clear hV
          simp only [putsF, List.foldl_cons, List.foldl_nil, Act.put, List.setIfInBounds_toArray, List.set_cons_zero, List.set_cons_succ] at hK ⊢
          go_wp2_with fail
          exact hK.out _ _ (Below.refl _ _) (by exact rfl)
        case sb3 =>
          refine AddStep.go (o := ⟨some 91, _, _, _, _, _⟩) rfl rfl (fun xs y hy hV K hK => ?_)
          have e2 : xs 2 = _ := hV 2 (by kernel_rfl)
          clear hV
          simp only [putsF, List.foldl_cons, List.foldl_nil, Act.put, List.setIfInBounds_toArray, List.set_cons_zero, List.set_cons_succ] at hK ⊢
          simp only [e2] at hK ⊢
          clear e2
          obtain ⟨_, q0, q1, q2, q3, q4, q5, q6, q7⟩ := Row.at_8 (c4.below hy c4.lt)
          obtain ⟨_, u0, u1, u2⟩ := Row.at_3 (s4.below hy s4.lt)
          go_wp2_with fail
          exact hK.out _ _ (Below.refl _ _) (by exact rfl)
        case sb4 =>
          refine AddStep.go (o := ⟨some 92, _, _, _, _, _⟩) rfl rfl (fun xs y hy hV K hK => ?_)
          have h1 := (hV 1 (by kernel_rfl))
          have e3 : xs 3 = _ := hV 3 (by kernel_rfl)
          clear hV
          simp only [putsF, List.foldl_cons, List.foldl_nil, Act.put, List.setIfInBounds_toArray, List.set_cons_zero, List.set_cons_succ] at hK ⊢
          simp only [e3] at hK ⊢
          clear e3
          refine wp_app0 _ (.tmp 89) (.tmp 91) 64 (by rfl) w4.heap.size 4 i0 _ 1 1 Try.underlying64 hi hz0 hz1 hz2 rfl (by decide) _ (by rfl) h1 _ A3 l.length c3 (l.map Value.bool) (by rfl) (HL.out y hy) bools_one (by unfold maxLen; omega) (by omega) ?_
          intro v1 z ho hb
          exact hK.out _ _ hb ⟨ho, Nat.le_trans h1.2.2 hb.size⟩
        case sb5 =>
          refine AddStep.go (o := ⟨some 93, _, _, _, _, _⟩) rfl rfl (fun xs y hy hV K hK => ?_)
          clear hV
          simp only [putsF, List.foldl_cons, List.foldl_nil, Act.put, List.setIfInBounds_toArray, List.set_cons_zero, List.set_cons_succ] at hK ⊢
          go_wp2_with fail
          exact hK.out _ _ (Below.refl _ _) (by exact rfl)
        case sb6 =>
          refine AddStep.go (o := ⟨some 94, _, _, _, _, _⟩) rfl rfl (fun xs y hy hV K hK => ?_)
          have e5 : xs 5 = _ := hV 5 (by kernel_rfl)
          clear hV
          simp only [putsF, List.foldl_cons, List.foldl_nil, Act.put, List.setIfInBounds_toArray, List.set_cons_zero, List.set_cons_succ] at hK ⊢
          simp only [e5] at hK ⊢
          clear e5
          obtain ⟨_, q0, q1, q2, q3, q4, q5, q6, q7⟩ := Row.at_8 (c4.below hy c4.lt)
          obtain ⟨_, u0, u1, u2⟩ := Row.at_3 (s4.below hy s4.lt)
          go_wp2_with fail
          exact hK.out _ _ (Below.refl _ _) (by exact rfl)
        case sb7 =>
          refine AddStep.go (o := ⟨some 95, _, _, _, _, _⟩) rfl rfl (fun xs y hy hV K hK => ?_)
          clear hV
          simp only [putsF, List.foldl_cons, List.foldl_nil, Act.put, List.setIfInBounds_toArray, List.set_cons_zero, List.set_cons_succ] at hK ⊢
          go_wp2_with fail
          exact hK.out _ _ (Below.refl _ _) (by exact rfl)
        case sb8 =>
          refine AddStep.go (o := ⟨some 96, _, _, _, _, _⟩) rfl rfl (fun xs y hy hV K hK => ?_)
          have e7 : xs 7 = _ := hV 7 (by kernel_rfl)
          clear hV
          simp only [putsF, List.foldl_cons, List.foldl_nil, Act.put, List.setIfInBounds_toArray, List.set_cons_zero, List.set_cons_succ] at hK ⊢
          simp only [e7] at hK ⊢
          clear e7
          obtain ⟨_, q0, q1, q2, q3, q4, q5, q6, q7⟩ := Row.at_8 (c4.below hy c4.lt)
          obtain ⟨_, u0, u1, u2⟩ := Row.at_3 (s4.below hy s4.lt)
          go_wp2_with fail
          exact hK.out _ _ (Below.refl _ _) (by exact rfl)
        case sb9 =>
          refine AddStep.go (o := ⟨some 97, _, _, _, _, _⟩) rfl rfl (fun xs y hy hV K hK => ?_)
          have e0 : xs 0 = _ := hV 0 (by kernel_rfl)
          have h4 := (hV 4 (by kernel_rfl))
          obtain ⟨A4, c44, e4, hr4⟩ := own_reads h4.1
          clear h4
          have e6 : xs 6 = _ := hV 6 (by kernel_rfl)
          have e8 : xs 8 = _ := hV 8 (by kernel_rfl)
          clear hV
          simp only [putsF, List.foldl_cons, List.foldl_nil, Act.put, List.setIfInBounds_toArray, List.set_cons_zero, List.set_cons_succ] at hK ⊢
          simp only [e0, e4, e6, e8] at hK ⊢
          clear e0 e4 e6 e8
          go_wp2_with (go_at_call 37; refine (HMo.out y A4 c44 hy hr4).mono ?_; rintro e z ⟨rfl, hz⟩)
          exact hK.out _ _ hz (by exact rfl)
        case sb10 =>
          refine AddStep.go (o := ⟨some 87, _, _, _, _, _⟩) rfl rfl (fun xs y hy hV K hK => ?_)
          have e9 : xs 9 = .tuple #[.int .i64 a, .int .i64 er] := (hV 9 (by kernel_rfl))
          clear hV
          simp only [putsF, List.foldl_cons, List.foldl_nil, Act.put, List.setIfInBounds_toArray, List.set_cons_zero, List.set_cons_succ] at hK ⊢
          simp only [e9] at hK ⊢
          clear e9
          go_wp2_with fail
          exact hK.out _ _ (Below.refl _ _) (by exact rfl)
        case sb11 =>
          refine AddStep.go (o := ⟨some 98, _, _, _, _, _⟩) rfl rfl (fun xs y hy hV K hK => ?_)
          have e10 : xs 10 = _ := hV 10 (by kernel_rfl)
          clear hV
          simp only [putsF, List.foldl_cons, List.foldl_nil, Act.put, List.setIfInBounds_toArray, List.set_cons_zero, List.set_cons_succ] at hK ⊢
          simp only [e10] at hK ⊢
          clear e10
          go_wp2_with fail
          exact hK.out _ _ (Below.refl _ _) (by exact rfl)
        case sb12 =>
          refine AddStep.go (o := ⟨some 99, _, _, _, _, _⟩) rfl rfl (fun xs y hy hV K hK => ?_)
          have e10 : xs 10 = _ := hV 10 (by kernel_rfl)
          clear hV
          simp only [putsF, List.foldl_cons, List.foldl_nil, Act.put, List.setIfInBounds_toArray, List.set_cons_zero, List.set_cons_succ] at hK ⊢
          simp only [e10] at hK ⊢
          clear e10
          go_wp2_with fail
          exact hK.out _ _ (Below.refl _ _) (by exact rfl)
        case sb13 =>
          refine AddStep.go (o := ⟨some 17, _, _, _, _, _⟩) rfl rfl (fun xs y hy hV K hK => ?_)
          have e11 : xs 11 = _ := hV 11 (by kernel_rfl)
          clear hV
          simp only [putsF, List.foldl_cons, List.foldl_nil, Act.put, List.setIfInBounds_toArray, List.set_cons_zero, List.set_cons_succ] at hK ⊢
          simp only [e11] at hK ⊢
          clear e11
          go_wp2_with fail
          exact hK.out _ _ (Below.refl _ _) (by exact rfl)
        case sb14 =>
          refine AddStep.go (o := ⟨some 18, _, _, _, _, _⟩) rfl rfl (fun xs y hy hV K hK => ?_)
          have e12 : xs 12 = _ := hV 12 (by kernel_rfl)
          clear hV
          simp only [putsF, List.foldl_cons, List.foldl_nil, Act.put, List.setIfInBounds_toArray, List.set_cons_zero, List.set_cons_succ] at hK ⊢
          simp only [e12] at hK ⊢
          clear e12
          go_wp2_with fail
          exact hK.out _ _ (Below.refl _ _) (by exact rfl)
        case stb => exact (AllSt.cons (stable_isV _) (AllSt.cons (stable_isEmpty _ _ _) (AllSt.cons (stable_isV _) (AllSt.cons (stable_isV _) (AllSt.cons (stable_isOwn _ _ _ _ _) (AllSt.cons (stable_isV _) (AllSt.cons (stable_isV _) (AllSt.cons (stable_isV _) (AllSt.cons (stable_isV _) (AllSt.cons (stable_isV _) (AllSt.cons (stable_isV _) (AllSt.cons (stable_isV _) (AllSt.cons (stable_isV _) (AllSt.cons (stable_isV _) (AllSt.cons (stable_isV _) AllSt.nil)))))))))))))))
        case finb =>
          intro xs y hy hV
          have e0 : xs 0 = _ := hV 0 (by decide)
          have h1 := (hV 1 (by decide))
          have e2 : xs 2 = _ := hV 2 (by decide)
          have e3 : xs 3 = _ := hV 3 (by decide)
          have h4 := (hV 4 (by decide))
          obtain ⟨A4, c44, e4, hr4⟩ := own_reads h4.1
          clear h4
          have e5 : xs 5 = _ := hV 5 (by decide)
          have e6 : xs 6 = _ := hV 6 (by decide)
          have e7 : xs 7 = _ := hV 7 (by decide)
          have e8 : xs 8 = _ := hV 8 (by decide)
          have e9 : xs 9 = .tuple #[.int .i64 a, .int .i64 er] := (hV 9 (by decide))
          have e10 : xs 10 = _ := hV 10 (by decide)
          have e11 : xs 11 = _ := hV 11 (by decide)
          have e12 : xs 12 = _ := hV 12 (by decide)
          have e13 : xs 13 = _ := hV 13 (by decide)
          have e14 : xs 14 = _ := hV 14 (by decide)
          clear hV
          simp only [putsF, List.foldl_cons, List.foldl_nil, Act.put, List.setIfInBounds_toArray, List.set_cons_zero, List.set_cons_succ]
          simp only [e0, e2, e3, e4, e5, e6, e7, e8, e9, e10, e11, e12, e13, e14]
          clear e0 e2 e3 e4 e5 e6 e7 e8 e9 e10 e11 e12 e13 e14
          have b5 := b4.trans (hy.mono b4.size)
          by_cases h0 : er = 0
          · subst h0
            have ha := Hge.out rfl
            have ha' : decide (0 ≤ a) = true := by simpa using ha
            go_wp2_with fail
            refine (Hfin.out _ b5).mono ?_
            rintro e w6 ⟨rfl, hb6⟩
            go_wp2_with fail
            go_ret
            exact ⟨rfl, hb6⟩
          · have h0' : (er != 0) = true := by simpa using h0
            go_wp2_with fail
            refine (Hfin.out _ b5).mono ?_
            rintro e w6 ⟨rfl, hb6⟩
            go_wp2_with fail
            go_ret
            exact ⟨rfl, hb6⟩
    · obtain ⟨n0, g0, hfew, rfl, hg0, hrow⟩ := hld
      go_wp2_with fail
      refine HL1.mono ?_
      clear HL1
      rintro e w4 ⟨hb4, ⟨hv2, rfl⟩ | ⟨_, rfl⟩⟩
      · rw [hv] at hv2
        cases hv2
      · have b4 := b3.trans (hb4.mono b3.size)
        have c4 := c3'.below hb4 c3'.lt
        have R4 := (R3.below hb4).more hb4.size
        have l4 := hrow.below hb4 hrow.lt
        have hle := least_low hfi
        obtain ⟨hp, hk, hng⟩ := first_at hfi
        have hlow := tips_low hng hfew
        have hldl : (progSel (ridersZ r x.2.1 x.2.2) (momZ r (fun _ => false) x.2.1 x.2.2) n0).length = r.seats.length := by rw [progSel_len, ridersZ_len]
        obtain ⟨ld, hld⟩ : ∃ ld, ld = progSel (ridersZ r x.2.1 x.2.2) (momZ r (fun _ => false) x.2.1 x.2.2) n0 := ⟨_, rfl⟩
        rw [← hld] at hlow hldl l4
        obtain ⟨m, hm⟩ : ∃ m, m = (leastS r).1 := ⟨_, rfl⟩
        obtain ⟨m2, hm2⟩ : ∃ m2 : Int, m2 = ((leastS r).2.1 : Int) := ⟨_, rfl⟩
        obtain ⟨m3, hm3⟩ : ∃ m3 : Int, m3 = ((leastS r).2.2 : Int) := ⟨_, rfl⟩
        rw [← hm] at hle ⊢
        rw [← hm2, ← hm3]
        have hle' : decide (m < 0) = true := by simpa using hle
        obtain ⟨a, ha0⟩ : ∃ a, a = momZ r (ldF ld) x.2.1 x.2.2 := ⟨_, rfl⟩
        rw [← ha0] at hlow
        obtain ⟨er, her⟩ : ∃ er : Int, er = 0 := ⟨_, rfl⟩
        have HMo : Hid (∀ X A5 c5, Below w4.heap.size w4 X → Reads X X.heap.size 1 A5 r.seats.length (ld.map Value.bool) → Calls Try.prog 37 #[rigV r R1, .slice A5 r.seats.length c5, .int .i64 (x.2.1 : Int), .int .i64 (x.2.2 : Int)] X fun e w' => e = .returned (.tuple #[.int .i64 a, .int .i64 er]) ∧ Below X.heap.size X w') := fun X A5 c5 hX h2 => by
          rw [← hldl] at h2 ⊢
          refine (HMo0.out X R1 ld A5 c5 x.2.1 x.2.2 (by unfold maxLen; omega) ((R4.below hX).more hX.size) h2).mono fun e w' h => ?_
          obtain ⟨h1, h2⟩ := h
          rw [momS_ok hv hldl hp hk, ← ha0, ← her] at h1
          exact ⟨h1, h2⟩
        unfold rigV at HMo
        have HLd : Hid (∀ X, Below w4.heap.size w4 X → Reads X X.heap.size 1 (some ⟨g0, 0, none⟩) r.seats.length (ld.map Value.bool)) := fun X hX => by
          have h := l4.below hX l4.lt
          exact h.reads (by simp [hldl]) h.lt
        have Hlow := Lib.hid hlow
        have Her := Lib.hid her
        clear her
        clear q0 q1 q2 q3 q4 q5 q6 q7 s3 c3' R3 b3 hb4 hrow hfew hfi hng hld hldl l4 ha0 hm hm2 hm3 hp hk hg0 hlow
        obtain ⟨_, q0, q1, q2, q3, q4, q5, q6, q7⟩ := Row.at_8 c4
        go_upto_region 11 with (fail)
        clear hle hle' q0 q1 q2 q3 q4 q5 q6 q7
        refine wp_region_all 12 (w0 := w4) (ord := [0, 1, 2, 3, 4, 5, 6, 7, 8, 9, 10, 11]) (ds := [(0, 69), (1, 70), (2, 71), (3, 72), (4, 73), (5, 74), (6, 75), (7, 68), (8, 76), (9, 77), (10, 15), (11, 16)]) (l := [isV ?va0, isEmpty w4.heap.size 4 1, isV ?va2, isOwn w4.heap.size 4 1 r.seats.length (ld.map Value.bool), isV ?va4, isV ?va5, isV (.tuple #[.int .i64 a, .int .i64 er]), isV ?va7, isV ?va8, isV ?va9, isV ?va10, isV ?va11]) (by kernel_rfl) (by kernel_rfl) (by first | rfl | kernel_rfl) (AddSteps.cons (k := 0) (k' := 1) rfl ?sa0 (AddSteps.cons (k := 1) (k' := 2) rfl ?sa1 (AddSteps.cons (k := 2) (k' := 3) rfl ?sa2 (AddSteps.cons (k := 3) (k' := 4) rfl ?sa3 (AddSteps.cons (k := 4) (k' := 5) rfl ?sa4 (AddSteps.cons (k := 5) (k' := 6) rfl ?sa5 (AddSteps.cons (k := 6) (k' := 7) rfl ?sa6 (AddSteps.cons (k := 7) (k' := 8) rfl ?sa7 (AddSteps.cons (k := 8) (k' := 9) rfl ?sa8 (AddSteps.cons (k := 9) (k' := 10) rfl ?sa9 (AddSteps.cons (k := 10) (k' := 11) rfl ?sa10 (AddSteps.cons (k := 11) (k' := 12) rfl ?sa11 AddSteps.nil)))))))))))) ?sta ?fina
        case sa0 =>
          refine AddStep.go (o := ⟨some 69, _, _, _, _, _⟩) rfl rfl (fun xs y hy hV K hK => ?_)
          clear hV
          simp only [putsF, List.foldl_cons, List.foldl_nil, Act.put, List.setIfInBounds_toArray, List.set_cons_zero, List.set_cons_succ] at hK ⊢
          obtain ⟨_, q0, q1, q2, q3, q4, q5, q6, q7⟩ := Row.at_8 (c4.below hy c4.lt)
          go_wp2_with fail
          exact hK.out _ _ (Below.refl _ _) (by exact rfl)
        case sa1 =>
          refine AddStep.go (o := ⟨some 70, _, _, _, _, _⟩) rfl rfl (fun xs y hy hV K hK => ?_)
          clear hV
          simp only [putsF, List.foldl_cons, List.foldl_nil, Act.put, List.setIfInBounds_toArray, List.set_cons_zero, List.set_cons_succ] at hK ⊢
          go_wp2_with fail
          exact hK.out _ _ ((Below.refl _ _).alloc (Nat.le_refl _) _) (new_empty hy.size)
        case sa2 =>
          refine AddStep.go (o := ⟨some 71, _, _, _, _, _⟩) rfl rfl (fun xs y hy hV K hK => ?_)
          clear hV
          simp only [putsF, List.foldl_cons, List.foldl_nil, Act.put, List.setIfInBounds_toArray, List.set_cons_zero, List.set_cons_succ] at hK ⊢
          go_wp2_with fail
          exact hK.out _ _ (Below.refl _ _) (by exact rfl)
        case sa3 =>
          refine AddStep.go (o := ⟨some 72, _, _, _, _, _⟩) rfl rfl (fun xs y hy hV K hK => ?_)
          have h1 := (hV 1 (by kernel_rfl))
          have e2 : xs 2 = _ := hV 2 (by kernel_rfl)
          clear hV
          simp only [putsF, List.foldl_cons, List.foldl_nil, Act.put, List.setIfInBounds_toArray, List.set_cons_zero, List.set_cons_succ] at hK ⊢
          simp only [e2] at hK ⊢
          clear e2
          refine wp_app0 _ (.tmp 70) (.tmp 71) 64 (by rfl) w4.heap.size 4 i0 _ 1 1 Try.underlying64 hi hz0 hz1 hz2 rfl (by decide) _ (by rfl) h1 _ (some ⟨g0, 0, none⟩) r.seats.length r.seats.length (ld.map Value.bool) (by rfl) (HLd.out y hy) bools_one (by unfold maxLen; omega) (by omega) ?_
          intro v1 z ho hb
          exact hK.out _ _ hb ⟨ho, Nat.le_trans h1.2.2 hb.size⟩
        case sa4 =>
          refine AddStep.go (o := ⟨some 73, _, _, _, _, _⟩) rfl rfl (fun xs y hy hV K hK => ?_)
          clear hV
          simp only [putsF, List.foldl_cons, List.foldl_nil, Act.put, List.setIfInBounds_toArray, List.set_cons_zero, List.set_cons_succ] at hK ⊢
          go_wp2_with fail
          exact hK.out _ _ (Below.refl _ _) (by exact rfl)
        case sa5 =>
          refine AddStep.go (o := ⟨some 74, _, _, _, _, _⟩) rfl rfl (fun xs y hy hV K hK => ?_)
          clear hV
          simp only [putsF, List.foldl_cons, List.foldl_nil, Act.put, List.setIfInBounds_toArray, List.set_cons_zero, List.set_cons_succ] at hK ⊢
          go_wp2_with fail
          exact hK.out _ _ (Below.refl _ _) (by exact rfl)
        case sa6 =>
          refine AddStep.go (o := ⟨some 75, _, _, _, _, _⟩) rfl rfl (fun xs y hy hV K hK => ?_)
          have e0 : xs 0 = _ := hV 0 (by kernel_rfl)
          have h3 := (hV 3 (by kernel_rfl))
          obtain ⟨A3, c3, e3, hr3⟩ := own_reads h3.1
          clear h3
          have e4 : xs 4 = _ := hV 4 (by kernel_rfl)
          have e5 : xs 5 = _ := hV 5 (by kernel_rfl)
          clear hV
          simp only [putsF, List.foldl_cons, List.foldl_nil, Act.put, List.setIfInBounds_toArray, List.set_cons_zero, List.set_cons_succ] at hK ⊢
          simp only [e0, e3, e4, e5] at hK ⊢
          clear e0 e3 e4 e5
          go_wp2_with (go_at_call 37; refine (HMo.out y A3 c3 hy hr3).mono ?_; rintro e z ⟨rfl, hz⟩)
          exact hK.out _ _ hz (by exact rfl)
        case sa7 =>
          refine AddStep.go (o := ⟨some 68, _, _, _, _, _⟩) rfl rfl (fun xs y hy hV K hK => ?_)
          have e6 : xs 6 = .tuple #[.int .i64 a, .int .i64 er] := (hV 6 (by kernel_rfl))
          clear hV
          simp only [putsF, List.foldl_cons, List.foldl_nil, Act.put, List.setIfInBounds_toArray, List.set_cons_zero, List.set_cons_succ] at hK ⊢
          simp only [e6] at hK ⊢
          clear e6
          go_wp2_with fail
          exact hK.out _ _ (Below.refl _ _) (by exact rfl)
        case sa8 =>
          refine AddStep.go (o := ⟨some 76, _, _, _, _, _⟩) rfl rfl (fun xs y hy hV K hK => ?_)
          have e7 : xs 7 = _ := hV 7 (by kernel_rfl)
          clear hV
          simp only [putsF, List.foldl_cons, List.foldl_nil, Act.put, List.setIfInBounds_toArray, List.set_cons_zero, List.set_cons_succ] at hK ⊢
          simp only [e7] at hK ⊢
          clear e7
          go_wp2_with fail
          exact hK.out _ _ (Below.refl _ _) (by exact rfl)
        case sa9 =>
          refine AddStep.go (o := ⟨some 77, _, _, _, _, _⟩) rfl rfl (fun xs y hy hV K hK => ?_)
          have e7 : xs 7 = _ := hV 7 (by kernel_rfl)
          clear hV
          simp only [putsF, List.foldl_cons, List.foldl_nil, Act.put, List.setIfInBounds_toArray, List.set_cons_zero, List.set_cons_succ] at hK ⊢
          simp only [e7] at hK ⊢
          clear e7
          go_wp2_with fail
          exact hK.out _ _ (Below.refl _ _) (by exact rfl)
        case sa10 =>
          refine AddStep.go (o := ⟨some 15, _, _, _, _, _⟩) rfl rfl (fun xs y hy hV K hK => ?_)
          have e8 : xs 8 = _ := hV 8 (by kernel_rfl)
          clear hV
          simp only [putsF, List.foldl_cons, List.foldl_nil, Act.put, List.setIfInBounds_toArray, List.set_cons_zero, List.set_cons_succ] at hK ⊢
          simp only [e8] at hK ⊢
          clear e8
          go_wp2_with fail
          exact hK.out _ _ (Below.refl _ _) (by exact rfl)
        case sa11 =>
          refine AddStep.go (o := ⟨some 16, _, _, _, _, _⟩) rfl rfl (fun xs y hy hV K hK => ?_)
          have e9 : xs 9 = _ := hV 9 (by kernel_rfl)
          clear hV
          simp only [putsF, List.foldl_cons, List.foldl_nil, Act.put, List.setIfInBounds_toArray, List.set_cons_zero, List.set_cons_succ] at hK ⊢
          simp only [e9] at hK ⊢
          clear e9
          go_wp2_with fail
          exact hK.out _ _ (Below.refl _ _) (by exact rfl)
        case sta => exact (AllSt.cons (stable_isV _) (AllSt.cons (stable_isEmpty _ _ _) (AllSt.cons (stable_isV _) (AllSt.cons (stable_isOwn _ _ _ _ _) (AllSt.cons (stable_isV _) (AllSt.cons (stable_isV _) (AllSt.cons (stable_isV _) (AllSt.cons (stable_isV _) (AllSt.cons (stable_isV _) (AllSt.cons (stable_isV _) (AllSt.cons (stable_isV _) (AllSt.cons (stable_isV _) AllSt.nil))))))))))))
        case fina =>
          intro xs y hy hV
          have e0 : xs 0 = _ := hV 0 (by decide)
          have h1 := (hV 1 (by decide))
          have e2 : xs 2 = _ := hV 2 (by decide)
          have h3 := (hV 3 (by decide))
          obtain ⟨A3, c3, e3, hr3⟩ := own_reads h3.1
          clear h3
          have e4 : xs 4 = _ := hV 4 (by decide)
          have e5 : xs 5 = _ := hV 5 (by decide)
          have e6 : xs 6 = .tuple #[.int .i64 a, .int .i64 er] := (hV 6 (by decide))
          have e7 : xs 7 = _ := hV 7 (by decide)
          have e8 : xs 8 = _ := hV 8 (by decide)
          have e9 : xs 9 = _ := hV 9 (by decide)
          have e10 : xs 10 = _ := hV 10 (by decide)
          have e11 : xs 11 = _ := hV 11 (by decide)
          clear hV
          simp only [putsF, List.foldl_cons, List.foldl_nil, Act.put, List.setIfInBounds_toArray, List.set_cons_zero, List.set_cons_succ]
          simp only [e0, e2, e3, e4, e5, e6, e7, e8, e9, e10, e11]
          clear e0 e2 e3 e4 e5 e6 e7 e8 e9 e10 e11
          have her := Her.out
          subst her
          have b5 := b4.trans (hy.mono b4.size)
          have ha' : decide (a < 0) = true := by simpa using Hlow.out
          have ha := Hlow.out
          go_wp2_with fail
          refine (Hfin.out _ b5).mono ?_
          rintro e w6 ⟨rfl, hb6⟩
          go_wp2_with fail
          go_ret
          exact ⟨rfl, hb6⟩
end Go.Proofs.Ytkmiapfkebdpbaa
