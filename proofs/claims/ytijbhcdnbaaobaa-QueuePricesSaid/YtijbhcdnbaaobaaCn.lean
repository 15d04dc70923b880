/- The walk of QueuePrices. Conditions: an evening, groups and prices that read as data. -/
import Derived.Test.YtijbhcdnbaaobaaCm
import Derived.Test.YtijbhcdnbaaobaaYr
namespace Go.Proofs.Ytijbhcdnbaaobaa
open Go.RowKit

/-- What has come up in the call of Price. -/
structure PriI (U : World) (f : EveZ) (l : List GrpZ) (zs : List Int) (ride : Int) (A A2 A3 : Option Addr) (c c2 c3 gb : Nat) (t1 t2 t3 : Int) (done : Nat → Bool) (xs : Nat → Value) (y : World) : Prop where
  b : Below U.heap.size U y
  m1 : done 1 = true → done 10 = false → ∃ A4 c4, xs 1 = .agg #[.slice A4 f.rides.length c4, .int .i64 f.walk] ∧ Reads y y.heap.size 5 A4 f.rides.length (bthCells f.rides)
  m3 : done 3 = true → done 10 = false → ∃ A5 c5 rs5, xs 3 = .slice A5 l.length c5 ∧ GrpsIn y y.heap.size A5 rs5 l
  m6 : done 6 = true → done 9 = false → isEmpty U.heap.size 3 1 (xs 6) y
  m9 : done 9 = true → done 10 = false → ∃ A7 c7, xs 9 = .slice A7 zs.length c7 ∧ Reads y y.heap.size 1 A7 zs.length (zs.map (Value.int .i64))
  v0 : done 0 = true → xs 0 = .agg #[.slice A f.rides.length c, .int .i64 f.walk]
  v2 : done 2 = true → xs 2 = .slice A2 l.length c2
  v4 : done 4 = true → xs 4 = .pointer (some ⟨gb, 0, none⟩)
  v5 : done 5 = true → xs 5 = .int .i64 ride
  v7 : done 7 = true → xs 7 = .pointer (some ⟨gb, 1, none⟩)
  v8 : done 8 = true → xs 8 = .slice A3 zs.length c3
  v10 : done 10 = true → xs 10 = .tuple #[.int .i64 t1, .int .i64 t2, .int .i64 t3]
  v11 : done 11 = true → xs 11 = .tuple #[.int .i64 t1, .int .i64 t2, .int .i64 t3]
  v12 : done 12 = true → xs 12 = .int .i64 t1
  v13 : done 13 = true → xs 13 = .int .i64 t2
  v14 : done 14 = true → xs 14 = .int .i64 t3
  v15 : done 15 = true → xs 15 = .int .i64 t1
  v16 : done 16 = true → xs 16 = .int .i64 t2
  v17 : done 17 = true → xs 17 = .int .i64 t3
/-- What has come up in the call of Takes. -/
structure TakI (U : World) (f : EveZ) (l : List GrpZ) (L : List Int) (A2 : Option Addr) (c2 c5 g : Nat) (done : Nat → Bool) (xs : Nat → Value) (y : World) : Prop where
  b : Below U.heap.size U y
  m2 : done 2 = true → done 3 = false → ∃ A5 c5 rs5, xs 2 = .slice A5 l.length c5 ∧ GrpsIn y y.heap.size A5 rs5 l
  m3 : done 3 = true → ∃ A6 c6, xs 3 = .tuple #[.slice A6 L.length c6, .int .i64 0] ∧ Reads y y.heap.size 1 A6 L.length (L.map (Value.int .i64)) ∧ (done 4 = true → xs 4 = .tuple #[.slice A6 L.length c6, .int .i64 0]) ∧ (done 5 = true → xs 5 = .slice A6 L.length c6) ∧ (done 7 = true → xs 7 = .slice A6 L.length c6)
  v0 : done 0 = true → xs 0 = .agg #[.slice (some ⟨g, 0, none⟩) f.rides.length c5, .int .i64 f.walk]
  v1 : done 1 = true → xs 1 = .slice A2 l.length c2
  v6 : done 6 = true → xs 6 = .int .i64 0
  v8 : done 8 = true → xs 8 = .int .i64 0
theorem prR_ok {f : EveZ} {l : List GrpZ} {ride : Int} {zs : List Int} {t1 t2 : Int} (h : (t1, t2, (0 : Int)) = prR f l ride zs) : checkQ f l = 0 ∧ prOk f ride zs = true ∧ BestP (prS f l ride.toNat) zs t1 t2 := by
  unfold prR at h
  by_cases hc : checkQ f l = 0
  · rw [if_neg (by rw [hc]; simp)] at h
    by_cases hk : prOk f ride zs = false
    · rw [if_pos hk] at h
      simp at h
    · rw [if_neg hk] at h
      have hk' : prOk f ride zs = true := by simpa using hk
      obtain ⟨-, ⟨k3, -⟩, k5⟩ := prOk_get hk'
      have hb := rp_best (prS f l ride.toNat) zs (fun z h => (k5 z h).1) (zs.length - 1) (by omega)
      rw [show zs.length - 1 + 1 = zs.length by omega, List.take_length] at hb
      simp only [Prod.mk.injEq, and_true] at h
      rw [h.1, h.2]
      exact ⟨hc, hk', hb⟩
  · rw [if_pos hc] at h
    simp only [Prod.mk.injEq] at h
    exact absurd h.2.2.symm hc
set_option maxRecDepth 100000 in
set_option maxHeartbeats 4000000 in
theorem qprices_walk (f : EveZ) (l : List GrpZ) (ride : Int) (zs : List Int) (A A2 A3 : Option Addr) (c c2 c3 B : Nat) (rs : List (Option Addr × Nat)) (w : World) (hB : B ≤ w.heap.size) (hr : Reads w B 5 A f.rides.length (bthCells f.rides)) (hn : f.rides.length ≤ maxLen) (hl : GrpsIn w B A2 rs l) (hz : Reads w B 1 A3 zs.length (zs.map (Value.int .i64))) (hzl : zs.length ≤ maxLen) :
    Calls Try.prog 8 #[eveV f A c, .slice A2 l.length c2, .agg #[.int .i64 ride, .slice A3 zs.length c3]] w (TrueP w) := by
  obtain ⟨W, hW⟩ : ∃ W, W = (w.alloc (.cells #[.slice A f.rides.length c, .int .i64 f.walk] 24)).alloc (.cells #[.int .i64 ride, .slice A3 zs.length c3] 44) := ⟨_, rfl⟩
  have bW : Below w.heap.size w W := by subst hW; exact ((Below.refl _ _).alloc (Nat.le_refl _) _).alloc (by simp) _
  have r0 : Row W w.heap.size 24 [.slice A f.rides.length c, .int .i64 f.walk] := by subst hW; exact (Row.new w _ _).alloc _
  have r1 : Row W (w.heap.size + 1) 44 [.int .i64 ride, .slice A3 zs.length c3] := by
    subst hW
    have := Row.new (w.alloc (.cells #[.slice A f.rides.length c, .int .i64 f.walk] 24)) 44 #[.int .i64 ride, .slice A3 zs.length c3]
    rw [World.size_alloc] at this
    exact this
  have q0 : W.cell? ⟨w.heap.size, 0, none⟩ = some (.slice A f.rides.length c) := r0.cell (j := 0) (by simp)
  have q1 : W.cell? ⟨w.heap.size, 1, none⟩ = some (.int .i64 f.walk) := r0.cell (j := 1) (by simp)
  have z0 := r0.lt
  have z1 := r1.lt
  have HR : Hid (∀ X, Below w.heap.size w X → B ≤ X.heap.size ∧ Reads X B 5 A f.rides.length (bthCells f.rides) ∧ GrpsIn X B A2 rs l ∧ Reads X B 1 A3 zs.length (zs.map (Value.int .i64))) := fun X hX => ⟨Nat.le_trans hB hX.size, hr.below (hX.mono hB), hl.below (hX.mono hB), hz.below (hX.mono hB)⟩
  have HF := Lib.hid (far_any f l A A2 c c2 B rs W (HR.out W bW).1 hn (HR.out W bW).2.2.1)
  have Hfin : Hid (∀ X : World, Below w.heap.size w X → Calls Try.prog 16 #[] X fun e w' => e = .returned (.bool true) ∧ Below w.heap.size w w') := fun X hX => (works_any X).mono fun _ _ h => ⟨h.1, hX.trans (h.2.mono hX.size)⟩
  unfold eveV at HF ⊢
  clear hr hl hz
  go_enter Try.func8, Try.ntmps8
  go_upto_region 1 with (fail)
  rw [← hW]
  clear hW
  cases hfb : farB f l with
  | true =>
    rw [hfb] at HF
    go_wp2_with (first | (go_at_call 15; refine HF.out.mono ?_; rintro e w1 ⟨rfl, hb1⟩; have b1 := bW.trans (hb1.mono bW.size); clear hb1) | (go_at_call 16; refine (Hfin.out _ b1).mono ?_; rintro e w2 ⟨rfl, hb2⟩; have HB2 := Lib.hid hb2; clear hb2))
    go_ret
    exact ⟨rfl, HB2.out⟩
  | false =>
    rw [hfb] at HF
    obtain ⟨n1, n2, n3⟩ := far_not hfb
    have HC : Hid (∀ X, Below w.heap.size w X → Calls Try.prog 18 #[eveV f A c] X (EveTo X f)) := fun X hX => rCopy_any f A c B X (HR.out X hX).1 (HR.out X hX).2.1 (by omega)
    have HG : Hid (∀ X, Below w.heap.size w X → Calls Try.prog 19 #[.slice A2 l.length c2] X (GrpTo X l)) := fun X hX => rCopyGroups_any l A2 c2 B rs X (HR.out X hX).1 (HR.out X hX).2.2.1 (by omega) (fun i hi => by have := n3 i hi; omega)
    obtain ⟨t, ht⟩ : ∃ t, t = prR f l ride zs := ⟨_, rfl⟩
    have HT : Hid (∀ (X : World) (A1 A4 A7 : Option Addr) (c1 c4 c7 : Nat) (rs3 : List (Option Addr × Nat)), Reads X X.heap.size 5 A1 f.rides.length (bthCells f.rides) → GrpsIn X X.heap.size A4 rs3 l → Reads X X.heap.size 1 A7 zs.length (zs.map (Value.int .i64)) → Calls Try.prog 36 #[eveV f A1 c1, .slice A4 l.length c4, .int .i64 ride, .slice A7 zs.length c7] X fun e w' => e = .returned (.tuple #[.int .i64 t.1, .int .i64 t.2.1, .int .i64 t.2.2]) ∧ Below X.heap.size X w') := fun X A1 A4 A7 c1 c4 c7 rs3 h4 h5 h6 => by
      rw [ht]
      exact Price_any f l A1 A4 c1 c4 X.heap.size rs3 A7 c7 zs ride X (Nat.le_refl _) h4 hn h5 h6 hzl
    have HH : Hid (zs.length ≤ 40 → ∀ X, Below w.heap.size w X → Calls Try.prog 37 #[eveV f A c, .slice A2 l.length c2, .int .i64 ride, .slice A3 zs.length c3] X fun e w' => e = .returned (.tuple #[.int .i64 t.1, .int .i64 t.2.1, .int .i64 t.2.2]) ∧ Below X.heap.size X w') := fun h40 X hX => by
      rw [ht]
      exact rPrice_any f l A A2 c c2 B rs A3 c3 zs ride X (HR.out X hX).1 (HR.out X hX).2.1 hn (HR.out X hX).2.2.1 (HR.out X hX).2.2.2 h40
    unfold eveV at HC HT HH
    obtain ⟨t1, t2, t3⟩ := t
    have HTT := Lib.hid ht
    clear hfb ht n2 n3
    obtain ⟨v0, hv0⟩ : ∃ v0, v0 = decide ((6 < zs.length ∧ zs.length ≤ 20) ∨ 40 < zs.length) := ⟨_, rfl⟩
    have HV := Lib.hid hv0
    clear hv0
    go_cut [39] (fun s wy => s = .bool v0 ∧ Below W.heap.size W wy)
    case first =>
      by_cases g1 : (6 : Int) < (zs.length : Int)
      · by_cases g2 : (zs.length : Int) ≤ 20
        · go_wp2_with (go_at_call 15; refine HF.out.mono ?_; rintro e w1 ⟨rfl, hb1⟩; have r4 := r1.below hb1 z1; have u1 : w1.cell? ⟨w.heap.size + 1, 1, none⟩ = some (.slice A3 zs.length c3) := r4.cell (j := 1) (by simp); have l4 := r4.lt; have B1 := Lib.hid hb1; clear hb1 r4)
          go_meet
          exact ⟨congrArg Value.bool ((HV.out.trans (decide_eq_true (by omega))).symm), B1.out⟩
        · by_cases g3 : (40 : Int) < (zs.length : Int)
          · go_wp2_with (go_at_call 15; refine HF.out.mono ?_; rintro e w1 ⟨rfl, hb1⟩; have r4 := r1.below hb1 z1; have u1 : w1.cell? ⟨w.heap.size + 1, 1, none⟩ = some (.slice A3 zs.length c3) := r4.cell (j := 1) (by simp); have l4 := r4.lt; have B1 := Lib.hid hb1; clear hb1 r4)
            go_meet
            exact ⟨congrArg Value.bool ((HV.out.trans (decide_eq_true (by omega))).symm), B1.out⟩
          · go_wp2_with (go_at_call 15; refine HF.out.mono ?_; rintro e w1 ⟨rfl, hb1⟩; have r4 := r1.below hb1 z1; have u1 : w1.cell? ⟨w.heap.size + 1, 1, none⟩ = some (.slice A3 zs.length c3) := r4.cell (j := 1) (by simp); have l4 := r4.lt; have B1 := Lib.hid hb1; clear hb1 r4)
            go_meet
            exact ⟨congrArg Value.bool (by rw [HV.out, Bool.eq_iff_iff]; simp only [Bool.or_eq_true, decide_eq_true_eq]; omega), B1.out⟩
      · have g3 : ¬ (40 : Int) < (zs.length : Int) := by omega
        go_wp2_with (go_at_call 15; refine HF.out.mono ?_; rintro e w1 ⟨rfl, hb1⟩; have r4 := r1.below hb1 z1; have u1 : w1.cell? ⟨w.heap.size + 1, 1, none⟩ = some (.slice A3 zs.length c3) := r4.cell (j := 1) (by simp); have l4 := r4.lt; have B1 := Lib.hid hb1; clear hb1 r4)
        go_meet
        exact ⟨congrArg Value.bool (by rw [HV.out, Bool.eq_iff_iff]; simp only [decide_eq_true_eq]; omega), B1.out⟩
    case rest =>
      obtain ⟨rfl, hb1⟩ := hcut
      obtain ⟨w2, rfl⟩ : ∃ x : World, x = wc := ⟨_, rfl⟩
      have b2 := bW.trans (hb1.mono bW.size)
      have r3 := r0.below hb1 z0
      have r4 := r1.below hb1 z1
      have B2 := Lib.hid b2
      have R3 := Lib.hid r3
      have HGB : Hid (∃ gb, gb = w.heap.size + 1) := ⟨_, rfl⟩
      clear b2 r3 hb1 r0 r1 q0 q1 z0 z1 bW HF
      cases v0 with
      | true =>
        go_wp2_with (go_at_call 16; refine (Hfin.out _ B2.out).mono ?_; rintro e w3 ⟨rfl, hb3⟩; have HB3 := Lib.hid hb3; clear hb3)
        go_ret
        exact ⟨rfl, HB3.out⟩
      | false =>
        have h40 : zs.length ≤ 40 := by
          have h := of_decide_eq_false HV.out.symm
          omega
        obtain ⟨gb, hgb⟩ := HGB.out
        rw [← hgb] at r4 ⊢
        have R4 := Lib.hid r4
        have HH2 := Lib.hid (HH.out h40)
        obtain ⟨i0, hi, hz0, hz1, hz2⟩ := info_parts Try.info_intS
        clear r4 hgb HGB HH HV
        go_upto_region 3 with fail
        refine wp_region_stepsY 18 (ord := [0, 1, 2, 3, 4, 5, 6, 7, 8, 9, 10, 11, 12, 13, 14, 15, 16, 17]) (ds := [(0, 42), (1, 43), (2, 44), (3, 45), (4, 46), (5, 47), (6, 48), (7, 49), (8, 50), (9, 51), (10, 52), (11, 41), (12, 53), (13, 54), (14, 55), (15, 7), (16, 8), (17, 9)]) (I := PriI w2 f l zs ride A A2 A3 c c2 c3 gb t1 t2 t3) (by kernel_rfl) (by kernel_rfl) rfl ?iz (StepsY.cons (k := 0) (k' := 1) (o := ⟨some 42, _, _, _, _, _⟩) rfl rfl ?sz0 (StepsY.cons (k := 1) (k' := 2) (o := ⟨some 43, _, _, _, _, _⟩) rfl rfl ?sz1 (StepsY.cons (k := 2) (k' := 3) (o := ⟨some 44, _, _, _, _, _⟩) rfl rfl ?sz2 (StepsY.cons (k := 3) (k' := 4) (o := ⟨some 45, _, _, _, _, _⟩) rfl rfl ?sz3 (StepsY.cons (k := 4) (k' := 5) (o := ⟨some 46, _, _, _, _, _⟩) rfl rfl ?sz4 (StepsY.cons (k := 5) (k' := 6) (o := ⟨some 47, _, _, _, _, _⟩) rfl rfl ?sz5 (StepsY.cons (k := 6) (k' := 7) (o := ⟨some 48, _, _, _, _, _⟩) rfl rfl ?sz6 (StepsY.cons (k := 7) (k' := 8) (o := ⟨some 49, _, _, _, _, _⟩) rfl rfl ?sz7 (StepsY.cons (k := 8) (k' := 9) (o := ⟨some 50, _, _, _, _, _⟩) rfl rfl ?sz8 (StepsY.cons (k := 9) (k' := 10) (o := ⟨some 51, _, _, _, _, _⟩) rfl rfl ?sz9 (StepsY.cons (k := 10) (k' := 11) (o := ⟨some 52, _, _, _, _, _⟩) rfl rfl ?sz10 (StepsY.cons (k := 11) (k' := 12) (o := ⟨some 41, _, _, _, _, _⟩) rfl rfl ?sz11 (StepsY.cons (k := 12) (k' := 13) (o := ⟨some 53, _, _, _, _, _⟩) rfl rfl ?sz12 (StepsY.cons (k := 13) (k' := 14) (o := ⟨some 54, _, _, _, _, _⟩) rfl rfl ?sz13 (StepsY.cons (k := 14) (k' := 15) (o := ⟨some 55, _, _, _, _, _⟩) rfl rfl ?sz14 (StepsY.cons (k := 15) (k' := 16) (o := ⟨some 7, _, _, _, _, _⟩) rfl rfl ?sz15 (StepsY.cons (k := 16) (k' := 17) (o := ⟨some 8, _, _, _, _, _⟩) rfl rfl ?sz16 (StepsY.cons (k := 17) (k' := 18) (o := ⟨some 9, _, _, _, _, _⟩) rfl rfl ?sz17 StepsY.nil)))))))))))))))))) ?finz
        case iz => exact fun xs => ⟨(Below.refl _ _).drew, fun h => Bool.noConfusion h, fun h => Bool.noConfusion h, fun h => Bool.noConfusion h, fun h => Bool.noConfusion h, fun h => Bool.noConfusion h, fun h => Bool.noConfusion h, fun h => Bool.noConfusion h, fun h => Bool.noConfusion h, fun h => Bool.noConfusion h, fun h => Bool.noConfusion h, fun h => Bool.noConfusion h, fun h => Bool.noConfusion h, fun h => Bool.noConfusion h, fun h => Bool.noConfusion h, fun h => Bool.noConfusion h, fun h => Bool.noConfusion h, fun h => Bool.noConfusion h, fun h => Bool.noConfusion h⟩
        case sz0 =>
          intro xs done y hI hd0 hup hdn K hK
          refine wpOp_go (o := ⟨some 42, _, _, _, _, _⟩) rfl rfl ?_
          simp only [putsF, List.foldl_cons, List.foldl_nil, Act.put, List.setIfInBounds_toArray, List.set_cons_zero, List.set_cons_succ] at hK ⊢
          have rE := R3.out.below hI.b R3.out.lt
          have y0 : y.cell? ⟨w.heap.size, 0, none⟩ = some (.slice A f.rides.length c) := rE.cell (j := 0) (by simp)
          have y1 : y.cell? ⟨w.heap.size, 1, none⟩ = some (.int .i64 f.walk) := rE.cell (j := 1) (by simp)
          have lE := rE.lt
          go_wp2_with fail
          exact hK.out _ _ ⟨hI.b, hI.m1, hI.m3, hI.m6, hI.m9, fun _ => rfl, hI.v2, hI.v4, hI.v5, hI.v7, hI.v8, hI.v10, hI.v11, hI.v12, hI.v13, hI.v14, hI.v15, hI.v16, hI.v17⟩
        case sz1 =>
          intro xs done y hI hd0 hup hdn K hK
          refine wpOp_go (o := ⟨some 43, _, _, _, _, _⟩) rfl rfl ?_
          have e0 := hI.v0 (hdn 0 (by kernel_rfl))
          simp only [putsF, List.foldl_cons, List.foldl_nil, Act.put, List.setIfInBounds_toArray, List.set_cons_zero, List.set_cons_succ] at hK ⊢
          simp only [e0] at hK ⊢
          have hY := B2.out.trans (hI.b.mono B2.out.size)
          go_wp2_with (go_at_call 18; refine (HC.out y hY).mono ?_; rintro e z ⟨A4, c4, rfl, hb4, ho4⟩; unfold eveV)
          exact hK.out _ _ ⟨(hI.b.trans (hb4.mono hI.b.size)), (fun _ _ => ⟨A4, c4, rfl, own_rds ho4⟩), (fun h _ => Bool.noConfusion ((hup 3 (by kernel_rfl)).symm.trans h)), (fun h h9 => stable_isEmpty _ _ _ _ _ _ (hI.m6 h h9) hb4), (fun h _ => Bool.noConfusion ((hup 9 (by kernel_rfl)).symm.trans h)), hI.v0, hI.v2, hI.v4, hI.v5, hI.v7, hI.v8, hI.v10, hI.v11, hI.v12, hI.v13, hI.v14, hI.v15, hI.v16, hI.v17⟩
        case sz2 =>
          intro xs done y hI hd0 hup hdn K hK
          refine wpOp_go (o := ⟨some 44, _, _, _, _, _⟩) rfl rfl ?_
          simp only [putsF, List.foldl_cons, List.foldl_nil, Act.put, List.setIfInBounds_toArray, List.set_cons_zero, List.set_cons_succ] at hK ⊢
          go_wp2_with fail
          exact hK.out _ _ ⟨hI.b, hI.m1, hI.m3, hI.m6, hI.m9, hI.v0, fun _ => rfl, hI.v4, hI.v5, hI.v7, hI.v8, hI.v10, hI.v11, hI.v12, hI.v13, hI.v14, hI.v15, hI.v16, hI.v17⟩
        case sz3 =>
          intro xs done y hI hd0 hup hdn K hK
          refine wpOp_go (o := ⟨some 45, _, _, _, _, _⟩) rfl rfl ?_
          have e2 := hI.v2 (hdn 2 (by kernel_rfl))
          simp only [putsF, List.foldl_cons, List.foldl_nil, Act.put, List.setIfInBounds_toArray, List.set_cons_zero, List.set_cons_succ] at hK ⊢
          simp only [e2] at hK ⊢
          have hY := B2.out.trans (hI.b.mono B2.out.size)
          go_wp2_with (go_at_call 19; refine (HG.out y hY).mono ?_; rintro e z ⟨A5, c5, rs5, rfl, hb4, hg5⟩)
          exact hK.out _ _ ⟨(hI.b.trans (hb4.mono hI.b.size)), (fun h h10 => (hI.m1 h h10).imp fun A4 h => h.imp fun c4 h => ⟨h.1, (h.2.below hb4).more hb4.size⟩), (fun _ _ => ⟨A5, c5, rs5, rfl, hg5⟩), (fun h h9 => stable_isEmpty _ _ _ _ _ _ (hI.m6 h h9) hb4), (fun h _ => Bool.noConfusion ((hup 9 (by kernel_rfl)).symm.trans h)), hI.v0, hI.v2, hI.v4, hI.v5, hI.v7, hI.v8, hI.v10, hI.v11, hI.v12, hI.v13, hI.v14, hI.v15, hI.v16, hI.v17⟩
        case sz4 =>
          intro xs done y hI hd0 hup hdn K hK
          refine wpOp_go (o := ⟨some 46, _, _, _, _, _⟩) rfl rfl ?_
          simp only [putsF, List.foldl_cons, List.foldl_nil, Act.put, List.setIfInBounds_toArray, List.set_cons_zero, List.set_cons_succ] at hK ⊢
          have rG := R4.out.below hI.b R4.out.lt
          have lG := rG.lt
          go_wp2_with fail
          exact hK.out _ _ ⟨hI.b, hI.m1, hI.m3, hI.m6, hI.m9, hI.v0, hI.v2, fun _ => rfl, hI.v5, hI.v7, hI.v8, hI.v10, hI.v11, hI.v12, hI.v13, hI.v14, hI.v15, hI.v16, hI.v17⟩
        case sz5 =>
          intro xs done y hI hd0 hup hdn K hK
          refine wpOp_go (o := ⟨some 47, _, _, _, _, _⟩) rfl rfl ?_
          have e4 := hI.v4 (hdn 4 (by kernel_rfl))
          simp only [putsF, List.foldl_cons, List.foldl_nil, Act.put, List.setIfInBounds_toArray, List.set_cons_zero, List.set_cons_succ] at hK ⊢
          simp only [e4] at hK ⊢
          have rG := R4.out.below hI.b R4.out.lt
          have y0 : y.cell? ⟨gb, 0, none⟩ = some (.int .i64 ride) := rG.cell (j := 0) (by simp)
          have y1 : y.cell? ⟨gb, 1, none⟩ = some (.slice A3 zs.length c3) := rG.cell (j := 1) (by simp)
          have lG := rG.lt
          go_wp2_with fail
          exact hK.out _ _ ⟨hI.b, hI.m1, hI.m3, hI.m6, hI.m9, hI.v0, hI.v2, hI.v4, fun _ => rfl, hI.v7, hI.v8, hI.v10, hI.v11, hI.v12, hI.v13, hI.v14, hI.v15, hI.v16, hI.v17⟩
        case sz6 =>
          intro xs done y hI hd0 hup hdn K hK
          refine wpOp_go (o := ⟨some 48, _, _, _, _, _⟩) rfl rfl ?_
          simp only [putsF, List.foldl_cons, List.foldl_nil, Act.put, List.setIfInBounds_toArray, List.set_cons_zero, List.set_cons_succ] at hK ⊢
          go_wp2_with fail
          have hb4 := (Below.refl y.heap.size y).alloc (Nat.le_refl _) (.cells #[] 3)
          exact hK.out _ _ ⟨(hI.b.trans (hb4.mono hI.b.size)), (fun h h10 => (hI.m1 h h10).imp fun A4 h => h.imp fun c4 h => ⟨h.1, (h.2.below hb4).more hb4.size⟩), (fun h h10 => (hI.m3 h h10).imp fun A5 h => h.imp fun c5 h => h.imp fun rs5 h => ⟨h.1, (h.2.below hb4).more hb4.size⟩), (fun _ _ => new_empty hI.b.size), (fun h _ => Bool.noConfusion ((hup 9 (by kernel_rfl)).symm.trans h)), hI.v0, hI.v2, hI.v4, hI.v5, hI.v7, hI.v8, hI.v10, hI.v11, hI.v12, hI.v13, hI.v14, hI.v15, hI.v16, hI.v17⟩
        case sz7 =>
          intro xs done y hI hd0 hup hdn K hK
          refine wpOp_go (o := ⟨some 49, _, _, _, _, _⟩) rfl rfl ?_
          simp only [putsF, List.foldl_cons, List.foldl_nil, Act.put, List.setIfInBounds_toArray, List.set_cons_zero, List.set_cons_succ] at hK ⊢
          have rG := R4.out.below hI.b R4.out.lt
          have lG := rG.lt
          go_wp2_with fail
          exact hK.out _ _ ⟨hI.b, hI.m1, hI.m3, hI.m6, hI.m9, hI.v0, hI.v2, hI.v4, hI.v5, fun _ => rfl, hI.v8, hI.v10, hI.v11, hI.v12, hI.v13, hI.v14, hI.v15, hI.v16, hI.v17⟩
        case sz8 =>
          intro xs done y hI hd0 hup hdn K hK
          refine wpOp_go (o := ⟨some 50, _, _, _, _, _⟩) rfl rfl ?_
          have e7 := hI.v7 (hdn 7 (by kernel_rfl))
          simp only [putsF, List.foldl_cons, List.foldl_nil, Act.put, List.setIfInBounds_toArray, List.set_cons_zero, List.set_cons_succ] at hK ⊢
          simp only [e7] at hK ⊢
          have rG := R4.out.below hI.b R4.out.lt
          have y0 : y.cell? ⟨gb, 0, none⟩ = some (.int .i64 ride) := rG.cell (j := 0) (by simp)
          have y1 : y.cell? ⟨gb, 1, none⟩ = some (.slice A3 zs.length c3) := rG.cell (j := 1) (by simp)
          have lG := rG.lt
          go_wp2_with fail
          exact hK.out _ _ ⟨hI.b, hI.m1, hI.m3, hI.m6, hI.m9, hI.v0, hI.v2, hI.v4, hI.v5, hI.v7, fun _ => rfl, hI.v10, hI.v11, hI.v12, hI.v13, hI.v14, hI.v15, hI.v16, hI.v17⟩
        case sz9 =>
          intro xs done y hI hd0 hup hdn K hK
          refine wpOp_go (o := ⟨some 51, _, _, _, _, _⟩) rfl rfl ?_
          have e8 := hI.v8 (hdn 8 (by kernel_rfl))
          have hm6 := hI.m6 (hdn 6 (by kernel_rfl)) hd0
          have hY := B2.out.trans (hI.b.mono B2.out.size)
          simp only [putsF, List.foldl_cons, List.foldl_nil, Act.put, List.setIfInBounds_toArray, List.set_cons_zero, List.set_cons_succ] at hK ⊢
          simp only [e8] at hK ⊢
          refine wp_app0 y (.tmp 48) (.tmp 50) 37 (by rfl) w2.heap.size 3 i0 _ 1 8 Try.underlying37 hi hz0 hz1 hz2 rfl (by decide) _ (by rfl) hm6 B A3 zs.length c3 (zs.map (Value.int .i64)) (by rfl) (HR.out y hY).2.2.2 (fun u hu => by obtain ⟨z, -, rfl⟩ := List.mem_map.1 hu; rfl) (by unfold maxLen; omega) (by omega) ?_
          intro v1 z ho hb4
          obtain ⟨A7, c7, rfl⟩ := own_slice ho
          exact hK.out _ _ ⟨(hI.b.trans (hb4.mono hI.b.size)), (fun h h10 => (hI.m1 h h10).imp fun A4 h => h.imp fun c4 h => ⟨h.1, (h.2.below hb4).more hb4.size⟩), (fun h h10 => (hI.m3 h h10).imp fun A5 h => h.imp fun c5 h => h.imp fun rs5 h => ⟨h.1, (h.2.below hb4).more hb4.size⟩), (fun _ h => Bool.noConfusion h), (fun _ _ => ⟨A7, c7, rfl, own_rds ho⟩), hI.v0, hI.v2, hI.v4, hI.v5, hI.v7, hI.v8, hI.v10, hI.v11, hI.v12, hI.v13, hI.v14, hI.v15, hI.v16, hI.v17⟩
        case sz10 =>
          intro xs done y hI hd0 hup hdn K hK
          refine wpOp_go (o := ⟨some 52, _, _, _, _, _⟩) rfl rfl ?_
          have e5 := hI.v5 (hdn 5 (by kernel_rfl))
          have hm1 := hI.m1 (hdn 1 (by kernel_rfl)) hd0
          have hm3 := hI.m3 (hdn 3 (by kernel_rfl)) hd0
          have hm9 := hI.m9 (hdn 9 (by kernel_rfl)) hd0
          simp only [putsF, List.foldl_cons, List.foldl_nil, Act.put, List.setIfInBounds_toArray, List.set_cons_zero, List.set_cons_succ] at hK ⊢
          obtain ⟨A4, c4, e1, hr1⟩ := hm1
          obtain ⟨A5, c5, rs5, e3, hg3⟩ := hm3
          obtain ⟨A7, c7, e9, hz9⟩ := hm9
          simp only [e5, e1, e3, e9] at hK ⊢
          have hq := HT.out y A4 A5 A7 c4 c5 c7 rs5 hr1 hg3 hz9
          go_wp2_with (go_at_call 36; refine hq.mono ?_; rintro e z ⟨rfl, hb4⟩)
          exact hK.out _ _ ⟨(hI.b.trans (hb4.mono hI.b.size)), (fun _ h => Bool.noConfusion h), (fun _ h => Bool.noConfusion h), (fun _ h => Bool.noConfusion ((hdn 9 (by kernel_rfl)).symm.trans h)), (fun _ h => Bool.noConfusion h), hI.v0, hI.v2, hI.v4, hI.v5, hI.v7, hI.v8, fun _ => rfl, hI.v11, hI.v12, hI.v13, hI.v14, hI.v15, hI.v16, hI.v17⟩
        case sz11 =>
          intro xs done y hI hd0 hup hdn K hK
          refine wpOp_go (o := ⟨some 41, _, _, _, _, _⟩) rfl rfl ?_
          have e10 := hI.v10 (hdn 10 (by kernel_rfl))
          simp only [putsF, List.foldl_cons, List.foldl_nil, Act.put, List.setIfInBounds_toArray, List.set_cons_zero, List.set_cons_succ] at hK ⊢
          simp only [e10] at hK ⊢
          go_wp2_with fail
          exact hK.out _ _ ⟨hI.b, hI.m1, hI.m3, hI.m6, hI.m9, hI.v0, hI.v2, hI.v4, hI.v5, hI.v7, hI.v8, hI.v10, fun _ => rfl, hI.v12, hI.v13, hI.v14, hI.v15, hI.v16, hI.v17⟩
        case sz12 =>
          intro xs done y hI hd0 hup hdn K hK
          refine wpOp_go (o := ⟨some 53, _, _, _, _, _⟩) rfl rfl ?_
          have e11 := hI.v11 (hdn 11 (by kernel_rfl))
          simp only [putsF, List.foldl_cons, List.foldl_nil, Act.put, List.setIfInBounds_toArray, List.set_cons_zero, List.set_cons_succ] at hK ⊢
          simp only [e11] at hK ⊢
          go_wp2_with fail
          exact hK.out _ _ ⟨hI.b, hI.m1, hI.m3, hI.m6, hI.m9, hI.v0, hI.v2, hI.v4, hI.v5, hI.v7, hI.v8, hI.v10, hI.v11, fun _ => rfl, hI.v13, hI.v14, hI.v15, hI.v16, hI.v17⟩
        case sz13 =>
          intro xs done y hI hd0 hup hdn K hK
          refine wpOp_go (o := ⟨some 54, _, _, _, _, _⟩) rfl rfl ?_
          have e11 := hI.v11 (hdn 11 (by kernel_rfl))
          simp only [putsF, List.foldl_cons, List.foldl_nil, Act.put, List.setIfInBounds_toArray, List.set_cons_zero, List.set_cons_succ] at hK ⊢
          simp only [e11] at hK ⊢
          go_wp2_with fail
          exact hK.out _ _ ⟨hI.b, hI.m1, hI.m3, hI.m6, hI.m9, hI.v0, hI.v2, hI.v4, hI.v5, hI.v7, hI.v8, hI.v10, hI.v11, hI.v12, fun _ => rfl, hI.v14, hI.v15, hI.v16, hI.v17⟩
        case sz14 =>
          intro xs done y hI hd0 hup hdn K hK
          refine wpOp_go (o := ⟨some 55, _, _, _, _, _⟩) rfl rfl ?_
          have e11 := hI.v11 (hdn 11 (by kernel_rfl))
          simp only [putsF, List.foldl_cons, List.foldl_nil, Act.put, List.setIfInBounds_toArray, List.set_cons_zero, List.set_cons_succ] at hK ⊢
          simp only [e11] at hK ⊢
          go_wp2_with fail
          exact hK.out _ _ ⟨hI.b, hI.m1, hI.m3, hI.m6, hI.m9, hI.v0, hI.v2, hI.v4, hI.v5, hI.v7, hI.v8, hI.v10, hI.v11, hI.v12, hI.v13, fun _ => rfl, hI.v15, hI.v16, hI.v17⟩
        case sz15 =>
          intro xs done y hI hd0 hup hdn K hK
          refine wpOp_go (o := ⟨some 7, _, _, _, _, _⟩) rfl rfl ?_
          have e12 := hI.v12 (hdn 12 (by kernel_rfl))
          simp only [putsF, List.foldl_cons, List.foldl_nil, Act.put, List.setIfInBounds_toArray, List.set_cons_zero, List.set_cons_succ] at hK ⊢
          simp only [e12] at hK ⊢
          go_wp2_with fail
          exact hK.out _ _ ⟨hI.b, hI.m1, hI.m3, hI.m6, hI.m9, hI.v0, hI.v2, hI.v4, hI.v5, hI.v7, hI.v8, hI.v10, hI.v11, hI.v12, hI.v13, hI.v14, fun _ => rfl, hI.v16, hI.v17⟩
        case sz16 =>
          intro xs done y hI hd0 hup hdn K hK
          refine wpOp_go (o := ⟨some 8, _, _, _, _, _⟩) rfl rfl ?_
          have e13 := hI.v13 (hdn 13 (by kernel_rfl))
          simp only [putsF, List.foldl_cons, List.foldl_nil, Act.put, List.setIfInBounds_toArray, List.set_cons_zero, List.set_cons_succ] at hK ⊢
          simp only [e13] at hK ⊢
          go_wp2_with fail
          exact hK.out _ _ ⟨hI.b, hI.m1, hI.m3, hI.m6, hI.m9, hI.v0, hI.v2, hI.v4, hI.v5, hI.v7, hI.v8, hI.v10, hI.v11, hI.v12, hI.v13, hI.v14, hI.v15, fun _ => rfl, hI.v17⟩
        case sz17 =>
          intro xs done y hI hd0 hup hdn K hK
          refine wpOp_go (o := ⟨some 9, _, _, _, _, _⟩) rfl rfl ?_
          have e14 := hI.v14 (hdn 14 (by kernel_rfl))
          simp only [putsF, List.foldl_cons, List.foldl_nil, Act.put, List.setIfInBounds_toArray, List.set_cons_zero, List.set_cons_succ] at hK ⊢
          simp only [e14] at hK ⊢
          go_wp2_with fail
          exact hK.out _ _ ⟨hI.b, hI.m1, hI.m3, hI.m6, hI.m9, hI.v0, hI.v2, hI.v4, hI.v5, hI.v7, hI.v8, hI.v10, hI.v11, hI.v12, hI.v13, hI.v14, hI.v15, hI.v16, fun _ => rfl⟩
        case finz =>
          intro xs done y hI hd
          have e15 := hI.v15 (hd 15 (by decide))
          have e16 := hI.v16 (hd 16 (by decide))
          have e17 := hI.v17 (hd 17 (by decide))
          have hb6 := hI.b
          simp only [putsF, List.foldl_cons, List.foldl_nil, Act.put, List.setIfInBounds_toArray, List.set_cons_zero, List.set_cons_succ]
          simp only [e15, e16, e17]
          have B6 := Lib.hid (B2.out.trans (hb6.mono B2.out.size))
          have rE := R3.out.below hb6 R3.out.lt
          have rG := R4.out.below hb6 R4.out.lt
          have HH6 := Lib.hid (HH2.out y B6.out)
          have x0 : y.cell? ⟨w.heap.size, 0, none⟩ = some (.slice A f.rides.length c) := rE.cell (j := 0) (by simp)
          have x1 : y.cell? ⟨w.heap.size, 1, none⟩ = some (.int .i64 f.walk) := rE.cell (j := 1) (by simp)
          have y0 : y.cell? ⟨gb, 0, none⟩ = some (.int .i64 ride) := rG.cell (j := 0) (by simp)
          have y1 : y.cell? ⟨gb, 1, none⟩ = some (.slice A3 zs.length c3) := rG.cell (j := 1) (by simp)
          have lE := rE.lt
          have lG := rG.lt
          have R3' := Lib.hid rE
          have R4' := Lib.hid rG
          clear hI hd e15 e16 e17 rE rG hb6 R3 R4 HH2 HT hi hz0 hz1 hz2
          go_upto_region 5 with (go_at_call 37; refine HH6.out.mono ?_; rintro e w8 ⟨rfl, hb8⟩)
          have B8 := Lib.hid (B6.out.trans (hb8.mono B6.out.size))
          have R8 := Lib.hid (R3'.out.below hb8 R3'.out.lt)
          have G8 := Lib.hid (R4'.out.below hb8 R4'.out.lt)
          clear hb8 HH6 x0 x1 y0 y1 lE lG R3' R4' B6
          by_cases h3 : t3 = 0
          · subst h3
            obtain ⟨hc, hok, hbest⟩ := prR_ok HTT.out
            obtain ⟨⟨⟨k0, k1⟩, k2⟩, ⟨k3, k4⟩, k5⟩ := prOk_get hok
            obtain ⟨r, hr9⟩ : ∃ r, r = ride.toNat := ⟨_, rfl⟩
            rw [← hr9] at k1 k2 hbest
            subst k2
            have HCC := Lib.hid hc
            have HK5 := Lib.hid k5
            have HBE := Lib.hid hbest
            have hzc : ∃ b3 o3, A3 = some ⟨b3, o3, none⟩ ∧ b3 < w.heap.size ∧ ∀ X, Below w.heap.size w X → ∀ j (h : j < zs.length), X.cell? ⟨b3, o3 + j, none⟩ = some (.int .i64 zs[j]) := by
              obtain ⟨b3, o3, e3, hb3, hc3⟩ := (HR.out w (Below.refl _ _)).2.2.2.2 (by omega)
              exact ⟨b3, o3, e3, by omega, fun X hX j h => (hX.cell (p := ⟨b3, o3 + j, none⟩) (show b3 < w.heap.size by omega)).trans (hc3 j _ (by simp [h]))⟩
            obtain ⟨b3, o3, rfl, hb3, hzc⟩ := hzc
            have HZC := Lib.hid hzc
            clear hr9 hok hbest hc k5 hzc k0 HTT
            go_upto_region 10 with fail
            go_loopw [13] (fun iv wr => ∃ k : Nat, k ≤ zs.length ∧ iv = .int .i64 (k : Int) ∧ Below w.heap.size w wr ∧ Row wr w.heap.size 24 [.slice A f.rides.length c, .int .i64 f.walk] ∧ Row wr gb 44 [.int .i64 (r : Int), .slice (some ⟨b3, o3, none⟩) zs.length c3]) (fun iv _ => zs.length - (intOf iv).toNat)
            case atStart => exact ⟨0, Nat.zero_le _, rfl, B8.out, R8.out, G8.out⟩
            case round =>
              obtain ⟨k, hk, rfl, hbel, q0, q1⟩ := hrel
              have pz1 : wr.cell? ⟨gb, 1, none⟩ = some (.slice (some ⟨b3, o3, none⟩) zs.length c3) := q1.cell (j := 1) (by simp)
              have lgb := q1.lt
              by_cases hlt : k < zs.length
              · have hp := HK5.out zs[k] (List.getElem_mem hlt)
                have hbz := HBE.out.best zs[k] (List.getElem_mem hlt)
                have HXX : Hid (∀ Y, Below w.heap.size w Y → Y.cell? ⟨b3, o3 + k, none⟩ = some (.int .i64 zs[k])) := fun Y hY => HZC.out Y hY k hlt
                generalize zs[k] = pz at hp HXX hbz
                have HPC := Lib.hid (pri_check HCC.out k1 hp)
                have hin : (k : Int) < (zs.length : Int) := by omega
                have ei : IntKind.i64.wrap ((k : Int) + 1) = (k : Int) + 1 := IntWalk.i64_in _ (by omega)
                have x0 : wr.cell? ⟨w.heap.size, 0, none⟩ = some (.slice A f.rides.length c) := q0.cell (j := 0) (by simp)
                have x1 : wr.cell? ⟨w.heap.size, 1, none⟩ = some (.int .i64 f.walk) := q0.cell (j := 1) (by simp)
                have l0 := q0.lt
                have HCP := Lib.hid (HC.out wr hbel)
                have Q0 := Lib.hid q0
                have Q1 := Lib.hid q1
                have HBl := Lib.hid hbel
                clear q0 q1 hbel
                go_upto_region 13 with (go_at_call 18; refine HCP.out.mono ?_; rintro e w4 ⟨A5, c5, rfl, hb2, ho2⟩; unfold eveV)
                obtain ⟨g, cap, e, hg, hlg⟩ := World.ownsRow.form ho2 (by omega)
                injection e with e1 _ e2
                subst e1 e2
                have rG := (Row.of_own ho2).1.alloc (.cells #[.slice (some ⟨g, 0, none⟩) f.rides.length c5, .int .i64 f.walk] 24)
                have rE := Row.new w4 24 #[.slice (some ⟨g, 0, none⟩) f.rides.length c5, .int .i64 f.walk]
                have bX := hb2.alloc hb2.size (.cells #[.slice (some ⟨g, 0, none⟩) f.rides.length c5, .int .i64 f.walk] 24)
                have hgE : wr.heap.size ≤ w4.heap.size := hb2.size
                have hgne : w4.heap.size ≠ g := by omega
                generalize w4.alloc (.cells #[.slice (some ⟨g, 0, none⟩) f.rides.length c5, .int .i64 f.walk] 24) = X at rG rE bX ⊢
                generalize w4.heap.size = ge at rE hgE hgne ⊢
                clear ho2 hb2 hlg
                have y0 : X.cell? ⟨ge, 0, none⟩ = some (.slice (some ⟨g, 0, none⟩) f.rides.length c5) := rE.cell (j := 0) (by simp)
                have lE := rE.lt
                have lG := rG.lt
                have hat := bthCells_at f.rides r k1 1 (by omega)
                have hlen := bth_len f.rides
                have hgc : X.cell? ⟨g, r * 5 + 1, none⟩ = some (.int .i64 (f.rides.getD r default).price) := by
                  rw [rG.cell (j := r * 5 + 1) (by omega), hat]
                  rfl
                have fG := rG.frozen (r * 5 + 1)
                have ri0 : ¬ (r : Int) < 0 := by omega
                have ri1 : (r : Int) < (f.rides.length : Int) := by omega
                have rGY := (rG.drewN 1).set (r * 5 + 1) (.int .i64 pz)
                rw [pri_cells f k1] at rGY
                have rEY := (rE.drewN 1).far (p := ⟨g, r * 5 + 1, none⟩) hgne (.int .i64 pz)
                have bY := (below_drewN bX 1).setCell (p := ⟨g, r * 5 + 1, none⟩) (by show wr.heap.size ≤ g; omega) (.int .i64 pz)
                have hxX := HXX.out X (HBl.out.trans (bX.mono HBl.out.size))
                have lbX : b3 < X.heap.size := by have := HBl.out.size; have := bX.size; omega
                have rP := Q1.out.below bX lgb
                have p0 : X.cell? ⟨gb, 0, none⟩ = some (.int .i64 (r : Int)) := rP.cell (j := 0) (by simp)
                have p1 : X.cell? ⟨gb, 1, none⟩ = some (.slice (some ⟨b3, o3, none⟩) zs.length c3) := rP.cell (j := 1) (by simp)
                have lP := rP.lt
                have HGY := Lib.hid rGY
                have HEY := Lib.hid rEY
                have HBY := Lib.hid bY
                clear rG rE bX hat hlen rGY rEY bY rP
                refine wp_tail 11 (by kernel_rfl) (by kernel_rfl) ?_
                simp only [List.take_succ_cons, List.take_zero, List.drop_succ_cons, List.drop_zero]
                repeat still_step
                refine wpStill_nil ?_
                go_upto_region 14 with fail
                have bZ := HBY.out
                have rE := HEY.out
                have rG := HGY.out
                generalize (X.drewN 1).setCell ⟨g, r * 5 + 1, none⟩ (.int .i64 pz) = Z at bZ rE rG ⊢
                clear y0 lE lG hgc fG ri0 ri1 HGY HEY HBY hxX lbX p0 p1 lP
                have hbzz := HBl.out.trans (bZ.mono HBl.out.size)
                have hzz : Reads Z Z.heap.size 5 (some ⟨g, 0, none⟩) (f.pri r pz).rides.length (bthCells (f.pri r pz).rides) := rG.reads (bth_len _) rG.lt
                have hlL := (tak_bd HPC.out).1
                have hzT : takesZ (f.pri r pz) l = takL (f.pri r pz) l := if_pos HPC.out
                have hsp : prS f l r pz = smZ (takL (f.pri r pz) l) (takL (f.pri r pz) l).length := rfl
                have HT2 := Lib.hid (tak_bd HPC.out).2
                have HTK : Hid (∀ (Y : World) (A5 : Option Addr) (c6 : Nat) (rs5 : List (Option Addr × Nat)), Below Z.heap.size Z Y → GrpsIn Y Y.heap.size A5 rs5 l → Calls Try.prog 25 #[.agg #[.slice (some ⟨g, 0, none⟩) f.rides.length c5, .int .i64 f.walk], .slice A5 l.length c6] Y (ListTo Y (takL (f.pri r pz) l) 0)) := fun Y A5 c6 rs5 hY h5 => by
                  have h := Takes_any (f.pri r pz) l (some ⟨g, 0, none⟩) A5 c5 c6 Y.heap.size rs5 Y (Nat.le_refl _) ((hzz.below hY).more hY.size) (by rw [pri_len]; exact hn) h5
                  rw [hzT, HPC.out] at h
                  unfold eveV at h
                  rw [pri_len] at h
                  exact h
                rw [pri_len] at hlL
                generalize takL (f.pri r pz) l = L at hlL hsp HT2 HTK
                have HLL := Lib.hid hlL
                clear hlL
                have hsb := prS_bd HCC.out k1 hp
                have RO := Lib.hid rE
                have BZ := Lib.hid hbzz
                have Q2 := Lib.hid (Q0.out.below bZ l0)
                have Q3 := Lib.hid (Q1.out.below bZ lgb)
                have HSP := Lib.hid hsp
                clear hzz hzT hbzz rG rE bZ x0 x1 HCP Q0 Q1 HBl l0 hsp lgb pz1
                refine wp_region_stepsY 9 (ord := [0, 1, 2, 3, 4, 5, 6, 7, 8]) (ds := [(0, 104), (1, 105), (2, 106), (3, 107), (4, 103), (5, 108), (6, 109), (7, 15), (8, 16)]) (I := TakI Z f l L A2 c2 c5 g) (by kernel_rfl) (by kernel_rfl) rfl ?iy (StepsY.cons (k := 0) (k' := 1) (o := ⟨some 104, _, _, _, _, _⟩) rfl rfl ?sy0 (StepsY.cons (k := 1) (k' := 2) (o := ⟨some 105, _, _, _, _, _⟩) rfl rfl ?sy1 (StepsY.cons (k := 2) (k' := 3) (o := ⟨some 106, _, _, _, _, _⟩) rfl rfl ?sy2 (StepsY.cons (k := 3) (k' := 4) (o := ⟨some 107, _, _, _, _, _⟩) rfl rfl ?sy3 (StepsY.cons (k := 4) (k' := 5) (o := ⟨some 103, _, _, _, _, _⟩) rfl rfl ?sy4 (StepsY.cons (k := 5) (k' := 6) (o := ⟨some 108, _, _, _, _, _⟩) rfl rfl ?sy5 (StepsY.cons (k := 6) (k' := 7) (o := ⟨some 109, _, _, _, _, _⟩) rfl rfl ?sy6 (StepsY.cons (k := 7) (k' := 8) (o := ⟨some 15, _, _, _, _, _⟩) rfl rfl ?sy7 (StepsY.cons (k := 8) (k' := 9) (o := ⟨some 16, _, _, _, _, _⟩) rfl rfl ?sy8 StepsY.nil))))))))) ?finy
                case iy => exact fun xs => ⟨(Below.refl _ _).drew, fun h => Bool.noConfusion h, fun h => Bool.noConfusion h, fun h => Bool.noConfusion h, fun h => Bool.noConfusion h, fun h => Bool.noConfusion h, fun h => Bool.noConfusion h⟩
                case sy0 =>
                  intro xs done y hI hd0 hup hdn K hK
                  refine wpOp_go (o := ⟨some 104, _, _, _, _, _⟩) rfl rfl ?_
                  simp only [putsF, List.foldl_cons, List.foldl_nil, Act.put, List.setIfInBounds_toArray, List.set_cons_zero, List.set_cons_succ] at hK ⊢
                  have rO := RO.out.below hI.b RO.out.lt
                  have y0 : y.cell? ⟨ge, 0, none⟩ = some (.slice (some ⟨g, 0, none⟩) f.rides.length c5) := rO.cell (j := 0) (by simp)
                  have y1 : y.cell? ⟨ge, 1, none⟩ = some (.int .i64 f.walk) := rO.cell (j := 1) (by simp)
                  have lO := rO.lt
                  go_wp2_with fail
                  exact hK.out _ _ ⟨hI.b, hI.m2, hI.m3, fun _ => rfl, hI.v1, hI.v6, hI.v8⟩
                case sy1 =>
                  intro xs done y hI hd0 hup hdn K hK
                  refine wpOp_go (o := ⟨some 105, _, _, _, _, _⟩) rfl rfl ?_
                  simp only [putsF, List.foldl_cons, List.foldl_nil, Act.put, List.setIfInBounds_toArray, List.set_cons_zero, List.set_cons_succ] at hK ⊢
                  go_wp2_with fail
                  exact hK.out _ _ ⟨hI.b, hI.m2, hI.m3, hI.v0, fun _ => rfl, hI.v6, hI.v8⟩
                case sy2 =>
                  intro xs done y hI hd0 hup hdn K hK
                  refine wpOp_go (o := ⟨some 106, _, _, _, _, _⟩) rfl rfl ?_
                  have e1 := hI.v1 (hdn 1 (by kernel_rfl))
                  simp only [putsF, List.foldl_cons, List.foldl_nil, Act.put, List.setIfInBounds_toArray, List.set_cons_zero, List.set_cons_succ] at hK ⊢
                  simp only [e1] at hK ⊢
                  have hY := BZ.out.trans (hI.b.mono BZ.out.size)
                  go_wp2_with (go_at_call 19; refine (HG.out y hY).mono ?_; rintro e z ⟨A5, c6, rs5, rfl, hb4, hg5⟩)
                  exact hK.out _ _ ⟨(hI.b.trans (hb4.mono hI.b.size)), (fun _ _ => ⟨A5, c6, rs5, rfl, hg5⟩), (fun h => Bool.noConfusion ((hup 3 (by kernel_rfl)).symm.trans h)), hI.v0, hI.v1, hI.v6, hI.v8⟩
                case sy3 =>
                  intro xs done y hI hd0 hup hdn K hK
                  refine wpOp_go (o := ⟨some 107, _, _, _, _, _⟩) rfl rfl ?_
                  have e0 := hI.v0 (hdn 0 (by kernel_rfl))
                  have hm2 := hI.m2 (hdn 2 (by kernel_rfl)) hd0
                  simp only [putsF, List.foldl_cons, List.foldl_nil, Act.put, List.setIfInBounds_toArray, List.set_cons_zero, List.set_cons_succ] at hK ⊢
                  obtain ⟨A5, c6, rs5, e2, hg2⟩ := hm2
                  simp only [e0, e2] at hK ⊢
                  have hq := HTK.out y A5 c6 rs5 hI.b hg2
                  go_wp2_with (go_at_call 25; refine hq.mono ?_; rintro e z ⟨hb4, A6, c7, rfl, hr6⟩)
                  exact hK.out _ _ ⟨(hI.b.trans (hb4.mono hI.b.size)), (fun _ h => Bool.noConfusion h), (fun _ => ⟨A6, c7, rfl, hr6, (fun h => Bool.noConfusion ((hup 4 (by kernel_rfl)).symm.trans h)), (fun h => Bool.noConfusion ((hup 5 (by kernel_rfl)).symm.trans h)), (fun h => Bool.noConfusion ((hup 7 (by kernel_rfl)).symm.trans h))⟩), hI.v0, hI.v1, hI.v6, hI.v8⟩
                case sy4 =>
                  intro xs done y hI hd0 hup hdn K hK
                  refine wpOp_go (o := ⟨some 103, _, _, _, _, _⟩) rfl rfl ?_
                  have hm3 := hI.m3 (hdn 3 (by kernel_rfl))
                  simp only [putsF, List.foldl_cons, List.foldl_nil, Act.put, List.setIfInBounds_toArray, List.set_cons_zero, List.set_cons_succ] at hK ⊢
                  obtain ⟨A6, c6, e3, r6, h4, h5, h7⟩ := hm3
                  simp only [e3] at hK ⊢
                  go_wp2_with fail
                  exact hK.out _ _ ⟨hI.b, hI.m2, (fun _ => ⟨A6, c6, e3, r6, fun _ => rfl, h5, h7⟩), hI.v0, hI.v1, hI.v6, hI.v8⟩
                case sy5 =>
                  intro xs done y hI hd0 hup hdn K hK
                  refine wpOp_go (o := ⟨some 108, _, _, _, _, _⟩) rfl rfl ?_
                  have hm3 := hI.m3 (hdn 3 (by kernel_rfl))
                  simp only [putsF, List.foldl_cons, List.foldl_nil, Act.put, List.setIfInBounds_toArray, List.set_cons_zero, List.set_cons_succ] at hK ⊢
                  obtain ⟨A6, c6, e3, r6, h4, h5, h7⟩ := hm3
                  have e4 := h4 (hdn 4 (by kernel_rfl))
                  simp only [e3, e4] at hK ⊢
                  go_wp2_with fail
                  exact hK.out _ _ ⟨hI.b, hI.m2, (fun _ => ⟨A6, c6, e3, r6, h4, fun _ => rfl, h7⟩), hI.v0, hI.v1, hI.v6, hI.v8⟩
                case sy6 =>
                  intro xs done y hI hd0 hup hdn K hK
                  refine wpOp_go (o := ⟨some 109, _, _, _, _, _⟩) rfl rfl ?_
                  have hm3 := hI.m3 (hdn 3 (by kernel_rfl))
                  simp only [putsF, List.foldl_cons, List.foldl_nil, Act.put, List.setIfInBounds_toArray, List.set_cons_zero, List.set_cons_succ] at hK ⊢
                  obtain ⟨A6, c6, e3, r6, h4, h5, h7⟩ := hm3
                  have e4 := h4 (hdn 4 (by kernel_rfl))
                  simp only [e3, e4] at hK ⊢
                  go_wp2_with fail
                  exact hK.out _ _ ⟨hI.b, hI.m2, hI.m3, hI.v0, hI.v1, fun _ => rfl, hI.v8⟩
                case sy7 =>
                  intro xs done y hI hd0 hup hdn K hK
                  refine wpOp_go (o := ⟨some 15, _, _, _, _, _⟩) rfl rfl ?_
                  have hm3 := hI.m3 (hdn 3 (by kernel_rfl))
                  simp only [putsF, List.foldl_cons, List.foldl_nil, Act.put, List.setIfInBounds_toArray, List.set_cons_zero, List.set_cons_succ] at hK ⊢
                  obtain ⟨A6, c6, e3, r6, h4, h5, h7⟩ := hm3
                  have e5 := h5 (hdn 5 (by kernel_rfl))
                  simp only [e3, e5] at hK ⊢
                  go_wp2_with fail
                  exact hK.out _ _ ⟨hI.b, hI.m2, (fun _ => ⟨A6, c6, e3, r6, h4, h5, fun _ => rfl⟩), hI.v0, hI.v1, hI.v6, hI.v8⟩
                case sy8 =>
                  intro xs done y hI hd0 hup hdn K hK
                  refine wpOp_go (o := ⟨some 16, _, _, _, _, _⟩) rfl rfl ?_
                  have e6 := hI.v6 (hdn 6 (by kernel_rfl))
                  simp only [putsF, List.foldl_cons, List.foldl_nil, Act.put, List.setIfInBounds_toArray, List.set_cons_zero, List.set_cons_succ] at hK ⊢
                  simp only [e6] at hK ⊢
                  go_wp2_with fail
                  exact hK.out _ _ ⟨hI.b, hI.m2, hI.m3, hI.v0, hI.v1, hI.v6, fun _ => rfl⟩
                case finy =>
                  intro xs done y hI hd
                  have hm3 := hI.m3 (hd 3 (by decide))
                  have e8 := hI.v8 (hd 8 (by decide))
                  have hb6 := hI.b
                  simp only [putsF, List.foldl_cons, List.foldl_nil, Act.put, List.setIfInBounds_toArray, List.set_cons_zero, List.set_cons_succ]
                  obtain ⟨A6, c6, e3, r6, h4, h5, h7⟩ := hm3
                  have e7 := h7 (hd 7 (by decide))
                  simp only [e7, e8]
                  have B9 := Lib.hid (BZ.out.trans (hb6.mono BZ.out.size))
                  have Q4 := Lib.hid (Q2.out.below hb6 Q2.out.lt)
                  have Q5 := Lib.hid (Q3.out.below hb6 Q3.out.lt)
                  have HR6 := Lib.hid r6
                  clear hI hd e3 h4 h5 h7 e7 e8 hb6 r6 Q2 Q3 BZ RO HTK
                  go_upto_region 17 with fail
                  go_loopw [17, 18] (fun sv jv wx => ∃ j : Nat, j ≤ L.length ∧ jv = .int .i64 (j : Int) ∧ sv = .int .i64 (smZ L j) ∧ wx = y) (fun _ jv _ => L.length - (intOf jv).toNat)
                  case atStart => exact ⟨0, Nat.zero_le _, rfl, rfl, rfl⟩
                  case round =>
                    obtain ⟨j, hj, rfl, rfl, rfl⟩ := hrel
                    by_cases hlj : j < L.length
                    · obtain ⟨b, o, rfl, hbl, hcc⟩ := HR6.out.2 (by omega)
                      have hy : wr.cell? ⟨b, o + j, none⟩ = some (.int .i64 L[j]) := hcc j _ (by simp [hlj])
                      have hin2 : (j : Int) < (L.length : Int) := by omega
                      have e1 := smZ_succ L hlj
                      have b1 := smZ_bd HT2.out (j + 1) (by omega)
                      have ew : IntKind.i64.wrap (smZ L j + L[j]) = smZ L (j + 1) := by have := HLL.out; rw [e1] at b1 ⊢; exact IntWalk.i64_in _ (by omega)
                      have ej : IntKind.i64.wrap ((j : Int) + 1) = (j : Int) + 1 := IntWalk.i64_in _ (by have := HLL.out; omega)
                      clear hcc e1 b1
                      generalize L[j] = x at hy ew
                      go_wp2_with fail
                      go_roundw
                      case rel => exact ⟨j + 1, by omega, by go_num, rfl, trivial⟩
                      case measure => simp [intOf]; omega
                    · obtain rfl : j = L.length := by omega
                      rw [← HSP.out]
                      generalize prS f l r pz = sp at hsb HSP hbz ⊢
                      have q1 := Q5.out
                      have hx := HXX.out wr B9.out
                      have lb : b3 < wr.heap.size := by have := B9.out.size; omega
                      have pz1 : wr.cell? ⟨gb, 1, none⟩ = some (.slice (some ⟨b3, o3, none⟩) zs.length c3) := q1.cell (j := 1) (by simp)
                      have lgb := q1.lt
                      have g1 : ¬ t2 < sp := by omega
                      clear HSP hlj hj q1
                      by_cases g2 : sp = t2
                      · have g3 : ¬ pz < t1 := by omega
                        clear hbz
                        go_wp2_with fail
                        go_roundw
                        case rel => exact ⟨k + 1, by omega, by go_num, B9.out, Q4.out, Q5.out⟩
                        case measure => simp [intOf]; omega
                      · clear hbz
                        go_wp2_with fail
                        go_roundw
                        case rel => exact ⟨k + 1, by omega, by go_num, B9.out, Q4.out, Q5.out⟩
                        case measure => simp [intOf]; omega
              · obtain rfl : k = zs.length := by omega
                have HBl := Lib.hid hbel
                clear hbel q0 q1
                go_wp2_with (go_at_call 16; refine (Hfin.out _ HBl.out).mono ?_; rintro e w3 ⟨rfl, hb3⟩; have HB3 := Lib.hid hb3; clear hb3)
                go_ret
                exact ⟨rfl, HB3.out⟩
          · go_wp2_with (go_at_call 16; refine (Hfin.out _ B8.out).mono ?_; rintro e w3 ⟨rfl, hb3⟩; have HB3 := Lib.hid hb3; clear hb3)
            go_ret
            exact ⟨rfl, HB3.out⟩
end Go.Proofs.Ytijbhcdnbaaobaa
