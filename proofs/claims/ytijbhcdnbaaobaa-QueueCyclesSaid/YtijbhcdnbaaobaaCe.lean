/- The walk of QueueCycles. Conditions: an evening and groups that read as data. -/
import Derived.Test.YtijbhcdnbaaobaaCd
import Derived.Test.YtijbhcdnbaaobaaYr
namespace Go.Proofs.Ytijbhcdnbaaobaa
open Go.RowKit

/-- What has come up in the call of Cycle. -/
structure CycI (U : World) (f : EveZ) (l : List GrpZ) (ride low high : Int) (A A2 : Option Addr) (c c2 gb : Nat) (t1 t2 : Int) (done : Nat → Bool) (xs : Nat → Value) (y : World) : Prop where
  b : Below U.heap.size U y
  m1 : done 1 = true → done 10 = false → ∃ A4 c4, xs 1 = .agg #[.slice A4 f.rides.length c4, .int .i64 f.walk] ∧ Reads y y.heap.size 5 A4 f.rides.length (bthCells f.rides)
  m3 : done 3 = true → done 10 = false → ∃ A5 c5 rs5, xs 3 = .slice A5 l.length c5 ∧ GrpsIn y y.heap.size A5 rs5 l
  v0 : done 0 = true → xs 0 = .agg #[.slice A f.rides.length c, .int .i64 f.walk]
  v2 : done 2 = true → xs 2 = .slice A2 l.length c2
  v4 : done 4 = true → xs 4 = .pointer (some ⟨gb, 0, none⟩)
  v5 : done 5 = true → xs 5 = .int .i64 ride
  v6 : done 6 = true → xs 6 = .pointer (some ⟨gb, 1, none⟩)
  v7 : done 7 = true → xs 7 = .int .i64 low
  v8 : done 8 = true → xs 8 = .pointer (some ⟨gb, 2, none⟩)
  v9 : done 9 = true → xs 9 = .int .i64 high
  v10 : done 10 = true → xs 10 = .tuple #[.int .i64 t1, .int .i64 t2]
  v11 : done 11 = true → xs 11 = .tuple #[.int .i64 t1, .int .i64 t2]
  v12 : done 12 = true → xs 12 = .int .i64 t1
  v13 : done 13 = true → xs 13 = .int .i64 t2
  v14 : done 14 = true → xs 14 = .int .i64 t1
  v15 : done 15 = true → xs 15 = .int .i64 t2
set_option maxRecDepth 100000 in
set_option maxHeartbeats 4000000 in
theorem qcycles_walk (f : EveZ) (l : List GrpZ) (ride low high : Int) (A A2 : Option Addr) (c c2 B : Nat) (rs : List (Option Addr × Nat)) (w : World) (hB : B ≤ w.heap.size) (hr : Reads w B 5 A f.rides.length (bthCells f.rides)) (hn : f.rides.length ≤ maxLen) (hl : GrpsIn w B A2 rs l) :
    Calls Try.prog 9 #[eveV f A c, .slice A2 l.length c2, .agg #[.int .i64 ride, .int .i64 low, .int .i64 high]] w (TrueP w) := by
  obtain ⟨W, hW⟩ : ∃ W, W = (w.alloc (.cells #[.slice A f.rides.length c, .int .i64 f.walk] 24)).alloc (.cells #[.int .i64 ride, .int .i64 low, .int .i64 high] 50) := ⟨_, rfl⟩
  have bW : Below w.heap.size w W := by subst hW; exact ((Below.refl _ _).alloc (Nat.le_refl _) _).alloc (by simp) _
  have r0 : Row W w.heap.size 24 [.slice A f.rides.length c, .int .i64 f.walk] := by subst hW; exact (Row.new w _ _).alloc _
  have r1 : Row W (w.heap.size + 1) 50 [.int .i64 ride, .int .i64 low, .int .i64 high] := by
    subst hW
    have := Row.new (w.alloc (.cells #[.slice A f.rides.length c, .int .i64 f.walk] 24)) 50 #[.int .i64 ride, .int .i64 low, .int .i64 high]
    rw [World.size_alloc] at this
    exact this
  have q0 : W.cell? ⟨w.heap.size, 0, none⟩ = some (.slice A f.rides.length c) := r0.cell (j := 0) (by simp)
  have q1 : W.cell? ⟨w.heap.size, 1, none⟩ = some (.int .i64 f.walk) := r0.cell (j := 1) (by simp)
  have z0 := r0.lt
  have z1 := r1.lt
  have HR : Hid (∀ X, Below w.heap.size w X → B ≤ X.heap.size ∧ Reads X B 5 A f.rides.length (bthCells f.rides) ∧ GrpsIn X B A2 rs l) := fun X hX => ⟨Nat.le_trans hB hX.size, hr.below (hX.mono hB), hl.below (hX.mono hB)⟩
  have HF := Lib.hid (far_any f l A A2 c c2 B rs W (HR.out W bW).1 hn (HR.out W bW).2.2)
  have Hfin : Hid (∀ X : World, Below w.heap.size w X → Calls Try.prog 16 #[] X fun e w' => e = .returned (.bool true) ∧ Below w.heap.size w w') := fun X hX => (works_any X).mono fun _ _ h => ⟨h.1, hX.trans (h.2.mono hX.size)⟩
  unfold eveV at HF ⊢
  clear hr hl
  go_enter Try.func9, Try.ntmps9
  go_upto_region 1 with (fail)
  rw [← hW]
  clear hW
  cases hfb : farB f l with
  | true =>
    rw [hfb] at HF
    go_wp2_with (first | (go_at_call 15; refine HF.out.mono ?_; rintro e w1 ⟨rfl, hb1⟩; have b1 := bW.trans (hb1.mono bW.size); clear hb1) | (go_at_call 16; refine (Hfin.out _ b1).mono ?_; rintro e w2 ⟨rfl, hb2⟩; have HB2 := Lib.hid hb2; clear hb2))
    go_ret
    exact ⟨rfl, HB2.out⟩
  | false =>
    rw [hfb] at HF
    obtain ⟨n1, n2, n3⟩ := far_not hfb
    have HC : Hid (∀ X, Below w.heap.size w X → Calls Try.prog 18 #[eveV f A c] X (EveTo X f)) := fun X hX => rCopy_any f A c B X (HR.out X hX).1 (HR.out X hX).2.1 (by omega)
    have HG : Hid (∀ X, Below w.heap.size w X → Calls Try.prog 19 #[.slice A2 l.length c2] X (GrpTo X l)) := fun X hX => rCopyGroups_any l A2 c2 B rs X (HR.out X hX).1 (HR.out X hX).2.2 (by omega) (fun i hi => by have := n3 i hi; omega)
    obtain ⟨t, ht⟩ : ∃ t, t = cyR f l ride low high := ⟨_, rfl⟩
    have HT : Hid (∀ (X : World) (A1 A3 : Option Addr) (c1 c3 : Nat) (rs3 : List (Option Addr × Nat)), Reads X X.heap.size 5 A1 f.rides.length (bthCells f.rides) → GrpsIn X X.heap.size A3 rs3 l → Calls Try.prog 38 #[eveV f A1 c1, .slice A3 l.length c3, .int .i64 ride, .int .i64 low, .int .i64 high] X fun e w' => e = .returned (.tuple #[.int .i64 t.1, .int .i64 t.2]) ∧ Below X.heap.size X w') := fun X A1 A3 c1 c3 rs3 h4 h5 => by
      rw [ht]
      exact Cycle_any f l A1 A3 c1 c3 X.heap.size rs3 ride low high X (Nat.le_refl _) h4 hn h5
    have HH : Hid (∀ X, Below w.heap.size w X → Calls Try.prog 39 #[eveV f A c, .slice A2 l.length c2, .int .i64 ride, .int .i64 low, .int .i64 high] X fun e w' => e = .returned (.tuple #[.int .i64 t.1, .int .i64 t.2]) ∧ Below X.heap.size X w') := fun X hX => by
      rw [ht]
      exact rCycle_any f l A A2 c c2 B rs ride low high X (HR.out X hX).1 (HR.out X hX).2.1 hn (HR.out X hX).2.2
    unfold eveV at HC HT HH
    obtain ⟨d, hd⟩ : ∃ d, d = IntKind.i64.wrap (high - low) := ⟨_, rfl⟩
    have ed : IntKind.i64.wrap (high - low) = d := hd.symm
    clear hd
    obtain ⟨t1, t2⟩ := t
    obtain ⟨v0, hv0⟩ : ∃ v0, v0 = (decide (1 ≤ low) && decide (high ≤ 100) && decide (5 < d) && decide (d ≤ 20)) := ⟨_, rfl⟩
    have HV := Lib.hid hv0
    clear hfb hn ht n1 n2 n3 hv0
    go_cut [39] (fun s wy => s = .bool v0 ∧ Below W.heap.size W wy)
    case first =>
      by_cases g1 : 1 ≤ low
      · by_cases g2 : high ≤ 100
        · by_cases g3 : 5 < d
          · by_cases g4 : d ≤ 20
            · go_wp2_with (go_at_call 15; refine HF.out.mono ?_; rintro e w1 ⟨rfl, hb1⟩; have r4 := r1.below hb1 z1; have u1 : w1.cell? ⟨w.heap.size + 1, 1, none⟩ = some (.int .i64 low) := r4.cell (j := 1) (by simp); have u2 : w1.cell? ⟨w.heap.size + 1, 2, none⟩ = some (.int .i64 high) := r4.cell (j := 2) (by simp); have l4 := r4.lt; have B1 := Lib.hid hb1; clear hb1 r4)
              go_meet
              exact ⟨by rw [HV.out]; simp [g1, g2, g3, g4], B1.out⟩
            · go_wp2_with (go_at_call 15; refine HF.out.mono ?_; rintro e w1 ⟨rfl, hb1⟩; have r4 := r1.below hb1 z1; have u1 : w1.cell? ⟨w.heap.size + 1, 1, none⟩ = some (.int .i64 low) := r4.cell (j := 1) (by simp); have u2 : w1.cell? ⟨w.heap.size + 1, 2, none⟩ = some (.int .i64 high) := r4.cell (j := 2) (by simp); have l4 := r4.lt; have B1 := Lib.hid hb1; clear hb1 r4)
              go_meet
              exact ⟨by rw [HV.out]; simp [g1, g2, g3], B1.out⟩
          · go_wp2_with (go_at_call 15; refine HF.out.mono ?_; rintro e w1 ⟨rfl, hb1⟩; have r4 := r1.below hb1 z1; have u1 : w1.cell? ⟨w.heap.size + 1, 1, none⟩ = some (.int .i64 low) := r4.cell (j := 1) (by simp); have u2 : w1.cell? ⟨w.heap.size + 1, 2, none⟩ = some (.int .i64 high) := r4.cell (j := 2) (by simp); have l4 := r4.lt; have B1 := Lib.hid hb1; clear hb1 r4)
            go_meet
            exact ⟨by rw [HV.out]; simp [g1, g2]; omega, B1.out⟩
        · go_wp2_with (go_at_call 15; refine HF.out.mono ?_; rintro e w1 ⟨rfl, hb1⟩; have r4 := r1.below hb1 z1; have u1 : w1.cell? ⟨w.heap.size + 1, 1, none⟩ = some (.int .i64 low) := r4.cell (j := 1) (by simp); have u2 : w1.cell? ⟨w.heap.size + 1, 2, none⟩ = some (.int .i64 high) := r4.cell (j := 2) (by simp); have l4 := r4.lt; have B1 := Lib.hid hb1; clear hb1 r4)
          go_meet
          exact ⟨by rw [HV.out]; simp [g1]; omega, B1.out⟩
      · go_wp2_with (go_at_call 15; refine HF.out.mono ?_; rintro e w1 ⟨rfl, hb1⟩; have r4 := r1.below hb1 z1; have u1 : w1.cell? ⟨w.heap.size + 1, 1, none⟩ = some (.int .i64 low) := r4.cell (j := 1) (by simp); have u2 : w1.cell? ⟨w.heap.size + 1, 2, none⟩ = some (.int .i64 high) := r4.cell (j := 2) (by simp); have l4 := r4.lt; have B1 := Lib.hid hb1; clear hb1 r4)
        go_meet
        exact ⟨by rw [HV.out]; simp; omega, B1.out⟩
    case rest =>
      obtain ⟨rfl, hb1⟩ := hcut
      obtain ⟨w2, rfl⟩ : ∃ x : World, x = wc := ⟨_, rfl⟩
      have b2 := bW.trans (hb1.mono bW.size)
      have r3 := r0.below hb1 z0
      have r4 := r1.below hb1 z1
      have B2 := Lib.hid b2
      have R3 := Lib.hid r3
      have HGB : Hid (∃ gb, gb = w.heap.size + 1) := ⟨_, rfl⟩
      clear b2 r3 hb1 r0 r1 q0 q1 z0 z1 bW HF HV
      cases v0 with
      | true =>
        go_wp2_with (go_at_call 16; refine (Hfin.out _ B2.out).mono ?_; rintro e w3 ⟨rfl, hb3⟩; have HB3 := Lib.hid hb3; clear hb3)
        go_ret
        exact ⟨rfl, HB3.out⟩
      | false =>
        obtain ⟨gb, hgb⟩ := HGB.out
        rw [← hgb] at r4 ⊢
        have R4 := Lib.hid r4
        clear r4 hgb HGB
        go_upto_region 3 with fail
        refine wp_region_stepsY 16 (ord := [0, 1, 2, 3, 4, 5, 6, 7, 8, 9, 10, 11, 12, 13, 14, 15]) (ds := [(0, 42), (1, 43), (2, 44), (3, 45), (4, 46), (5, 47), (6, 48), (7, 49), (8, 50), (9, 51), (10, 52), (11, 41), (12, 53), (13, 54), (14, 7), (15, 8)]) (I := CycI w2 f l ride low high A A2 c c2 gb t1 t2) (by kernel_rfl) (by kernel_rfl) rfl ?iz (StepsY.cons (k := 0) (k' := 1) (o := ⟨some 42, _, _, _, _, _⟩) rfl rfl ?sz0 (StepsY.cons (k := 1) (k' := 2) (o := ⟨some 43, _, _, _, _, _⟩) rfl rfl ?sz1 (StepsY.cons (k := 2) (k' := 3) (o := ⟨some 44, _, _, _, _, _⟩) rfl rfl ?sz2 (StepsY.cons (k := 3) (k' := 4) (o := ⟨some 45, _, _, _, _, _⟩) rfl rfl ?sz3 (StepsY.cons (k := 4) (k' := 5) (o := ⟨some 46, _, _, _, _, _⟩) rfl rfl ?sz4 (StepsY.cons (k := 5) (k' := 6) (o := ⟨some 47, _, _, _, _, _⟩) rfl rfl ?sz5 (StepsY.cons (k := 6) (k' := 7) (o := ⟨some 48, _, _, _, _, _⟩) rfl rfl ?sz6 (StepsY.cons (k := 7) (k' := 8) (o := ⟨some 49, _, _, _, _, _⟩) rfl rfl ?sz7 (StepsY.cons (k := 8) (k' := 9) (o := ⟨some 50, _, _, _, _, _⟩) rfl rfl ?sz8 (StepsY.cons (k := 9) (k' := 10) (o := ⟨some 51, _, _, _, _, _⟩) rfl rfl ?sz9 (StepsY.cons (k := 10) (k' := 11) (o := ⟨some 52, _, _, _, _, _⟩) rfl rfl ?sz10 (StepsY.cons (k := 11) (k' := 12) (o := ⟨some 41, _, _, _, _, _⟩) rfl rfl ?sz11 (StepsY.cons (k := 12) (k' := 13) (o := ⟨some 53, _, _, _, _, _⟩) rfl rfl ?sz12 (StepsY.cons (k := 13) (k' := 14) (o := ⟨some 54, _, _, _, _, _⟩) rfl rfl ?sz13 (StepsY.cons (k := 14) (k' := 15) (o := ⟨some 7, _, _, _, _, _⟩) rfl rfl ?sz14 (StepsY.cons (k := 15) (k' := 16) (o := ⟨some 8, _, _, _, _, _⟩) rfl rfl ?sz15 StepsY.nil)))))))))))))))) ?finz
        case iz => exact fun xs => ⟨(Below.refl _ _).drew, fun h => Bool.noConfusion h, fun h => Bool.noConfusion h, fun h => Bool.noConfusion h, fun h => Bool.noConfusion h, fun h => Bool.noConfusion h, fun h => Bool.noConfusion h, fun h => Bool.noConfusion h, fun h => Bool.noConfusion h, fun h => Bool.noConfusion h, fun h => Bool.noConfusion h, fun h => Bool.noConfusion h, fun h => Bool.noConfusion h, fun h => Bool.noConfusion h, fun h => Bool.noConfusion h, fun h => Bool.noConfusion h, fun h => Bool.noConfusion h⟩
        case sz0 =>
          intro xs done y hI hd0 hup hdn K hK
          refine wpOp_go (o := ⟨some 42, _, _, _, _, _⟩) rfl rfl ?_
          simp only [putsF, List.foldl_cons, List.foldl_nil, Act.put, List.setIfInBounds_toArray, List.set_cons_zero, List.set_cons_succ] at hK ⊢
          have rE := R3.out.below hI.b R3.out.lt
          have y0 : y.cell? ⟨w.heap.size, 0, none⟩ = some (.slice A f.rides.length c) := rE.cell (j := 0) (by simp)
          have y1 : y.cell? ⟨w.heap.size, 1, none⟩ = some (.int .i64 f.walk) := rE.cell (j := 1) (by simp)
          have lE := rE.lt
          go_wp2_with fail
          exact hK.out _ _ ⟨hI.b, hI.m1, hI.m3, fun _ => rfl, hI.v2, hI.v4, hI.v5, hI.v6, hI.v7, hI.v8, hI.v9, hI.v10, hI.v11, hI.v12, hI.v13, hI.v14, hI.v15⟩
        case sz1 =>
          intro xs done y hI hd0 hup hdn K hK
          refine wpOp_go (o := ⟨some 43, _, _, _, _, _⟩) rfl rfl ?_
          have e0 := hI.v0 (hdn 0 (by kernel_rfl))
          simp only [putsF, List.foldl_cons, List.foldl_nil, Act.put, List.setIfInBounds_toArray, List.set_cons_zero, List.set_cons_succ] at hK ⊢
          simp only [e0] at hK ⊢
          have hY := B2.out.trans (hI.b.mono B2.out.size)
          go_wp2_with (go_at_call 18; refine (HC.out y hY).mono ?_; rintro e z ⟨A4, c4, rfl, hb4, ho4⟩; unfold eveV)
          exact hK.out _ _ ⟨(hI.b.trans (hb4.mono hI.b.size)), (fun _ _ => ⟨A4, c4, rfl, own_rds ho4⟩), (fun h _ => Bool.noConfusion ((hup 3 (by kernel_rfl)).symm.trans h)), hI.v0, hI.v2, hI.v4, hI.v5, hI.v6, hI.v7, hI.v8, hI.v9, hI.v10, hI.v11, hI.v12, hI.v13, hI.v14, hI.v15⟩
        case sz2 =>
          intro xs done y hI hd0 hup hdn K hK
          refine wpOp_go (o := ⟨some 44, _, _, _, _, _⟩) rfl rfl ?_
          simp only [putsF, List.foldl_cons, List.foldl_nil, Act.put, List.setIfInBounds_toArray, List.set_cons_zero, List.set_cons_succ] at hK ⊢
          go_wp2_with fail
          exact hK.out _ _ ⟨hI.b, hI.m1, hI.m3, hI.v0, fun _ => rfl, hI.v4, hI.v5, hI.v6, hI.v7, hI.v8, hI.v9, hI.v10, hI.v11, hI.v12, hI.v13, hI.v14, hI.v15⟩
        case sz3 =>
          intro xs done y hI hd0 hup hdn K hK
          refine wpOp_go (o := ⟨some 45, _, _, _, _, _⟩) rfl rfl ?_
          have e2 := hI.v2 (hdn 2 (by kernel_rfl))
          simp only [putsF, List.foldl_cons, List.foldl_nil, Act.put, List.setIfInBounds_toArray, List.set_cons_zero, List.set_cons_succ] at hK ⊢
          simp only [e2] at hK ⊢
          have hY := B2.out.trans (hI.b.mono B2.out.size)
          go_wp2_with (go_at_call 19; refine (HG.out y hY).mono ?_; rintro e z ⟨A5, c5, rs5, rfl, hb4, hg5⟩)
          exact hK.out _ _ ⟨(hI.b.trans (hb4.mono hI.b.size)), (fun h h10 => (hI.m1 h h10).imp fun A4 h => h.imp fun c4 h => ⟨h.1, (h.2.below hb4).more hb4.size⟩), (fun _ _ => ⟨A5, c5, rs5, rfl, hg5⟩), hI.v0, hI.v2, hI.v4, hI.v5, hI.v6, hI.v7, hI.v8, hI.v9, hI.v10, hI.v11, hI.v12, hI.v13, hI.v14, hI.v15⟩
        case sz4 =>
          intro xs done y hI hd0 hup hdn K hK
          refine wpOp_go (o := ⟨some 46, _, _, _, _, _⟩) rfl rfl ?_
          simp only [putsF, List.foldl_cons, List.foldl_nil, Act.put, List.setIfInBounds_toArray, List.set_cons_zero, List.set_cons_succ] at hK ⊢
          have rG := R4.out.below hI.b R4.out.lt
          have lG := rG.lt
          go_wp2_with fail
          exact hK.out _ _ ⟨hI.b, hI.m1, hI.m3, hI.v0, hI.v2, fun _ => rfl, hI.v5, hI.v6, hI.v7, hI.v8, hI.v9, hI.v10, hI.v11, hI.v12, hI.v13, hI.v14, hI.v15⟩
        case sz5 =>
          intro xs done y hI hd0 hup hdn K hK
          refine wpOp_go (o := ⟨some 47, _, _, _, _, _⟩) rfl rfl ?_
          have e4 := hI.v4 (hdn 4 (by kernel_rfl))
          simp only [putsF, List.foldl_cons, List.foldl_nil, Act.put, List.setIfInBounds_toArray, List.set_cons_zero, List.set_cons_succ] at hK ⊢
          simp only [e4] at hK ⊢
          have rG := R4.out.below hI.b R4.out.lt
          have y0 : y.cell? ⟨gb, 0, none⟩ = some (.int .i64 ride) := rG.cell (j := 0) (by simp)
          have y1 : y.cell? ⟨gb, 1, none⟩ = some (.int .i64 low) := rG.cell (j := 1) (by simp)
          have y2 : y.cell? ⟨gb, 2, none⟩ = some (.int .i64 high) := rG.cell (j := 2) (by simp)
          have lG := rG.lt
          go_wp2_with fail
          exact hK.out _ _ ⟨hI.b, hI.m1, hI.m3, hI.v0, hI.v2, hI.v4, fun _ => rfl, hI.v6, hI.v7, hI.v8, hI.v9, hI.v10, hI.v11, hI.v12, hI.v13, hI.v14, hI.v15⟩
        case sz6 =>
          intro xs done y hI hd0 hup hdn K hK
          refine wpOp_go (o := ⟨some 48, _, _, _, _, _⟩) rfl rfl ?_
          simp only [putsF, List.foldl_cons, List.foldl_nil, Act.put, List.setIfInBounds_toArray, List.set_cons_zero, List.set_cons_succ] at hK ⊢
          have rG := R4.out.below hI.b R4.out.lt
          have lG := rG.lt
          go_wp2_with fail
          exact hK.out _ _ ⟨hI.b, hI.m1, hI.m3, hI.v0, hI.v2, hI.v4, hI.v5, fun _ => rfl, hI.v7, hI.v8, hI.v9, hI.v10, hI.v11, hI.v12, hI.v13, hI.v14, hI.v15⟩
        case sz7 =>
          intro xs done y hI hd0 hup hdn K hK
          refine wpOp_go (o := ⟨some 49, _, _, _, _, _⟩) rfl rfl ?_
          have e6 := hI.v6 (hdn 6 (by kernel_rfl))
          simp only [putsF, List.foldl_cons, List.foldl_nil, Act.put, List.setIfInBounds_toArray, List.set_cons_zero, List.set_cons_succ] at hK ⊢
          simp only [e6] at hK ⊢
          have rG := R4.out.below hI.b R4.out.lt
          have y0 : y.cell? ⟨gb, 0, none⟩ = some (.int .i64 ride) := rG.cell (j := 0) (by simp)
          have y1 : y.cell? ⟨gb, 1, none⟩ = some (.int .i64 low) := rG.cell (j := 1) (by simp)
          have y2 : y.cell? ⟨gb, 2, none⟩ = some (.int .i64 high) := rG.cell (j := 2) (by simp)
          have lG := rG.lt
          go_wp2_with fail
          exact hK.out _ _ ⟨hI.b, hI.m1, hI.m3, hI.v0, hI.v2, hI.v4, hI.v5, hI.v6, fun _ => rfl, hI.v8, hI.v9, hI.v10, hI.v11, hI.v12, hI.v13, hI.v14, hI.v15⟩
        case sz8 =>
          intro xs done y hI hd0 hup hdn K hK
          refine wpOp_go (o := ⟨some 50, _, _, _, _, _⟩) rfl rfl ?_
          simp only [putsF, List.foldl_cons, List.foldl_nil, Act.put, List.setIfInBounds_toArray, List.set_cons_zero, List.set_cons_succ] at hK ⊢
          have rG := R4.out.below hI.b R4.out.lt
          have lG := rG.lt
          go_wp2_with fail
          exact hK.out _ _ ⟨hI.b, hI.m1, hI.m3, hI.v0, hI.v2, hI.v4, hI.v5, hI.v6, hI.v7, fun _ => rfl, hI.v9, hI.v10, hI.v11, hI.v12, hI.v13, hI.v14, hI.v15⟩
        case sz9 =>
          intro xs done y hI hd0 hup hdn K hK
          refine wpOp_go (o := ⟨some 51, _, _, _, _, _⟩) rfl rfl ?_
          have e8 := hI.v8 (hdn 8 (by kernel_rfl))
          simp only [putsF, List.foldl_cons, List.foldl_nil, Act.put, List.setIfInBounds_toArray, List.set_cons_zero, List.set_cons_succ] at hK ⊢
          simp only [e8] at hK ⊢
          have rG := R4.out.below hI.b R4.out.lt
          have y0 : y.cell? ⟨gb, 0, none⟩ = some (.int .i64 ride) := rG.cell (j := 0) (by simp)
          have y1 : y.cell? ⟨gb, 1, none⟩ = some (.int .i64 low) := rG.cell (j := 1) (by simp)
          have y2 : y.cell? ⟨gb, 2, none⟩ = some (.int .i64 high) := rG.cell (j := 2) (by simp)
          have lG := rG.lt
          go_wp2_with fail
          exact hK.out _ _ ⟨hI.b, hI.m1, hI.m3, hI.v0, hI.v2, hI.v4, hI.v5, hI.v6, hI.v7, hI.v8, fun _ => rfl, hI.v10, hI.v11, hI.v12, hI.v13, hI.v14, hI.v15⟩
        case sz10 =>
          intro xs done y hI hd0 hup hdn K hK
          refine wpOp_go (o := ⟨some 52, _, _, _, _, _⟩) rfl rfl ?_
          have e5 := hI.v5 (hdn 5 (by kernel_rfl))
          have e7 := hI.v7 (hdn 7 (by kernel_rfl))
          have e9 := hI.v9 (hdn 9 (by kernel_rfl))
          have hm1 := hI.m1 (hdn 1 (by kernel_rfl)) hd0
          have hm3 := hI.m3 (hdn 3 (by kernel_rfl)) hd0
          simp only [putsF, List.foldl_cons, List.foldl_nil, Act.put, List.setIfInBounds_toArray, List.set_cons_zero, List.set_cons_succ] at hK ⊢
          obtain ⟨A4, c4, e1, hr1⟩ := hm1
          obtain ⟨A5, c5, rs5, e3, hg3⟩ := hm3
          simp only [e5, e7, e9, e1, e3] at hK ⊢
          have hq := HT.out y A4 A5 c4 c5 rs5 hr1 hg3
          go_wp2_with (go_at_call 38; refine hq.mono ?_; rintro e z ⟨rfl, hb4⟩)
          exact hK.out _ _ ⟨(hI.b.trans (hb4.mono hI.b.size)), (fun _ h => Bool.noConfusion h), (fun _ h => Bool.noConfusion h), hI.v0, hI.v2, hI.v4, hI.v5, hI.v6, hI.v7, hI.v8, hI.v9, fun _ => rfl, hI.v11, hI.v12, hI.v13, hI.v14, hI.v15⟩
        case sz11 =>
          intro xs done y hI hd0 hup hdn K hK
          refine wpOp_go (o := ⟨some 41, _, _, _, _, _⟩) rfl rfl ?_
          have e10 := hI.v10 (hdn 10 (by kernel_rfl))
          simp only [putsF, List.foldl_cons, List.foldl_nil, Act.put, List.setIfInBounds_toArray, List.set_cons_zero, List.set_cons_succ] at hK ⊢
          simp only [e10] at hK ⊢
          go_wp2_with fail
          exact hK.out _ _ ⟨hI.b, hI.m1, hI.m3, hI.v0, hI.v2, hI.v4, hI.v5, hI.v6, hI.v7, hI.v8, hI.v9, hI.v10, fun _ => rfl, hI.v12, hI.v13, hI.v14, hI.v15⟩
        case sz12 =>
          intro xs done y hI hd0 hup hdn K hK
          refine wpOp_go (o := ⟨some 53, _, _, _, _, _⟩) rfl rfl ?_
          have e11 := hI.v11 (hdn 11 (by kernel_rfl))
          simp only [putsF, List.foldl_cons, List.foldl_nil, Act.put, List.setIfInBounds_toArray, List.set_cons_zero, List.set_cons_succ] at hK ⊢
          simp only [e11] at hK ⊢
          go_wp2_with fail
          exact hK.out _ _ ⟨hI.b, hI.m1, hI.m3, hI.v0, hI.v2, hI.v4, hI.v5, hI.v6, hI.v7, hI.v8, hI.v9, hI.v10, hI.v11, fun _ => rfl, hI.v13, hI.v14, hI.v15⟩
        case sz13 =>
          intro xs done y hI hd0 hup hdn K hK
          refine wpOp_go (o := ⟨some 54, _, _, _, _, _⟩) rfl rfl ?_
          have e11 := hI.v11 (hdn 11 (by kernel_rfl))
          simp only [putsF, List.foldl_cons, List.foldl_nil, Act.put, List.setIfInBounds_toArray, List.set_cons_zero, List.set_cons_succ] at hK ⊢
          simp only [e11] at hK ⊢
          go_wp2_with fail
          exact hK.out _ _ ⟨hI.b, hI.m1, hI.m3, hI.v0, hI.v2, hI.v4, hI.v5, hI.v6, hI.v7, hI.v8, hI.v9, hI.v10, hI.v11, hI.v12, fun _ => rfl, hI.v14, hI.v15⟩
        case sz14 =>
          intro xs done y hI hd0 hup hdn K hK
          refine wpOp_go (o := ⟨some 7, _, _, _, _, _⟩) rfl rfl ?_
          have e12 := hI.v12 (hdn 12 (by kernel_rfl))
          simp only [putsF, List.foldl_cons, List.foldl_nil, Act.put, List.setIfInBounds_toArray, List.set_cons_zero, List.set_cons_succ] at hK ⊢
          simp only [e12] at hK ⊢
          go_wp2_with fail
          exact hK.out _ _ ⟨hI.b, hI.m1, hI.m3, hI.v0, hI.v2, hI.v4, hI.v5, hI.v6, hI.v7, hI.v8, hI.v9, hI.v10, hI.v11, hI.v12, hI.v13, fun _ => rfl, hI.v15⟩
        case sz15 =>
          intro xs done y hI hd0 hup hdn K hK
          refine wpOp_go (o := ⟨some 8, _, _, _, _, _⟩) rfl rfl ?_
          have e13 := hI.v13 (hdn 13 (by kernel_rfl))
          simp only [putsF, List.foldl_cons, List.foldl_nil, Act.put, List.setIfInBounds_toArray, List.set_cons_zero, List.set_cons_succ] at hK ⊢
          simp only [e13] at hK ⊢
          go_wp2_with fail
          exact hK.out _ _ ⟨hI.b, hI.m1, hI.m3, hI.v0, hI.v2, hI.v4, hI.v5, hI.v6, hI.v7, hI.v8, hI.v9, hI.v10, hI.v11, hI.v12, hI.v13, hI.v14, fun _ => rfl⟩
        case finz =>
          intro xs done y hI hd
          have e14 := hI.v14 (hd 14 (by decide))
          have e15 := hI.v15 (hd 15 (by decide))
          have hb6 := hI.b
          simp only [putsF, List.foldl_cons, List.foldl_nil, Act.put, List.setIfInBounds_toArray, List.set_cons_zero, List.set_cons_succ]
          simp only [e14, e15]
          have rE := R3.out.below hb6 R3.out.lt
          have rG := R4.out.below hb6 R4.out.lt
          have B6 := Lib.hid (B2.out.trans (hb6.mono B2.out.size))
          have HH6 := Lib.hid (HH.out y B6.out)
          have x0 : y.cell? ⟨w.heap.size, 0, none⟩ = some (.slice A f.rides.length c) := rE.cell (j := 0) (by simp)
          have x1 : y.cell? ⟨w.heap.size, 1, none⟩ = some (.int .i64 f.walk) := rE.cell (j := 1) (by simp)
          have y0 : y.cell? ⟨gb, 0, none⟩ = some (.int .i64 ride) := rG.cell (j := 0) (by simp)
          have y1 : y.cell? ⟨gb, 1, none⟩ = some (.int .i64 low) := rG.cell (j := 1) (by simp)
          have y2 : y.cell? ⟨gb, 2, none⟩ = some (.int .i64 high) := rG.cell (j := 2) (by simp)
          have lE := rE.lt
          have lG := rG.lt
          clear hI hd e14 e15 rE rG hb6
          go_wp2_with (first
            | (go_at_call 39; refine HH6.out.mono ?_; rintro e w8 ⟨rfl, hb8⟩; have B8 := Lib.hid (B6.out.trans (hb8.mono B6.out.size)); clear hb8 HH6)
            | (go_at_call 16; refine (Hfin.out _ B8.out).mono ?_; rintro e w11 ⟨rfl, hb11⟩; have HB11 := Lib.hid hb11; clear hb11))
          go_ret
          exact ⟨rfl, HB11.out⟩
end Go.Proofs.Ytijbhcdnbaaobaa
