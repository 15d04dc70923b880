/- Contract of the specification's stand. Conditions: the play lies in memory. -/
import Derived.Test.YtijbhcdnbaaobaaDb
import Derived.Test.YtijbhcdnbaaobaaYr
namespace Go.Proofs.Ytijbhcdnbaaobaa
open Go.RowKit

/-- What does not turn, valid. -/
structure StatE (E : RfE) : Prop where
  nr : E.f.rides.length ≤ 8
  ng : E.l.length ≤ 60
  walk : 0 ≤ E.f.walk ∧ E.f.walk ≤ 100
  gp : ∀ i, i < E.l.length → (0 ≤ (E.l.getD i default).at_ ∧ (E.l.getD i default).at_ ≤ 2000) ∧ (0 ≤ (E.l.getD i default).patience ∧ (E.l.getD i default).patience ≤ 2000) ∧ (1 ≤ (E.l.getD i default).size ∧ (E.l.getD i default).size ≤ 40) ∧ (E.l.getD i default).wants.length ≤ 10 ∧ ∀ z ∈ (E.l.getD i default).wants, 0 ≤ z ∧ z < (E.f.rides.length : Int)
  rd : ∀ r, r < E.f.rides.length → (1 ≤ (E.f.rides.getD r default).seats ∧ (E.f.rides.getD r default).seats ≤ 40) ∧ (0 ≤ (E.f.rides.getD r default).price ∧ (E.f.rides.getD r default).price ≤ 100) ∧ (1 ≤ (E.f.rides.getD r default).cycle ∧ (E.f.rides.getD r default).cycle ≤ 100) ∧ (0 ≤ (E.f.rides.getD r default).pause ∧ (E.f.rides.getD r default).pause ≤ 100)
def standR (E : RfE) (x : RawR) (i : Nat) : RawR := ((x.setGu i 0 2).setGu i 2 x.now).setQ (E.goal i (x.gu i 1)) (x.q (E.goal i (x.gu i 1)) ++ [i])
def StepRf (E : RfE) (w : World) (x : RawR) (e : Ending) (w' : World) : Prop := e = .returned (.tuple #[]) ∧ Below E.base w w' ∧ RfAt E w' x
structure StI (E : RfE) (U : World) (x : RawR) (qs : Nat → Value) (uv : Value) (r i : Nat) (done : Nat → Bool) (xs : Nat → Value) (y : World) : Prop where
  lv : E.v < y.heap.size
  c5 : y.cell? ⟨E.v, 5, none⟩ = some (.slice (some ⟨E.Q, 0, none⟩) E.f.rides.length E.cQ)
  cq : done 16 = false → y.cell? ⟨E.Q, r, none⟩ = some (qs r) ∧ E.Q < y.heap.size ∧ y.frozen? ⟨E.Q, r, none⟩ = false
  b : done 14 = false → Below U.heap.size U y
  m13 : done 13 = true → done 14 = false → ∃ g : Nat, xs 13 = .slice (some ⟨g, 0, none⟩) 1 1 ∧ Row y g 3 [.int .i64 (i : Int)]
  m14 : done 14 = true → done 16 = false → ∃ A c, xs 14 = .slice A ((x.q r).length + 1) c ∧ ∃ y0, RfIn E y0 x qs uv ∧ Below U.heap.size U y0 ∧ y0.grownBy y (qs r).ownBlock ∧ y.ownsRow E.base 3 1 (.slice A ((x.q r).length + 1) c) ((x.q r).length + 1) (qL (x.q r ++ [i])) ∧ ((xs 14).ownBlock = (qs r).ownBlock ∨ (xs 14).ownBlock = some y0.heap.size)
  e16 : done 16 = true → RfAt E y (x.setQ r (x.q r ++ [i])) ∧ Below E.base U y
  v0 : done 0 = true → xs 0 = .pointer (some ⟨E.v, 0, none⟩)
  v1 : done 1 = true → xs 1 = .pointer (some ⟨E.v, 0, none⟩)
  v2 : done 2 = true → xs 2 = .pointer (some ⟨E.v, 5, none⟩)
  v3 : done 3 = true → xs 3 = .slice (some ⟨E.Q, 0, none⟩) E.f.rides.length E.cQ
  v4 : done 4 = true → xs 4 = .int .i64 (r : Int)
  v5 : done 5 = true → xs 5 = .pointer (some ⟨E.v, 0, none⟩)
  v6 : done 6 = true → xs 6 = .pointer (some ⟨E.v, 0, none⟩)
  v7 : done 7 = true → xs 7 = .pointer (some ⟨E.v, 5, none⟩)
  v8 : done 8 = true → xs 8 = .slice (some ⟨E.Q, 0, none⟩) E.f.rides.length E.cQ
  v9 : done 9 = true → xs 9 = .int .i64 (r : Int)
  v10 : done 10 = true → xs 10 = .pointer (some ⟨E.Q, r, none⟩)
  v11 : done 11 = true → xs 11 = qs r
  v12 : done 12 = true → xs 12 = .int .i64 (i : Int)
  v15 : done 15 = true → xs 15 = .pointer (some ⟨E.Q, r, none⟩)

set_option maxRecDepth 100000 in
set_option maxHeartbeats 2000000 in
theorem rstand_any {E : RfE} {w : World} {x : RawR} (h : RfAt E w x) (S : StatE E) {i : Nat} (hi : i < E.l.length) (h0 : 0 ≤ x.gu i 1) (h1 : x.gu i 1 < ((E.l.getD i default).wants.length : Int)) (hq : ∀ r, r < E.f.rides.length → (x.q r).length ≤ 1000) :
    Calls Try.prog 81 #[.pointer (some ⟨E.v, 0, none⟩), .int .i64 i] w (StepRf E w (standR E x i)) := by
  obtain ⟨qs, uv, h⟩ := h
  obtain ⟨i0, hinf, hz0, hz1, hz2⟩ := info_parts Try.info_int
  have hng := S.ng
  have hii : (i : Int) < (E.l.length : Int) := by omega
  obtain ⟨b, o, k, hk, hkl, he, hb, hc, hr⟩ := h.wish hi (S.gp i hi).2.2.2.2 h0 h1
  have hwl := (S.gp i hi).2.2.2.1
  have hnr := S.nr
  have hq1 := hq _ hr
  have HSR : Hid (standR E x i = ((x.setGu i 0 2).setGu i 2 x.now).setQ (E.goal i (x.gu i 1)) (x.q (E.goal i (x.gu i 1)) ++ [i])) := rfl
  have c1 := (h.gc hi).2.1
  have lG := (h.gc hi).2.2.2.2
  have v4 := h.pG (by omega)
  obtain ⟨_, _, v2, v3, _, lv⟩ := h.pc
  obtain ⟨b2, o2, ha2, hb2, _, _, _, l3, _⟩ := h.lc hi
  rw [ha2] at v2
  rw [he] at l3
  rw [hk] at c1
  obtain ⟨r, hrr⟩ : ∃ r, r = E.goal i (x.gu i 1) := ⟨_, rfl⟩
  rw [← hrr] at hr hc hq1 HSR
  generalize (E.l.getD i default).wants.length = nw at hkl hwl l3
  have hkl' : (k : Int) < (nw : Int) := by omega
  have HQ := Lib.hid hq
  clear hk he ha2 hrr h0 h1 hq
  go_enter Try.func81, Try.ntmps81
  go_upto_region 1 with (fail)
  go_quiet (fail)
  have hZ0 : RfIn E (w.drewN nq) x qs uv := h.grow (below_drewN (Below.refl _ _) nq)
  have bZ : Below E.base w (w.drewN nq) := below_drewN (Below.refl _ _) nq
  obtain ⟨Z, hZ⟩ : ∃ Z, Z = w.drewN nq := ⟨_, rfl⟩
  rw [← hZ] at hZ0 bZ ⊢
  clear hZ c1 lG v4 v2 v3 lv l3 hb hc hb2 hkl hkl' hwl h
  have lG := (hZ0.gc hi).2.2.2.2
  have g0 := (hZ0.gc hi).1
  have g2 := (hZ0.gc hi).2.2.1
  have fG := hZ0.frG hi
  have fG0 := fG (i * 4)
  have fG2 := fG (i * 4 + 2)
  obtain ⟨_, _, _, v3, _, lv⟩ := hZ0.pc
  have hne : ¬ E.v = E.G := hZ0.pl.ty.ne (hZ0.gu (by omega)).ty (by decide)
  have k1 := hZ0.setGu (j := 0) hi (by omega) 2
  have k2 := k1.setGu (i := i) (j := 2) hi (by omega) x.now
  have bU := (bZ.setCell (p := ⟨E.G, i * 4 + 0, none⟩) hZ0.bG (.int .i64 2)).setCell (p := ⟨E.G, i * 4 + 2, none⟩) hZ0.bG (.int .i64 x.now)
  rw [Nat.add_zero] at k2 bU
  have K2 := Lib.hid k2
  have BU := Lib.hid bU
  clear k1 k2 bU fG hZ0 bZ
  go_upto_region 4 with (fail)
  obtain ⟨U, hUU⟩ : ∃ U, U = (Z.setCell ⟨E.G, i * 4, none⟩ (.int .i64 2)).setCell ⟨E.G, i * 4 + 2, none⟩ (.int .i64 x.now) := ⟨_, rfl⟩
  rw [← hUU] at K2 BU ⊢
  clear hUU lG g0 g2 fG0 fG2 v3 lv hne
  obtain ⟨x2, hx2⟩ : ∃ y, y = (x.setGu i 0 2).setGu i 2 x.now := ⟨_, rfl⟩
  rw [← hx2] at K2 HSR
  have hqq : x2.q = x.q := by rw [hx2]; rfl
  rw [← hqq] at hq1 HSR
  have hU0 := K2.out
  have hU : E.base ≤ U.heap.size := hU0.bW
  have HX : Hid (∀ y, Below U.heap.size U y → RfIn E y x2 qs uv) := fun y hy => hU0.grow hy
  clear hqq hx2 K2
  refine wp_region_stepsY 17 (ord := [0, 1, 2, 3, 4, 5, 6, 7, 8, 9, 10, 11, 12, 13, 14, 15, 16]) (ds := [(0, 36), (1, 37), (2, 38), (3, 39), (4, 40), (5, 41), (6, 42), (7, 43), (8, 44), (9, 45), (10, 46), (11, 47), (12, 48), (13, 49), (14, 50), (15, 51)]) (I := StI E U x2 qs uv r i) (by kernel_rfl) (by kernel_rfl) rfl ?iz (StepsY.cons (k := 0) (k' := 1) (o := ⟨some 36, _, _, _, _, _⟩) rfl rfl ?sz0 (StepsY.cons (k := 1) (k' := 2) (o := ⟨some 37, _, _, _, _, _⟩) rfl rfl ?sz1 (StepsY.cons (k := 2) (k' := 3) (o := ⟨some 38, _, _, _, _, _⟩) rfl rfl ?sz2 (StepsY.cons (k := 3) (k' := 4) (o := ⟨some 39, _, _, _, _, _⟩) rfl rfl ?sz3 (StepsY.cons (k := 4) (k' := 5) (o := ⟨some 40, _, _, _, _, _⟩) rfl rfl ?sz4 (StepsY.cons (k := 5) (k' := 6) (o := ⟨some 41, _, _, _, _, _⟩) rfl rfl ?sz5 (StepsY.cons (k := 6) (k' := 7) (o := ⟨some 42, _, _, _, _, _⟩) rfl rfl ?sz6 (StepsY.cons (k := 7) (k' := 8) (o := ⟨some 43, _, _, _, _, _⟩) rfl rfl ?sz7 (StepsY.cons (k := 8) (k' := 9) (o := ⟨some 44, _, _, _, _, _⟩) rfl rfl ?sz8 (StepsY.cons (k := 9) (k' := 10) (o := ⟨some 45, _, _, _, _, _⟩) rfl rfl ?sz9 (StepsY.cons (k := 10) (k' := 11) (o := ⟨some 46, _, _, _, _, _⟩) rfl rfl ?sz10 (StepsY.cons (k := 11) (k' := 12) (o := ⟨some 47, _, _, _, _, _⟩) rfl rfl ?sz11 (StepsY.cons (k := 12) (k' := 13) (o := ⟨some 48, _, _, _, _, _⟩) rfl rfl ?sz12 (StepsY.cons (k := 13) (k' := 14) (o := ⟨some 49, _, _, _, _, _⟩) rfl rfl ?sz13 (StepsY.cons (k := 14) (k' := 15) (o := ⟨some 50, _, _, _, _, _⟩) rfl rfl ?sz14 (StepsY.cons (k := 15) (k' := 16) (o := ⟨some 51, _, _, _, _, _⟩) rfl rfl ?sz15 (StepsY.cons (k := 16) (k' := 17) (o := ⟨none, _, _, _, _, _⟩) rfl rfl ?sz16 StepsY.nil))))))))))))))))) ?finz
  case iz => exact fun xs => ⟨hU0.pl.lt, hU0.pQ (by omega), fun _ => ⟨(hU0.qc hr).1, (hU0.qc hr).2, hU0.frQ hr r⟩, fun _ => (Below.refl _ _).drew, fun h => Bool.noConfusion h, fun h => Bool.noConfusion h, fun h => Bool.noConfusion h, fun h => Bool.noConfusion h, fun h => Bool.noConfusion h, fun h => Bool.noConfusion h, fun h => Bool.noConfusion h, fun h => Bool.noConfusion h, fun h => Bool.noConfusion h, fun h => Bool.noConfusion h, fun h => Bool.noConfusion h, fun h => Bool.noConfusion h, fun h => Bool.noConfusion h, fun h => Bool.noConfusion h, fun h => Bool.noConfusion h, fun h => Bool.noConfusion h, fun h => Bool.noConfusion h⟩
  case sz0 =>
    intro xs done y hI hd0 hup hdn K hK
    refine wpOp_go (o := ⟨some 36, _, _, _, _, _⟩) rfl rfl ?_
    simp only [putsF, List.foldl_cons, List.foldl_nil, Act.put, List.setIfInBounds_toArray, List.set_cons_zero, List.set_cons_succ] at hK ⊢
    go_wp2_with fail
    exact hK.out _ _ ⟨hI.lv, hI.c5, hI.cq, hI.b, hI.m13, hI.m14, hI.e16, fun _ => rfl, hI.v1, hI.v2, hI.v3, hI.v4, hI.v5, hI.v6, hI.v7, hI.v8, hI.v9, hI.v10, hI.v11, hI.v12, hI.v15⟩
  case sz1 =>
    intro xs done y hI hd0 hup hdn K hK
    refine wpOp_go (o := ⟨some 37, _, _, _, _, _⟩) rfl rfl ?_
    have e0 := hI.v0 (hdn 0 (by kernel_rfl))
    simp only [putsF, List.foldl_cons, List.foldl_nil, Act.put, List.setIfInBounds_toArray, List.set_cons_zero, List.set_cons_succ] at hK ⊢
    simp only [e0] at hK ⊢
    go_wp2_with fail
    exact hK.out _ _ ⟨hI.lv, hI.c5, hI.cq, hI.b, hI.m13, hI.m14, hI.e16, hI.v0, fun _ => rfl, hI.v2, hI.v3, hI.v4, hI.v5, hI.v6, hI.v7, hI.v8, hI.v9, hI.v10, hI.v11, hI.v12, hI.v15⟩
  case sz2 =>
    intro xs done y hI hd0 hup hdn K hK
    refine wpOp_go (o := ⟨some 38, _, _, _, _, _⟩) rfl rfl ?_
    have e1 := hI.v1 (hdn 1 (by kernel_rfl))
    simp only [putsF, List.foldl_cons, List.foldl_nil, Act.put, List.setIfInBounds_toArray, List.set_cons_zero, List.set_cons_succ] at hK ⊢
    simp only [e1] at hK ⊢
    go_wp2_with fail
    exact hK.out _ _ ⟨hI.lv, hI.c5, hI.cq, hI.b, hI.m13, hI.m14, hI.e16, hI.v0, hI.v1, fun _ => rfl, hI.v3, hI.v4, hI.v5, hI.v6, hI.v7, hI.v8, hI.v9, hI.v10, hI.v11, hI.v12, hI.v15⟩
  case sz3 =>
    intro xs done y hI hd0 hup hdn K hK
    refine wpOp_go (o := ⟨some 39, _, _, _, _, _⟩) rfl rfl ?_
    have e2 := hI.v2 (hdn 2 (by kernel_rfl))
    simp only [putsF, List.foldl_cons, List.foldl_nil, Act.put, List.setIfInBounds_toArray, List.set_cons_zero, List.set_cons_succ] at hK ⊢
    simp only [e2] at hK ⊢
    have lv := hI.lv
    have c5 := hI.c5
    go_wp2_with fail
    exact hK.out _ _ ⟨hI.lv, hI.c5, hI.cq, hI.b, hI.m13, hI.m14, hI.e16, hI.v0, hI.v1, hI.v2, fun _ => rfl, hI.v4, hI.v5, hI.v6, hI.v7, hI.v8, hI.v9, hI.v10, hI.v11, hI.v12, hI.v15⟩
  case sz4 =>
    intro xs done y hI hd0 hup hdn K hK
    refine wpOp_go (o := ⟨some 40, _, _, _, _, _⟩) rfl rfl ?_
    simp only [putsF, List.foldl_cons, List.foldl_nil, Act.put, List.setIfInBounds_toArray, List.set_cons_zero, List.set_cons_succ] at hK ⊢
    go_wp2_with fail
    exact hK.out _ _ ⟨hI.lv, hI.c5, hI.cq, hI.b, hI.m13, hI.m14, hI.e16, hI.v0, hI.v1, hI.v2, hI.v3, fun _ => rfl, hI.v5, hI.v6, hI.v7, hI.v8, hI.v9, hI.v10, hI.v11, hI.v12, hI.v15⟩
  case sz5 =>
    intro xs done y hI hd0 hup hdn K hK
    refine wpOp_go (o := ⟨some 41, _, _, _, _, _⟩) rfl rfl ?_
    simp only [putsF, List.foldl_cons, List.foldl_nil, Act.put, List.setIfInBounds_toArray, List.set_cons_zero, List.set_cons_succ] at hK ⊢
    go_wp2_with fail
    exact hK.out _ _ ⟨hI.lv, hI.c5, hI.cq, hI.b, hI.m13, hI.m14, hI.e16, hI.v0, hI.v1, hI.v2, hI.v3, hI.v4, fun _ => rfl, hI.v6, hI.v7, hI.v8, hI.v9, hI.v10, hI.v11, hI.v12, hI.v15⟩
  case sz6 =>
    intro xs done y hI hd0 hup hdn K hK
    refine wpOp_go (o := ⟨some 42, _, _, _, _, _⟩) rfl rfl ?_
    have e5 := hI.v5 (hdn 5 (by kernel_rfl))
    simp only [putsF, List.foldl_cons, List.foldl_nil, Act.put, List.setIfInBounds_toArray, List.set_cons_zero, List.set_cons_succ] at hK ⊢
    simp only [e5] at hK ⊢
    go_wp2_with fail
    exact hK.out _ _ ⟨hI.lv, hI.c5, hI.cq, hI.b, hI.m13, hI.m14, hI.e16, hI.v0, hI.v1, hI.v2, hI.v3, hI.v4, hI.v5, fun _ => rfl, hI.v7, hI.v8, hI.v9, hI.v10, hI.v11, hI.v12, hI.v15⟩
  case sz7 =>
    intro xs done y hI hd0 hup hdn K hK
    refine wpOp_go (o := ⟨some 43, _, _, _, _, _⟩) rfl rfl ?_
    have e6 := hI.v6 (hdn 6 (by kernel_rfl))
    simp only [putsF, List.foldl_cons, List.foldl_nil, Act.put, List.setIfInBounds_toArray, List.set_cons_zero, List.set_cons_succ] at hK ⊢
    simp only [e6] at hK ⊢
    go_wp2_with fail
    exact hK.out _ _ ⟨hI.lv, hI.c5, hI.cq, hI.b, hI.m13, hI.m14, hI.e16, hI.v0, hI.v1, hI.v2, hI.v3, hI.v4, hI.v5, hI.v6, fun _ => rfl, hI.v8, hI.v9, hI.v10, hI.v11, hI.v12, hI.v15⟩
  case sz8 =>
    intro xs done y hI hd0 hup hdn K hK
    refine wpOp_go (o := ⟨some 44, _, _, _, _, _⟩) rfl rfl ?_
    have e7 := hI.v7 (hdn 7 (by kernel_rfl))
    simp only [putsF, List.foldl_cons, List.foldl_nil, Act.put, List.setIfInBounds_toArray, List.set_cons_zero, List.set_cons_succ] at hK ⊢
    simp only [e7] at hK ⊢
    have lv := hI.lv
    have c5 := hI.c5
    go_wp2_with fail
    exact hK.out _ _ ⟨hI.lv, hI.c5, hI.cq, hI.b, hI.m13, hI.m14, hI.e16, hI.v0, hI.v1, hI.v2, hI.v3, hI.v4, hI.v5, hI.v6, hI.v7, fun _ => rfl, hI.v9, hI.v10, hI.v11, hI.v12, hI.v15⟩
  case sz9 =>
    intro xs done y hI hd0 hup hdn K hK
    refine wpOp_go (o := ⟨some 45, _, _, _, _, _⟩) rfl rfl ?_
    simp only [putsF, List.foldl_cons, List.foldl_nil, Act.put, List.setIfInBounds_toArray, List.set_cons_zero, List.set_cons_succ] at hK ⊢
    go_wp2_with fail
    exact hK.out _ _ ⟨hI.lv, hI.c5, hI.cq, hI.b, hI.m13, hI.m14, hI.e16, hI.v0, hI.v1, hI.v2, hI.v3, hI.v4, hI.v5, hI.v6, hI.v7, hI.v8, fun _ => rfl, hI.v10, hI.v11, hI.v12, hI.v15⟩
  case sz10 =>
    intro xs done y hI hd0 hup hdn K hK
    refine wpOp_go (o := ⟨some 46, _, _, _, _, _⟩) rfl rfl ?_
    have e8 := hI.v8 (hdn 8 (by kernel_rfl))
    have e9 := hI.v9 (hdn 9 (by kernel_rfl))
    simp only [putsF, List.foldl_cons, List.foldl_nil, Act.put, List.setIfInBounds_toArray, List.set_cons_zero, List.set_cons_succ] at hK ⊢
    simp only [e8, e9] at hK ⊢
    go_wp2_with fail
    exact hK.out _ _ ⟨hI.lv, hI.c5, hI.cq, hI.b, hI.m13, hI.m14, hI.e16, hI.v0, hI.v1, hI.v2, hI.v3, hI.v4, hI.v5, hI.v6, hI.v7, hI.v8, hI.v9, fun _ => rfl, hI.v11, hI.v12, hI.v15⟩
  case sz11 =>
    intro xs done y hI hd0 hup hdn K hK
    refine wpOp_go (o := ⟨some 47, _, _, _, _, _⟩) rfl rfl ?_
    have e10 := hI.v10 (hdn 10 (by kernel_rfl))
    simp only [putsF, List.foldl_cons, List.foldl_nil, Act.put, List.setIfInBounds_toArray, List.set_cons_zero, List.set_cons_succ] at hK ⊢
    simp only [e10] at hK ⊢
    obtain ⟨cq, lq, _⟩ := hI.cq (hup 16 (by kernel_rfl))
    go_wp2_with fail
    exact hK.out _ _ ⟨hI.lv, hI.c5, hI.cq, hI.b, hI.m13, hI.m14, hI.e16, hI.v0, hI.v1, hI.v2, hI.v3, hI.v4, hI.v5, hI.v6, hI.v7, hI.v8, hI.v9, hI.v10, fun _ => rfl, hI.v12, hI.v15⟩
  case sz12 =>
    intro xs done y hI hd0 hup hdn K hK
    refine wpOp_go (o := ⟨some 48, _, _, _, _, _⟩) rfl rfl ?_
    simp only [putsF, List.foldl_cons, List.foldl_nil, Act.put, List.setIfInBounds_toArray, List.set_cons_zero, List.set_cons_succ] at hK ⊢
    go_wp2_with fail
    exact hK.out _ _ ⟨hI.lv, hI.c5, hI.cq, hI.b, hI.m13, hI.m14, hI.e16, hI.v0, hI.v1, hI.v2, hI.v3, hI.v4, hI.v5, hI.v6, hI.v7, hI.v8, hI.v9, hI.v10, hI.v11, fun _ => rfl, hI.v15⟩
  case sz13 =>
    intro xs done y hI hd0 hup hdn K hK
    refine wpOp_go (o := ⟨some 49, _, _, _, _, _⟩) rfl rfl ?_
    have e12 := hI.v12 (hdn 12 (by kernel_rfl))
    simp only [putsF, List.foldl_cons, List.foldl_nil, Act.put, List.setIfInBounds_toArray, List.set_cons_zero, List.set_cons_succ] at hK ⊢
    simp only [e12] at hK ⊢
    have hd14 := hup 14 (by kernel_rfl)
    have hbel := hI.b hd14
    go_wp2_with fail
    have hb4 := (Below.refl y.heap.size y).alloc (Nat.le_refl _) (.cells #[.int .i64 (i : Int)] 3)
    have hg := Row.new y 3 #[.int .i64 (i : Int)]
    exact hK.out _ _ ⟨Nat.lt_of_lt_of_le hI.lv hb4.size, (hb4.cell (p := ⟨E.v, 5, none⟩) hI.lv).trans hI.c5, (fun h => ⟨(hb4.cell (p := ⟨E.Q, r, none⟩) (hI.cq h).2.1).trans (hI.cq h).1, Nat.lt_of_lt_of_le (hI.cq h).2.1 hb4.size, (HX.out _ (hbel.trans (hb4.mono hbel.size))).frQ hr r⟩), (fun _ => hbel.trans (hb4.mono hbel.size)), (fun _ _ => ⟨_, rfl, hg⟩), (fun h => Bool.noConfusion (hd14.symm.trans h)), (fun h => Bool.noConfusion ((hup 16 (by kernel_rfl)).symm.trans h)), hI.v0, hI.v1, hI.v2, hI.v3, hI.v4, hI.v5, hI.v6, hI.v7, hI.v8, hI.v9, hI.v10, hI.v11, hI.v12, hI.v15⟩
  case sz14 =>
    intro xs done y hI hd0 hup hdn K hK
    refine wpOp_go (o := ⟨some 50, _, _, _, _, _⟩) rfl rfl ?_
    have e11 := hI.v11 (hdn 11 (by kernel_rfl))
    have hm13 := hI.m13 (hdn 13 (by kernel_rfl)) hd0
    have hbel := hI.b hd0
    simp only [putsF, List.foldl_cons, List.foldl_nil, Act.put, List.setIfInBounds_toArray, List.set_cons_zero, List.set_cons_succ] at hK ⊢
    obtain ⟨g, e13, hrow⟩ := hm13
    simp only [e11, e13] at hK ⊢
    have hin := HX.out y hbel
    refine wp_appAt y (.tmp 47) (.tmp 49) 37 (by rfl) E.base 3 i0 _ 1 8 Try.underlying37 hinf hz0 hz1 hz2 rfl (by decide) (qs r) (x2.q r).length (qL (x2.q r)) (by rfl) (hin.q r hr) ⟨g, 0, none⟩ 1 1 [.int .i64 (i : Int)] (by rfl) rfl (row_news hrow) (by intro u hu; simp at hu; subst hu; rfl) (by unfold maxLen; omega) (by omega) hin.bW ?_
    intro u z ho hg hat
    obtain ⟨uA, uc, rfl⟩ := own_slice ho
    obtain ⟨f1, f2, f3⟩ := hin.atQ hr hg
    have k5 := hin.pl.keep (hg.block _ hin.pl.lt (hin.offQ hr hin.pl.ty (by decide)))
    have c5 : z.cell? ⟨E.v, 5, none⟩ = some (rfL E x2.now uv)[5]! := k5.cell (j := 5) (by simp [rfL])
    exact hK.out _ _ ⟨k5.lt, (by rw [c5, ← hin.aQ (by omega)]; rfl), (fun _ => ⟨f2, f3, f1⟩), (fun h => Bool.noConfusion h), (fun _ h => Bool.noConfusion h), (fun _ _ => ⟨uA, uc, rfl, y, hin, hbel, hg, by rw [qL_snoc]; exact ho, hat⟩), (fun h => Bool.noConfusion ((hup 16 (by kernel_rfl)).symm.trans h)), hI.v0, hI.v1, hI.v2, hI.v3, hI.v4, hI.v5, hI.v6, hI.v7, hI.v8, hI.v9, hI.v10, hI.v11, hI.v12, hI.v15⟩
  case sz15 =>
    intro xs done y hI hd0 hup hdn K hK
    refine wpOp_go (o := ⟨some 51, _, _, _, _, _⟩) rfl rfl ?_
    have e3 := hI.v3 (hdn 3 (by kernel_rfl))
    have e4 := hI.v4 (hdn 4 (by kernel_rfl))
    simp only [putsF, List.foldl_cons, List.foldl_nil, Act.put, List.setIfInBounds_toArray, List.set_cons_zero, List.set_cons_succ] at hK ⊢
    simp only [e3, e4] at hK ⊢
    go_wp2_with fail
    exact hK.out _ _ ⟨hI.lv, hI.c5, hI.cq, hI.b, hI.m13, hI.m14, hI.e16, hI.v0, hI.v1, hI.v2, hI.v3, hI.v4, hI.v5, hI.v6, hI.v7, hI.v8, hI.v9, hI.v10, hI.v11, hI.v12, fun _ => rfl⟩
  case sz16 =>
    intro xs done y hI hd0 hup hdn K hK
    refine wpOp_go (o := ⟨none, _, _, _, _, _⟩) rfl rfl ?_
    have e15 := hI.v15 (hdn 15 (by kernel_rfl))
    have hm14 := hI.m14 (hdn 14 (by kernel_rfl)) hd0
    have hcq := hI.cq hd0
    simp only [putsF, List.foldl_cons, List.foldl_nil, Act.put, List.setIfInBounds_toArray, List.set_cons_zero, List.set_cons_succ] at hK ⊢
    obtain ⟨uA, uc, e14, y0, hin, hb0, hg, ho, hat⟩ := hm14
    rw [e14] at hat
    obtain ⟨hcq, lq, fq⟩ := hcq
    simp only [e15, e14] at hK ⊢
    have hY := hin.setQ (u := .slice uA ((x2.q r).length + 1) uc) (l := x2.q r ++ [i]) hr hg (by rw [List.length_append]; exact ho) (by rcases hat with h1 | h1; exact .inr (.inl h1); exact .inr (.inr ⟨_, h1, Nat.le_refl _⟩))
    have hB := (hb0.mono hU).trans ((hin.belQ hr hg).setCell (p := ⟨E.Q, r, none⟩) hin.bQ (.slice uA ((x2.q r).length + 1) uc))
    have hlv := hI.lv
    have hc5 := hY.pQ (by omega)
    go_wp2_with fail
    exact hK.out undef _ ⟨hY.pl.lt, hc5, (fun h => Bool.noConfusion h), (fun h => Bool.noConfusion ((hdn 14 (by kernel_rfl)).symm.trans h)), (fun _ h => Bool.noConfusion ((hdn 14 (by kernel_rfl)).symm.trans h)), (fun _ h => Bool.noConfusion h), (fun _ => ⟨⟨_, _, hY⟩, hB⟩), hI.v0, hI.v1, hI.v2, hI.v3, hI.v4, hI.v5, hI.v6, hI.v7, hI.v8, hI.v9, hI.v10, hI.v11, hI.v12, hI.v15⟩
  case finz =>

    intro xs done y hI hd
    have hE := hI.e16 (hd 16 (by decide))
    simp only [putsF, List.foldl_cons, List.foldl_nil, Act.put, List.setIfInBounds_toArray, List.set_cons_zero, List.set_cons_succ]
    clear hI hd
    go_wp2_with fail
    go_end0
    exact ⟨rfl, BU.out.trans (hE.2.mono (Nat.le_refl _)), by rw [HSR.out]; exact hE.1⟩
end Go.Proofs.Ytijbhcdnbaaobaa
