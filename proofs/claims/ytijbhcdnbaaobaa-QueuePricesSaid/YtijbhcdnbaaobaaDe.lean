/- Contract of the specification's leave. Conditions: the play lies in memory. -/
import Derived.Test.YtijbhcdnbaaobaaDd
import Derived.Test.YtijbhcdnbaaobaaEb
namespace Go.Proofs.Ytijbhcdnbaaobaa
open Go.RowKit

def leftR (E : RfE) (x : RawR) (i : Nat) (on : Bool) : RawR := (x.setQ (E.goal i (x.gu i 1)) ((x.q (E.goal i (x.gu i 1))).filter (· ≠ i))).addV ⟨i, x.gu i 1, E.goal i (x.gu i 1), on, x.gu i 2, x.now⟩
def leaveR (E : RfE) (x : RawR) (i : Nat) (on : Bool) : RawR :=
  if on = true then
    ((((leftR E x i true).setGu i 0 3).setGu i 2 x.now).setGu i 3 (x.gu i 3 - (E.f.rides.getD (E.goal i (x.gu i 1)) default).price * (E.l.getD i default).size)).setT 2 (E.goal i (x.gu i 1)) (x.tab 2 (E.goal i (x.gu i 1)) + (E.f.rides.getD (E.goal i (x.gu i 1)) default).price * (E.l.getD i default).size)
  else onR E (leftR E x i false) i
theorem Try.info_visit2 : (Try.prog.info? 57).map (fun i => (i.zero, i.size, i.bytes)) = some (some (.agg #[.int .i64 0, .int .i64 0, .int .i64 0, .bool false, .int .i64 0, .int .i64 0]), 6, 48) := by kernel_rfl
theorem bel_grown {w X : World} (h : Below w.heap.size w X) (row : Option Nat) : w.grownBy X row := ⟨h.os, h.tape, h.output, h.size, fun k hk _ => h.block k hk⟩
theorem own_rdz {w : World} {base size n c : Nat} {e : TypeId} {A : Option Addr} {xs : List Value} (h : w.ownsRow base e size (.slice A n c) n xs) : Reads w w.heap.size size A n xs := by
  obtain ⟨A', c', e, hr⟩ := nown_reads h
  injection e with e1
  rw [e1]
  exact hr
theorem RfIn.rc {E : RfE} {w : World} {x : RawR} {qs : Nat → Value} {uv : Value} (h : RfIn E w x qs uv) {r : Nat} (hr : r < E.f.rides.length) : ∃ b o, E.A = some ⟨b, o, none⟩ ∧ b < w.heap.size ∧ w.cell? ⟨b, o + r * 5, none⟩ = some (.int .i64 (E.f.rides.getD r default).seats) ∧ w.cell? ⟨b, o + r * 5 + 1, none⟩ = some (.int .i64 (E.f.rides.getD r default).price) ∧ w.cell? ⟨b, o + r * 5 + 2, none⟩ = some (.int .i64 (E.f.rides.getD r default).cycle) ∧ w.cell? ⟨b, o + r * 5 + 3, none⟩ = some (.int .i64 (E.f.rides.getD r default).pause) ∧ w.cell? ⟨b, o + r * 5 + 4, none⟩ = some (.bool (E.f.rides.getD r default).fill) := by
  obtain ⟨b, o, e, hb, hc⟩ := h.rides.2 (by omega)
  have key : ∀ j, j < 5 → ∀ u, (bthL (E.f.rides.getD r default))[j]? = some u → w.cell? ⟨b, o + r * 5 + j, none⟩ = some u := fun j hj u hu => by
    have := hc _ _ ((bthCells_at E.f.rides r hr j hj).trans hu)
    rw [← Nat.add_assoc] at this
    exact this
  exact ⟨b, o, e, Nat.lt_of_lt_of_le hb h.bW, key 0 (by omega) _ rfl, key 1 (by omega) _ rfl, key 2 (by omega) _ rfl, key 3 (by omega) _ rfl, key 4 (by omega) _ rfl⟩
theorem q_take (l : List Nat) (i : Nat) {j : Nat} (hj : j < l.length) : (l.take (j + 1)).filter (· ≠ i) = if l[j] = i then (l.take j).filter (· ≠ i) else (l.take j).filter (· ≠ i) ++ [l[j]] := by
  rw [List.take_succ_eq_append_getElem hj, List.filter_append]
  by_cases h : l[j] = i
  · simp [h]
  · simp [h]
structure LvI (E : RfE) (U : World) (x : RawR) (qs : Nat → Value) (uv : Value) (i r : Nat) (on : Bool) (done : Nat → Bool) (xs : Nat → Value) (y : World) : Prop where
  lv : E.v < y.heap.size ∧ y.frozen? ⟨E.v, 8, none⟩ = false
  c8 : done 25 = false → y.cell? ⟨E.v, 8, none⟩ = some uv
  b : done 22 = false → Below U.heap.size U y
  m21 : done 21 = true → done 22 = false → ∃ g : Nat, xs 21 = .slice (some ⟨g, 0, none⟩) 1 1 ∧ Row y g 57 (visL ⟨i, x.gu i 1, r, on, x.gu i 2, x.now⟩)
  m22 : done 22 = true → done 25 = false → ∃ A c, xs 22 = .slice A (x.vis.length + 1) c ∧ ∃ y0, RfIn E y0 x qs uv ∧ Below U.heap.size U y0 ∧ y0.grownBy y uv.ownBlock ∧ y.ownsRow E.base 57 6 (.slice A (x.vis.length + 1) c) (x.vis.length + 1) (x.vis.flatMap visL ++ visL ⟨i, x.gu i 1, r, on, x.gu i 2, x.now⟩) ∧ ((xs 22).ownBlock = uv.ownBlock ∨ (xs 22).ownBlock = some y0.heap.size)
  e25 : done 25 = true → RfAt E y (x.addV ⟨i, x.gu i 1, r, on, x.gu i 2, x.now⟩) ∧ Below E.base U y
  v0 : done 0 = true → xs 0 = .pointer (some ⟨E.v, 0, none⟩)
  v1 : done 1 = true → xs 1 = .pointer (some ⟨E.v, 0, none⟩)
  v2 : done 2 = true → xs 2 = .pointer (some ⟨E.v, 0, none⟩)
  v3 : done 3 = true → xs 3 = .pointer (some ⟨E.v, 8, none⟩)
  v4 : done 4 = true → xs 4 = uv
  v5 : done 5 = true → xs 5 = .int .i64 (i : Int)
  v6 : done 6 = true → xs 6 = .pointer (some ⟨E.G, i * 4, none⟩)
  v7 : done 7 = true → xs 7 = .pointer (some ⟨E.G, i * 4, none⟩)
  v8 : done 8 = true → xs 8 = .pointer (some ⟨E.G, i * 4 + 1, none⟩)
  v9 : done 9 = true → xs 9 = .int .i64 (x.gu i 1)
  v10 : done 10 = true → xs 10 = .int .i64 (r : Int)
  v11 : done 11 = true → xs 11 = .bool on
  v12 : done 12 = true → xs 12 = .pointer (some ⟨E.G, i * 4, none⟩)
  v13 : done 13 = true → xs 13 = .pointer (some ⟨E.G, i * 4, none⟩)
  v14 : done 14 = true → xs 14 = .pointer (some ⟨E.G, i * 4 + 2, none⟩)
  v15 : done 15 = true → xs 15 = .int .i64 (x.gu i 2)
  v16 : done 16 = true → xs 16 = .pointer (some ⟨E.v, 0, none⟩)
  v17 : done 17 = true → xs 17 = .pointer (some ⟨E.v, 0, none⟩)
  v18 : done 18 = true → xs 18 = .pointer (some ⟨E.v, 3, none⟩)
  v19 : done 19 = true → xs 19 = .int .i64 x.now
  v20 : done 20 = true → xs 20 = .agg #[.int .i64 (i : Int), .int .i64 (x.gu i 1), .int .i64 (r : Int), .bool on, .int .i64 (x.gu i 2), .int .i64 x.now]
  v23 : done 23 = true → xs 23 = .pointer (some ⟨E.v, 0, none⟩)
  v24 : done 24 = true → xs 24 = .pointer (some ⟨E.v, 8, none⟩)

set_option maxRecDepth 100000 in
set_option maxHeartbeats 4000000 in
theorem rleave_any {E : RfE} {w : World} {x : RawR} (h : RfAt E w x) (S : StatE E) {i : Nat} (on : Bool) (hi : i < E.l.length) (h0 : 0 ≤ x.gu i 1) (h1 : x.gu i 1 < ((E.l.getD i default).wants.length : Int)) (hq : ∀ r, r < E.f.rides.length → (x.q r).length ≤ 1000) (hv : x.vis.length ≤ 100000)
    (ht : -1000000000 ≤ x.gu i 3 ∧ x.gu i 3 ≤ 1000000000) (hk2 : ∀ r, r < E.f.rides.length → -1000000000 ≤ x.tab 2 r ∧ x.tab 2 r ≤ 1000000000) :
    Calls Try.prog 82 #[.pointer (some ⟨E.v, 0, none⟩), .int .i64 i, .bool on] w (StepRf E w (leaveR E x i on)) := by
  obtain ⟨qs, uv, h⟩ := h
  obtain ⟨i0, hinf, hz0, hz1, hz2⟩ := info_parts Try.info_int
  obtain ⟨j0, hj, hy0, hy1, hy2⟩ := info_parts Try.info_visit2
  have hng := S.ng
  have hii : (i : Int) < (E.l.length : Int) := by omega
  obtain ⟨b, o, k, hk, hkl, he, hb, hc, hr⟩ := h.wish hi (S.gp i hi).2.2.2.2 h0 h1
  have hwl := (S.gp i hi).2.2.2.1
  have hsz := (S.gp i hi).2.2.1
  have hnr := S.nr
  have hpr := (S.rd _ hr).2.1
  have hq1 := hq _ hr
  have ht2 := hk2 _ hr
  have c1 := (h.gc hi).2.1
  have lG := (h.gc hi).2.2.2.2
  have v4 := h.pG (by omega)
  obtain ⟨-, -, v2, v3, -, lv⟩ := h.pc
  obtain ⟨b2, o2, ha2, hb2, -, -, -, l3, -⟩ := h.lc hi
  rw [ha2] at v2
  rw [he] at l3
  rw [hk] at c1
  have HLT : Hid (on = true → leaveR E x i on = ((((leftR E x i true).setGu i 0 3).setGu i 2 x.now).setGu i 3 (x.gu i 3 - (E.f.rides.getD (E.goal i (x.gu i 1)) default).price * (E.l.getD i default).size)).setT 2 (E.goal i (x.gu i 1)) (x.tab 2 (E.goal i (x.gu i 1)) + (E.f.rides.getD (E.goal i (x.gu i 1)) default).price * (E.l.getD i default).size)) := fun h => if_pos h
  have HLF : Hid (on = false → leaveR E x i on = onR E (leftR E x i false) i) := fun h => if_neg (by rw [h]; decide)
  have HLL : Hid (leftR E x i on = (x.setQ (E.goal i (x.gu i 1)) ((x.q (E.goal i (x.gu i 1))).filter (· ≠ i))).addV ⟨i, x.gu i 1, E.goal i (x.gu i 1), on, x.gu i 2, x.now⟩) := rfl
  obtain ⟨r, hrr⟩ : ∃ r, r = E.goal i (x.gu i 1) := ⟨_, rfl⟩
  have HRR := Lib.hid hrr
  rw [← hrr] at hr hc hq1 hpr ht2 HLT HLL
  have HWN := Lib.hid h1
  have HW0 := Lib.hid h0
  generalize (E.l.getD i default).wants.length = nw at hkl hwl l3
  have hkl' : (k : Int) < (nw : Int) := by omega
  have HQ := Lib.hid hq
  clear hk he ha2 hrr h0 h1 hq hk2
  go_enter Try.func82, Try.ntmps82
  go_upto_region 1 with (fail)
  go_quiet (fail)
  have hZ0 : RfIn E (w.drewN nq) x qs uv := h.grow (below_drewN (Below.refl _ _) nq)
  have bZ : Below E.base w (w.drewN nq) := below_drewN (Below.refl _ _) nq
  obtain ⟨Z, hZ⟩ : ∃ Z, Z = w.drewN nq := ⟨_, rfl⟩
  rw [← hZ] at hZ0 bZ ⊢
  clear hZ c1 lG v4 v2 v3 lv l3 hb hc hb2 hkl hkl' hwl h
  have HZ := Lib.hid hZ0
  have BZ := Lib.hid bZ
  obtain ⟨qA, qC, hqs⟩ := own_slice (hZ0.q r hr)
  have HQR : Hid (Reads Z Z.heap.size 1 qA (x.q r).length (qL (x.q r))) := by
    have := hZ0.q r hr
    rw [hqs] at this
    exact own_rdz this
  have HQS := Lib.hid hqs
  clear hZ0 bZ hqs
  go_upto_region 4 with (fail)
  go_loopw [8, 9] (fun rv jv wr => ∃ (j : Nat) (A : Option Addr) (c : Nat), j ≤ (x.q r).length ∧ jv = .int .i64 j ∧ rv = .slice A (((x.q r).take j).filter (· ≠ i)).length c ∧ Below Z.heap.size Z wr ∧ wr.ownsRow Z.heap.size 3 1 (.slice A (((x.q r).take j).filter (· ≠ i)).length c) (((x.q r).take j).filter (· ≠ i)).length (qL (((x.q r).take j).filter (· ≠ i)))) (fun _ jv _ => (x.q r).length - (intOf jv).toNat)
  case atStart => exact ⟨0, none, 0, Nat.zero_le _, rfl, rfl, Below.refl _ _, World.ownsRow_nil _ _ _ _⟩
  case round =>
    obtain ⟨j, A, c, hj', rfl, rfl, hbel, hown⟩ := hrel
    have hin := HZ.out.grow hbel
    have v5 := hin.pQ (by omega)
    obtain ⟨cq, lq⟩ := hin.qc hr
    rw [HQS.out] at cq
    have lv := hin.pl.lt
    have hr' : (r : Int) < (E.f.rides.length : Int) := by omega
    by_cases hlt : j < (x.q r).length
    · have hlt' : (j : Int) < ((x.q r).length : Int) := by omega
      have e1 : IntKind.i64.wrap ((j : Int) + 1) = (j : Int) + 1 := IntWalk.i64_in _ (by omega)
      obtain ⟨bq, oq, rfl, hbq, hcq⟩ := (HQR.out.below hbel).2 (by omega)
      have cj := hcq j (.int .i64 ((x.q r)[j] : Int)) (by unfold qL; rw [List.getElem?_map, List.getElem?_eq_getElem hlt]; rfl)
      have lbq : bq < wr.heap.size := Nat.lt_of_lt_of_le hbq hbel.size
      have htk := q_take (x.q r) i hlt
      generalize (x.q r)[j] = z at cj htk
      by_cases hzi : z = i
      · rw [if_pos hzi] at htk
        rw [hzi] at cj
        have HB := Lib.hid hbel
        have HO := Lib.hid hown
        have HT := Lib.hid htk
        clear hbel hown htk hin hcq hzi
        go_wp2_with fail
        go_roundw
        case rel => exact ⟨j + 1, A, c, by omega, by go_num, by rw [HT.out], HB.out, by rw [HT.out]; exact HO.out⟩
        case measure => simp [intOf]; omega
      · rw [if_neg hzi] at htk
        have hzi' : ((z : Int) != (i : Int)) = true := by simp; omega
        have HT := Lib.hid htk
        have hfl : (((x.q r).take j).filter (· ≠ i)).length ≤ 1000 := Nat.le_trans (List.length_filter_le _ _) (by rw [List.length_take]; omega)
        generalize ((x.q r).take j).filter (· ≠ i) = l' at hown HT hfl
        have hA := hown.alloc (.cells #[.int .i64 (z : Int)] 3)
        have m1 : l'.length + 1 ≤ maxLen := by unfold maxLen; omega
        have m2 : (l'.length + 1) * 8 ≤ 140737488355328 := by omega
        have m3 : Z.heap.size ≤ (wr.alloc (.cells #[.int .i64 (z : Int)] 3)).heap.size := Nat.le_trans hbel.size (by simp)
        have HB := Lib.hid (hbel.alloc hbel.size (.cells #[.int .i64 (z : Int)] 3))
        clear hbel hin hcq htk
        go_wp2_with (at_builtin; refine wpList_append_own_at _ rfl _ _ 37 rfl Z.heap.size 3 i0 (.int .i64 0) 1 8 Try.underlying37 hinf hz0 hz1 hz2 rfl (by decide) (.slice A l'.length c) l'.length (qL l') rfl hA ⟨wr.heap.size, 0, none⟩ 1 1 [.int .i64 (z : Int)] rfl rfl (cell_one_new _ _ _) ?q1 m1 m2 m3 ?_)
        case q1 => intro u hu; simp at hu; subst hu; rfl
        intro u X ho hX hnil hat
        obtain ⟨uA, uc, rfl⟩ := own_slice ho
        have HBX := Lib.hid (HB.out.grown hX m3 fun k hk => (hA.lt k hk).1)
        have HOX := Lib.hid ho
        clear ho hX hnil hat hA m1 m2 m3 hown
        go_wp2_with fail
        go_roundw
        case rel => exact ⟨j + 1, uA, uc, by omega, by go_num, by rw [HT.out, List.length_append]; rfl, HBX.out, by rw [HT.out, qL_snoc, List.length_append]; exact HOX.out⟩
        case measure => simp [intOf]; omega
    · have hge : ¬ (j : Int) < ((x.q r).length : Int) := by omega
      obtain rfl : j = (x.q r).length := by omega
      rw [List.take_length] at hown ⊢
      obtain ⟨l', hl'⟩ : ∃ l', l' = (x.q r).filter (· ≠ i) := ⟨_, rfl⟩
      have hll : l'.length ≤ 1000 := by rw [hl']; exact Nat.le_trans (List.length_filter_le _ _) hq1
      rw [← hl'] at hown ⊢
      have HL := Lib.hid hl'
      have fQ := hin.frQ hr r
      have hY := HZ.out.setQ (u := .slice A l'.length c) (l := l') hr (bel_grown hbel _) (own_low hown HZ.out.bW) (by
        cases hu : (Value.slice A l'.length c).ownBlock with
        | none => exact .inl rfl
        | some g => exact .inr (.inr ⟨g, rfl, (hown.lt g hu).1⟩))
      have bY := (BZ.out.trans (hbel.mono HZ.out.bW)).setCell (p := ⟨E.Q, r, none⟩) HZ.out.bQ (.slice A l'.length c)
      have HY := Lib.hid hY
      have BY := Lib.hid bY
      clear hY bY hbel hown hin hl'
      go_upto_region 9 with (fail)
      obtain ⟨U, hUU⟩ : ∃ U, U = wr.setCell ⟨E.Q, r, none⟩ (.slice A l'.length c) := ⟨_, rfl⟩
      rw [← hUU] at HY BY ⊢
      clear hUU v5 cq lq lv fQ HQR HQS hge
      have hU0 := HY.out
      have hU : E.base ≤ U.heap.size := hU0.bW
      obtain ⟨x1, hx1⟩ : ∃ y, y = x.setQ r l' := ⟨_, rfl⟩
      obtain ⟨qs1, hqs1⟩ : ∃ q : Nat → Value, q = (fun k => if k = r then .slice A l'.length c else qs k) := ⟨_, rfl⟩
      rw [← hx1, ← hqs1] at hU0
      have hv1 : x1.vis.length ≤ 100000 := by rw [hx1]; exact hv
      have HX1 : Hid (x1.gu = x.gu ∧ x1.now = x.now ∧ x1.tab = x.tab) := by show _ ∧ _; rw [hx1]; exact ⟨rfl, rfl, rfl⟩
      have HQ1 : Hid (∀ r', r' < E.f.rides.length → (x1.q r').length ≤ 1000) := fun r' h' => by
        rw [hx1]
        show ((if r' = r then l' else x.q r') : List Nat).length ≤ 1000
        split
        · exact hll
        · exact HQ.out r' h'
      have HLX : Hid (leftR E x i on = x1.addV ⟨i, x1.gu i 1, r, on, x1.gu i 2, x1.now⟩) := by
        show _ = _
        rw [HLL.out, hx1, HL.out]
        rfl
      have HX : Hid (∀ y, Below U.heap.size U y → RfIn E y x1 qs1 uv) := fun y hy => hU0.grow hy
      clear hx1 hqs1 HY HLL HL hll HZ BZ
      refine wp_region_stepsY 26 (ord := [0, 1, 2, 3, 4, 5, 6, 7, 8, 9, 10, 11, 12, 13, 14, 15, 16, 17, 18, 19, 20, 21, 22, 23, 24, 25]) (ds := [(0, 74), (1, 75), (2, 76), (3, 77), (4, 78), (5, 79), (6, 80), (7, 81), (8, 82), (9, 83), (10, 84), (11, 85), (12, 86), (13, 87), (14, 88), (15, 89), (16, 90), (17, 91), (18, 92), (19, 93), (20, 94), (21, 95), (22, 96), (23, 97), (24, 98)]) (I := LvI E U x1 qs1 uv i r on) (by kernel_rfl) (by kernel_rfl) rfl ?iz (StepsY.cons (k := 0) (k' := 1) (o := ⟨some 74, _, _, _, _, _⟩) rfl rfl ?sz0 (StepsY.cons (k := 1) (k' := 2) (o := ⟨some 75, _, _, _, _, _⟩) rfl rfl ?sz1 (StepsY.cons (k := 2) (k' := 3) (o := ⟨some 76, _, _, _, _, _⟩) rfl rfl ?sz2 (StepsY.cons (k := 3) (k' := 4) (o := ⟨some 77, _, _, _, _, _⟩) rfl rfl ?sz3 (StepsY.cons (k := 4) (k' := 5) (o := ⟨some 78, _, _, _, _, _⟩) rfl rfl ?sz4 (StepsY.cons (k := 5) (k' := 6) (o := ⟨some 79, _, _, _, _, _⟩) rfl rfl ?sz5 (StepsY.cons (k := 6) (k' := 7) (o := ⟨some 80, _, _, _, _, _⟩) rfl rfl ?sz6 (StepsY.cons (k := 7) (k' := 8) (o := ⟨some 81, _, _, _, _, _⟩) rfl rfl ?sz7 (StepsY.cons (k := 8) (k' := 9) (o := ⟨some 82, _, _, _, _, _⟩) rfl rfl ?sz8 (StepsY.cons (k := 9) (k' := 10) (o := ⟨some 83, _, _, _, _, _⟩) rfl rfl ?sz9 (StepsY.cons (k := 10) (k' := 11) (o := ⟨some 84, _, _, _, _, _⟩) rfl rfl ?sz10 (StepsY.cons (k := 11) (k' := 12) (o := ⟨some 85, _, _, _, _, _⟩) rfl rfl ?sz11 (StepsY.cons (k := 12) (k' := 13) (o := ⟨some 86, _, _, _, _, _⟩) rfl rfl ?sz12 (StepsY.cons (k := 13) (k' := 14) (o := ⟨some 87, _, _, _, _, _⟩) rfl rfl ?sz13 (StepsY.cons (k := 14) (k' := 15) (o := ⟨some 88, _, _, _, _, _⟩) rfl rfl ?sz14 (StepsY.cons (k := 15) (k' := 16) (o := ⟨some 89, _, _, _, _, _⟩) rfl rfl ?sz15 (StepsY.cons (k := 16) (k' := 17) (o := ⟨some 90, _, _, _, _, _⟩) rfl rfl ?sz16 (StepsY.cons (k := 17) (k' := 18) (o := ⟨some 91, _, _, _, _, _⟩) rfl rfl ?sz17 (StepsY.cons (k := 18) (k' := 19) (o := ⟨some 92, _, _, _, _, _⟩) rfl rfl ?sz18 (StepsY.cons (k := 19) (k' := 20) (o := ⟨some 93, _, _, _, _, _⟩) rfl rfl ?sz19 (StepsY.cons (k := 20) (k' := 21) (o := ⟨some 94, _, _, _, _, _⟩) rfl rfl ?sz20 (StepsY.cons (k := 21) (k' := 22) (o := ⟨some 95, _, _, _, _, _⟩) rfl rfl ?sz21 (StepsY.cons (k := 22) (k' := 23) (o := ⟨some 96, _, _, _, _, _⟩) rfl rfl ?sz22 (StepsY.cons (k := 23) (k' := 24) (o := ⟨some 97, _, _, _, _, _⟩) rfl rfl ?sz23 (StepsY.cons (k := 24) (k' := 25) (o := ⟨some 98, _, _, _, _, _⟩) rfl rfl ?sz24 (StepsY.cons (k := 25) (k' := 26) (o := ⟨none, _, _, _, _, _⟩) rfl rfl ?sz25 StepsY.nil)))))))))))))))))))))))))) ?finz
      case iz => exact fun xs => ⟨⟨hU0.pl.lt, hU0.frv 8⟩, fun _ => hU0.pc.2.2.2.2.1, fun _ => (Below.refl _ _).drew, fun h => Bool.noConfusion h, fun h => Bool.noConfusion h, fun h => Bool.noConfusion h, fun h => Bool.noConfusion h, fun h => Bool.noConfusion h, fun h => Bool.noConfusion h, fun h => Bool.noConfusion h, fun h => Bool.noConfusion h, fun h => Bool.noConfusion h, fun h => Bool.noConfusion h, fun h => Bool.noConfusion h, fun h => Bool.noConfusion h, fun h => Bool.noConfusion h, fun h => Bool.noConfusion h, fun h => Bool.noConfusion h, fun h => Bool.noConfusion h, fun h => Bool.noConfusion h, fun h => Bool.noConfusion h, fun h => Bool.noConfusion h, fun h => Bool.noConfusion h, fun h => Bool.noConfusion h, fun h => Bool.noConfusion h, fun h => Bool.noConfusion h, fun h => Bool.noConfusion h, fun h => Bool.noConfusion h, fun h => Bool.noConfusion h⟩
      case sz0 =>
        intro xs done y hI hd0 hup hdn K hK
        refine wpOp_go (o := ⟨some 74, _, _, _, _, _⟩) rfl rfl ?_
        simp only [putsF, List.foldl_cons, List.foldl_nil, Act.put, List.setIfInBounds_toArray, List.set_cons_zero, List.set_cons_succ] at hK ⊢
        go_wp2_with fail
        exact hK.out _ _ ⟨hI.lv, hI.c8, hI.b, hI.m21, hI.m22, hI.e25, fun _ => rfl, hI.v1, hI.v2, hI.v3, hI.v4, hI.v5, hI.v6, hI.v7, hI.v8, hI.v9, hI.v10, hI.v11, hI.v12, hI.v13, hI.v14, hI.v15, hI.v16, hI.v17, hI.v18, hI.v19, hI.v20, hI.v23, hI.v24⟩
      case sz1 =>
        intro xs done y hI hd0 hup hdn K hK
        refine wpOp_go (o := ⟨some 75, _, _, _, _, _⟩) rfl rfl ?_
        simp only [putsF, List.foldl_cons, List.foldl_nil, Act.put, List.setIfInBounds_toArray, List.set_cons_zero, List.set_cons_succ] at hK ⊢
        go_wp2_with fail
        exact hK.out _ _ ⟨hI.lv, hI.c8, hI.b, hI.m21, hI.m22, hI.e25, hI.v0, fun _ => rfl, hI.v2, hI.v3, hI.v4, hI.v5, hI.v6, hI.v7, hI.v8, hI.v9, hI.v10, hI.v11, hI.v12, hI.v13, hI.v14, hI.v15, hI.v16, hI.v17, hI.v18, hI.v19, hI.v20, hI.v23, hI.v24⟩
      case sz2 =>
        intro xs done y hI hd0 hup hdn K hK
        refine wpOp_go (o := ⟨some 76, _, _, _, _, _⟩) rfl rfl ?_
        have e1 := hI.v1 (hdn 1 (by kernel_rfl))
        simp only [putsF, List.foldl_cons, List.foldl_nil, Act.put, List.setIfInBounds_toArray, List.set_cons_zero, List.set_cons_succ] at hK ⊢
        simp only [e1] at hK ⊢
        go_wp2_with fail
        exact hK.out _ _ ⟨hI.lv, hI.c8, hI.b, hI.m21, hI.m22, hI.e25, hI.v0, hI.v1, fun _ => rfl, hI.v3, hI.v4, hI.v5, hI.v6, hI.v7, hI.v8, hI.v9, hI.v10, hI.v11, hI.v12, hI.v13, hI.v14, hI.v15, hI.v16, hI.v17, hI.v18, hI.v19, hI.v20, hI.v23, hI.v24⟩
      case sz3 =>
        intro xs done y hI hd0 hup hdn K hK
        refine wpOp_go (o := ⟨some 77, _, _, _, _, _⟩) rfl rfl ?_
        have e2 := hI.v2 (hdn 2 (by kernel_rfl))
        simp only [putsF, List.foldl_cons, List.foldl_nil, Act.put, List.setIfInBounds_toArray, List.set_cons_zero, List.set_cons_succ] at hK ⊢
        simp only [e2] at hK ⊢
        go_wp2_with fail
        exact hK.out _ _ ⟨hI.lv, hI.c8, hI.b, hI.m21, hI.m22, hI.e25, hI.v0, hI.v1, hI.v2, fun _ => rfl, hI.v4, hI.v5, hI.v6, hI.v7, hI.v8, hI.v9, hI.v10, hI.v11, hI.v12, hI.v13, hI.v14, hI.v15, hI.v16, hI.v17, hI.v18, hI.v19, hI.v20, hI.v23, hI.v24⟩
      case sz4 =>
        intro xs done y hI hd0 hup hdn K hK
        refine wpOp_go (o := ⟨some 78, _, _, _, _, _⟩) rfl rfl ?_
        have e3 := hI.v3 (hdn 3 (by kernel_rfl))
        simp only [putsF, List.foldl_cons, List.foldl_nil, Act.put, List.setIfInBounds_toArray, List.set_cons_zero, List.set_cons_succ] at hK ⊢
        simp only [e3] at hK ⊢
        have hz := HX.out y (hI.b (hup 22 (by kernel_rfl)))
        have lv := hz.pl.lt
        have c8 := hz.pc.2.2.2.2.1
        clear hz
        go_wp2_with fail
        exact hK.out _ _ ⟨hI.lv, hI.c8, hI.b, hI.m21, hI.m22, hI.e25, hI.v0, hI.v1, hI.v2, hI.v3, fun _ => rfl, hI.v5, hI.v6, hI.v7, hI.v8, hI.v9, hI.v10, hI.v11, hI.v12, hI.v13, hI.v14, hI.v15, hI.v16, hI.v17, hI.v18, hI.v19, hI.v20, hI.v23, hI.v24⟩
      case sz5 =>
        intro xs done y hI hd0 hup hdn K hK
        refine wpOp_go (o := ⟨some 79, _, _, _, _, _⟩) rfl rfl ?_
        simp only [putsF, List.foldl_cons, List.foldl_nil, Act.put, List.setIfInBounds_toArray, List.set_cons_zero, List.set_cons_succ] at hK ⊢
        go_wp2_with fail
        exact hK.out _ _ ⟨hI.lv, hI.c8, hI.b, hI.m21, hI.m22, hI.e25, hI.v0, hI.v1, hI.v2, hI.v3, hI.v4, fun _ => rfl, hI.v6, hI.v7, hI.v8, hI.v9, hI.v10, hI.v11, hI.v12, hI.v13, hI.v14, hI.v15, hI.v16, hI.v17, hI.v18, hI.v19, hI.v20, hI.v23, hI.v24⟩
      case sz6 =>
        intro xs done y hI hd0 hup hdn K hK
        refine wpOp_go (o := ⟨some 80, _, _, _, _, _⟩) rfl rfl ?_
        simp only [putsF, List.foldl_cons, List.foldl_nil, Act.put, List.setIfInBounds_toArray, List.set_cons_zero, List.set_cons_succ] at hK ⊢
        go_wp2_with fail
        exact hK.out _ _ ⟨hI.lv, hI.c8, hI.b, hI.m21, hI.m22, hI.e25, hI.v0, hI.v1, hI.v2, hI.v3, hI.v4, hI.v5, fun _ => rfl, hI.v7, hI.v8, hI.v9, hI.v10, hI.v11, hI.v12, hI.v13, hI.v14, hI.v15, hI.v16, hI.v17, hI.v18, hI.v19, hI.v20, hI.v23, hI.v24⟩
      case sz7 =>
        intro xs done y hI hd0 hup hdn K hK
        refine wpOp_go (o := ⟨some 81, _, _, _, _, _⟩) rfl rfl ?_
        have e6 := hI.v6 (hdn 6 (by kernel_rfl))
        simp only [putsF, List.foldl_cons, List.foldl_nil, Act.put, List.setIfInBounds_toArray, List.set_cons_zero, List.set_cons_succ] at hK ⊢
        simp only [e6] at hK ⊢
        go_wp2_with fail
        exact hK.out _ _ ⟨hI.lv, hI.c8, hI.b, hI.m21, hI.m22, hI.e25, hI.v0, hI.v1, hI.v2, hI.v3, hI.v4, hI.v5, hI.v6, fun _ => rfl, hI.v8, hI.v9, hI.v10, hI.v11, hI.v12, hI.v13, hI.v14, hI.v15, hI.v16, hI.v17, hI.v18, hI.v19, hI.v20, hI.v23, hI.v24⟩
      case sz8 =>
        intro xs done y hI hd0 hup hdn K hK
        refine wpOp_go (o := ⟨some 82, _, _, _, _, _⟩) rfl rfl ?_
        have e7 := hI.v7 (hdn 7 (by kernel_rfl))
        simp only [putsF, List.foldl_cons, List.foldl_nil, Act.put, List.setIfInBounds_toArray, List.set_cons_zero, List.set_cons_succ] at hK ⊢
        simp only [e7] at hK ⊢
        go_wp2_with fail
        exact hK.out _ _ ⟨hI.lv, hI.c8, hI.b, hI.m21, hI.m22, hI.e25, hI.v0, hI.v1, hI.v2, hI.v3, hI.v4, hI.v5, hI.v6, hI.v7, fun _ => rfl, hI.v9, hI.v10, hI.v11, hI.v12, hI.v13, hI.v14, hI.v15, hI.v16, hI.v17, hI.v18, hI.v19, hI.v20, hI.v23, hI.v24⟩
      case sz9 =>
        intro xs done y hI hd0 hup hdn K hK
        refine wpOp_go (o := ⟨some 83, _, _, _, _, _⟩) rfl rfl ?_
        have e8 := hI.v8 (hdn 8 (by kernel_rfl))
        simp only [putsF, List.foldl_cons, List.foldl_nil, Act.put, List.setIfInBounds_toArray, List.set_cons_zero, List.set_cons_succ] at hK ⊢
        simp only [e8] at hK ⊢
        have hz := HX.out y (hI.b (hup 22 (by kernel_rfl)))
        have lG := (hz.gc hi).2.2.2.2
        have g1 := (hz.gc hi).2.1
        clear hz
        go_wp2_with fail
        exact hK.out _ _ ⟨hI.lv, hI.c8, hI.b, hI.m21, hI.m22, hI.e25, hI.v0, hI.v1, hI.v2, hI.v3, hI.v4, hI.v5, hI.v6, hI.v7, hI.v8, fun _ => rfl, hI.v10, hI.v11, hI.v12, hI.v13, hI.v14, hI.v15, hI.v16, hI.v17, hI.v18, hI.v19, hI.v20, hI.v23, hI.v24⟩
      case sz10 =>
        intro xs done y hI hd0 hup hdn K hK
        refine wpOp_go (o := ⟨some 84, _, _, _, _, _⟩) rfl rfl ?_
        simp only [putsF, List.foldl_cons, List.foldl_nil, Act.put, List.setIfInBounds_toArray, List.set_cons_zero, List.set_cons_succ] at hK ⊢
        go_wp2_with fail
        exact hK.out _ _ ⟨hI.lv, hI.c8, hI.b, hI.m21, hI.m22, hI.e25, hI.v0, hI.v1, hI.v2, hI.v3, hI.v4, hI.v5, hI.v6, hI.v7, hI.v8, hI.v9, fun _ => rfl, hI.v11, hI.v12, hI.v13, hI.v14, hI.v15, hI.v16, hI.v17, hI.v18, hI.v19, hI.v20, hI.v23, hI.v24⟩
      case sz11 =>
        intro xs done y hI hd0 hup hdn K hK
        refine wpOp_go (o := ⟨some 85, _, _, _, _, _⟩) rfl rfl ?_
        simp only [putsF, List.foldl_cons, List.foldl_nil, Act.put, List.setIfInBounds_toArray, List.set_cons_zero, List.set_cons_succ] at hK ⊢
        go_wp2_with fail
        exact hK.out _ _ ⟨hI.lv, hI.c8, hI.b, hI.m21, hI.m22, hI.e25, hI.v0, hI.v1, hI.v2, hI.v3, hI.v4, hI.v5, hI.v6, hI.v7, hI.v8, hI.v9, hI.v10, fun _ => rfl, hI.v12, hI.v13, hI.v14, hI.v15, hI.v16, hI.v17, hI.v18, hI.v19, hI.v20, hI.v23, hI.v24⟩
      case sz12 =>
        intro xs done y hI hd0 hup hdn K hK
        refine wpOp_go (o := ⟨some 86, _, _, _, _, _⟩) rfl rfl ?_
        simp only [putsF, List.foldl_cons, List.foldl_nil, Act.put, List.setIfInBounds_toArray, List.set_cons_zero, List.set_cons_succ] at hK ⊢
        go_wp2_with fail
        exact hK.out _ _ ⟨hI.lv, hI.c8, hI.b, hI.m21, hI.m22, hI.e25, hI.v0, hI.v1, hI.v2, hI.v3, hI.v4, hI.v5, hI.v6, hI.v7, hI.v8, hI.v9, hI.v10, hI.v11, fun _ => rfl, hI.v13, hI.v14, hI.v15, hI.v16, hI.v17, hI.v18, hI.v19, hI.v20, hI.v23, hI.v24⟩
      case sz13 =>
        intro xs done y hI hd0 hup hdn K hK
        refine wpOp_go (o := ⟨some 87, _, _, _, _, _⟩) rfl rfl ?_
        have e12 := hI.v12 (hdn 12 (by kernel_rfl))
        simp only [putsF, List.foldl_cons, List.foldl_nil, Act.put, List.setIfInBounds_toArray, List.set_cons_zero, List.set_cons_succ] at hK ⊢
        simp only [e12] at hK ⊢
        go_wp2_with fail
        exact hK.out _ _ ⟨hI.lv, hI.c8, hI.b, hI.m21, hI.m22, hI.e25, hI.v0, hI.v1, hI.v2, hI.v3, hI.v4, hI.v5, hI.v6, hI.v7, hI.v8, hI.v9, hI.v10, hI.v11, hI.v12, fun _ => rfl, hI.v14, hI.v15, hI.v16, hI.v17, hI.v18, hI.v19, hI.v20, hI.v23, hI.v24⟩
      case sz14 =>
        intro xs done y hI hd0 hup hdn K hK
        refine wpOp_go (o := ⟨some 88, _, _, _, _, _⟩) rfl rfl ?_
        have e13 := hI.v13 (hdn 13 (by kernel_rfl))
        simp only [putsF, List.foldl_cons, List.foldl_nil, Act.put, List.setIfInBounds_toArray, List.set_cons_zero, List.set_cons_succ] at hK ⊢
        simp only [e13] at hK ⊢
        go_wp2_with fail
        exact hK.out _ _ ⟨hI.lv, hI.c8, hI.b, hI.m21, hI.m22, hI.e25, hI.v0, hI.v1, hI.v2, hI.v3, hI.v4, hI.v5, hI.v6, hI.v7, hI.v8, hI.v9, hI.v10, hI.v11, hI.v12, hI.v13, fun _ => rfl, hI.v15, hI.v16, hI.v17, hI.v18, hI.v19, hI.v20, hI.v23, hI.v24⟩
      case sz15 =>
        intro xs done y hI hd0 hup hdn K hK
        refine wpOp_go (o := ⟨some 89, _, _, _, _, _⟩) rfl rfl ?_
        have e14 := hI.v14 (hdn 14 (by kernel_rfl))
        simp only [putsF, List.foldl_cons, List.foldl_nil, Act.put, List.setIfInBounds_toArray, List.set_cons_zero, List.set_cons_succ] at hK ⊢
        simp only [e14] at hK ⊢
        have hz := HX.out y (hI.b (hup 22 (by kernel_rfl)))
        have lG := (hz.gc hi).2.2.2.2
        have g2 := (hz.gc hi).2.2.1
        clear hz
        go_wp2_with fail
        exact hK.out _ _ ⟨hI.lv, hI.c8, hI.b, hI.m21, hI.m22, hI.e25, hI.v0, hI.v1, hI.v2, hI.v3, hI.v4, hI.v5, hI.v6, hI.v7, hI.v8, hI.v9, hI.v10, hI.v11, hI.v12, hI.v13, hI.v14, fun _ => rfl, hI.v16, hI.v17, hI.v18, hI.v19, hI.v20, hI.v23, hI.v24⟩
      case sz16 =>
        intro xs done y hI hd0 hup hdn K hK
        refine wpOp_go (o := ⟨some 90, _, _, _, _, _⟩) rfl rfl ?_
        simp only [putsF, List.foldl_cons, List.foldl_nil, Act.put, List.setIfInBounds_toArray, List.set_cons_zero, List.set_cons_succ] at hK ⊢
        go_wp2_with fail
        exact hK.out _ _ ⟨hI.lv, hI.c8, hI.b, hI.m21, hI.m22, hI.e25, hI.v0, hI.v1, hI.v2, hI.v3, hI.v4, hI.v5, hI.v6, hI.v7, hI.v8, hI.v9, hI.v10, hI.v11, hI.v12, hI.v13, hI.v14, hI.v15, fun _ => rfl, hI.v17, hI.v18, hI.v19, hI.v20, hI.v23, hI.v24⟩
      case sz17 =>
        intro xs done y hI hd0 hup hdn K hK
        refine wpOp_go (o := ⟨some 91, _, _, _, _, _⟩) rfl rfl ?_
        have e16 := hI.v16 (hdn 16 (by kernel_rfl))
        simp only [putsF, List.foldl_cons, List.foldl_nil, Act.put, List.setIfInBounds_toArray, List.set_cons_zero, List.set_cons_succ] at hK ⊢
        simp only [e16] at hK ⊢
        go_wp2_with fail
        exact hK.out _ _ ⟨hI.lv, hI.c8, hI.b, hI.m21, hI.m22, hI.e25, hI.v0, hI.v1, hI.v2, hI.v3, hI.v4, hI.v5, hI.v6, hI.v7, hI.v8, hI.v9, hI.v10, hI.v11, hI.v12, hI.v13, hI.v14, hI.v15, hI.v16, fun _ => rfl, hI.v18, hI.v19, hI.v20, hI.v23, hI.v24⟩
      case sz18 =>
        intro xs done y hI hd0 hup hdn K hK
        refine wpOp_go (o := ⟨some 92, _, _, _, _, _⟩) rfl rfl ?_
        have e17 := hI.v17 (hdn 17 (by kernel_rfl))
        simp only [putsF, List.foldl_cons, List.foldl_nil, Act.put, List.setIfInBounds_toArray, List.set_cons_zero, List.set_cons_succ] at hK ⊢
        simp only [e17] at hK ⊢
        go_wp2_with fail
        exact hK.out _ _ ⟨hI.lv, hI.c8, hI.b, hI.m21, hI.m22, hI.e25, hI.v0, hI.v1, hI.v2, hI.v3, hI.v4, hI.v5, hI.v6, hI.v7, hI.v8, hI.v9, hI.v10, hI.v11, hI.v12, hI.v13, hI.v14, hI.v15, hI.v16, hI.v17, fun _ => rfl, hI.v19, hI.v20, hI.v23, hI.v24⟩
      case sz19 =>
        intro xs done y hI hd0 hup hdn K hK
        refine wpOp_go (o := ⟨some 93, _, _, _, _, _⟩) rfl rfl ?_
        have e18 := hI.v18 (hdn 18 (by kernel_rfl))
        simp only [putsF, List.foldl_cons, List.foldl_nil, Act.put, List.setIfInBounds_toArray, List.set_cons_zero, List.set_cons_succ] at hK ⊢
        simp only [e18] at hK ⊢
        have hz := HX.out y (hI.b (hup 22 (by kernel_rfl)))
        have lv := hz.pl.lt
        have c3 := hz.pc.2.2.2.1
        clear hz
        go_wp2_with fail
        exact hK.out _ _ ⟨hI.lv, hI.c8, hI.b, hI.m21, hI.m22, hI.e25, hI.v0, hI.v1, hI.v2, hI.v3, hI.v4, hI.v5, hI.v6, hI.v7, hI.v8, hI.v9, hI.v10, hI.v11, hI.v12, hI.v13, hI.v14, hI.v15, hI.v16, hI.v17, hI.v18, fun _ => rfl, hI.v20, hI.v23, hI.v24⟩
      case sz20 =>
        intro xs done y hI hd0 hup hdn K hK
        refine wpOp_go (o := ⟨some 94, _, _, _, _, _⟩) rfl rfl ?_
        have e5 := hI.v5 (hdn 5 (by kernel_rfl))
        have e9 := hI.v9 (hdn 9 (by kernel_rfl))
        have e10 := hI.v10 (hdn 10 (by kernel_rfl))
        have e11 := hI.v11 (hdn 11 (by kernel_rfl))
        have e15 := hI.v15 (hdn 15 (by kernel_rfl))
        have e19 := hI.v19 (hdn 19 (by kernel_rfl))
        simp only [putsF, List.foldl_cons, List.foldl_nil, Act.put, List.setIfInBounds_toArray, List.set_cons_zero, List.set_cons_succ] at hK ⊢
        simp only [e5, e9, e10, e11, e15, e19] at hK ⊢
        go_wp2_with fail
        exact hK.out _ _ ⟨hI.lv, hI.c8, hI.b, hI.m21, hI.m22, hI.e25, hI.v0, hI.v1, hI.v2, hI.v3, hI.v4, hI.v5, hI.v6, hI.v7, hI.v8, hI.v9, hI.v10, hI.v11, hI.v12, hI.v13, hI.v14, hI.v15, hI.v16, hI.v17, hI.v18, hI.v19, fun _ => rfl, hI.v23, hI.v24⟩
      case sz21 =>
        intro xs done y hI hd0 hup hdn K hK
        refine wpOp_go (o := ⟨some 95, _, _, _, _, _⟩) rfl rfl ?_
        have e20 := hI.v20 (hdn 20 (by kernel_rfl))
        simp only [putsF, List.foldl_cons, List.foldl_nil, Act.put, List.setIfInBounds_toArray, List.set_cons_zero, List.set_cons_succ] at hK ⊢
        simp only [e20] at hK ⊢
        have hd22 := hup 22 (by kernel_rfl)
        have hbel := hI.b hd22
        go_wp2_with fail
        have hb4 := (Below.refl y.heap.size y).alloc (Nat.le_refl _) (.cells #[.int .i64 (i : Int), .int .i64 (x1.gu i 1), .int .i64 (r : Int), .bool on, .int .i64 (x1.gu i 2), .int .i64 x1.now] 57)
        have hg := Row.new y 57 #[.int .i64 (i : Int), .int .i64 (x1.gu i 1), .int .i64 (r : Int), .bool on, .int .i64 (x1.gu i 2), .int .i64 x1.now]
        have hz := HX.out _ (hbel.trans (hb4.mono hbel.size))
        exact hK.out _ _ ⟨⟨hz.pl.lt, hz.frv 8⟩, (fun _ => hz.pc.2.2.2.2.1), (fun _ => hbel.trans (hb4.mono hbel.size)), (fun _ _ => ⟨_, rfl, hg⟩), (fun h => Bool.noConfusion (hd22.symm.trans h)), (fun h => Bool.noConfusion ((hup 25 (by kernel_rfl)).symm.trans h)), hI.v0, hI.v1, hI.v2, hI.v3, hI.v4, hI.v5, hI.v6, hI.v7, hI.v8, hI.v9, hI.v10, hI.v11, hI.v12, hI.v13, hI.v14, hI.v15, hI.v16, hI.v17, hI.v18, hI.v19, hI.v20, hI.v23, hI.v24⟩
      case sz22 =>
        intro xs done y hI hd0 hup hdn K hK
        refine wpOp_go (o := ⟨some 96, _, _, _, _, _⟩) rfl rfl ?_
        have e4 := hI.v4 (hdn 4 (by kernel_rfl))
        have hm21 := hI.m21 (hdn 21 (by kernel_rfl)) hd0
        have hbel := hI.b hd0
        simp only [putsF, List.foldl_cons, List.foldl_nil, Act.put, List.setIfInBounds_toArray, List.set_cons_zero, List.set_cons_succ] at hK ⊢
        obtain ⟨g, e21, hrow⟩ := hm21
        simp only [e4, e21] at hK ⊢
        have hin := HX.out y hbel
        refine wp_appAt y (.tmp 78) (.tmp 95) 32 (by rfl) E.base 57 j0 _ 6 48 Try.underlying32 hj hy0 hy1 hy2 rfl (by decide) uv x1.vis.length (x1.vis.flatMap visL) (by rfl) hin.vis ⟨g, 0, none⟩ 1 1 (visL ⟨i, x1.gu i 1, r, on, x1.gu i 2, x1.now⟩) (by rfl) rfl (row_news hrow) (by intro u hu; unfold visL at hu; simp only [List.mem_cons, List.not_mem_nil, or_false] at hu; rcases hu with rfl | rfl | rfl | rfl | rfl | rfl <;> rfl) (by unfold maxLen; omega) (by omega) hin.bW ?_
        intro u z ho hg hat
        obtain ⟨uA, uc, rfl⟩ := own_slice ho
        obtain ⟨f1, f2, f3⟩ := hin.atV hg
        exact hK.out _ _ ⟨⟨f3, f1⟩, (fun _ => f2), (fun h => Bool.noConfusion h), (fun _ h => Bool.noConfusion h), (fun _ _ => ⟨uA, uc, rfl, y, hin, hbel, hg, ho, hat⟩), (fun h => Bool.noConfusion ((hup 25 (by kernel_rfl)).symm.trans h)), hI.v0, hI.v1, hI.v2, hI.v3, hI.v4, hI.v5, hI.v6, hI.v7, hI.v8, hI.v9, hI.v10, hI.v11, hI.v12, hI.v13, hI.v14, hI.v15, hI.v16, hI.v17, hI.v18, hI.v19, hI.v20, hI.v23, hI.v24⟩
      case sz23 =>
        intro xs done y hI hd0 hup hdn K hK
        refine wpOp_go (o := ⟨some 97, _, _, _, _, _⟩) rfl rfl ?_
        have e0 := hI.v0 (hdn 0 (by kernel_rfl))
        simp only [putsF, List.foldl_cons, List.foldl_nil, Act.put, List.setIfInBounds_toArray, List.set_cons_zero, List.set_cons_succ] at hK ⊢
        simp only [e0] at hK ⊢
        go_wp2_with fail
        exact hK.out _ _ ⟨hI.lv, hI.c8, hI.b, hI.m21, hI.m22, hI.e25, hI.v0, hI.v1, hI.v2, hI.v3, hI.v4, hI.v5, hI.v6, hI.v7, hI.v8, hI.v9, hI.v10, hI.v11, hI.v12, hI.v13, hI.v14, hI.v15, hI.v16, hI.v17, hI.v18, hI.v19, hI.v20, fun _ => rfl, hI.v24⟩
      case sz24 =>
        intro xs done y hI hd0 hup hdn K hK
        refine wpOp_go (o := ⟨some 98, _, _, _, _, _⟩) rfl rfl ?_
        have e23 := hI.v23 (hdn 23 (by kernel_rfl))
        simp only [putsF, List.foldl_cons, List.foldl_nil, Act.put, List.setIfInBounds_toArray, List.set_cons_zero, List.set_cons_succ] at hK ⊢
        simp only [e23] at hK ⊢
        go_wp2_with fail
        exact hK.out _ _ ⟨hI.lv, hI.c8, hI.b, hI.m21, hI.m22, hI.e25, hI.v0, hI.v1, hI.v2, hI.v3, hI.v4, hI.v5, hI.v6, hI.v7, hI.v8, hI.v9, hI.v10, hI.v11, hI.v12, hI.v13, hI.v14, hI.v15, hI.v16, hI.v17, hI.v18, hI.v19, hI.v20, hI.v23, fun _ => rfl⟩
      case sz25 =>
        intro xs done y hI hd0 hup hdn K hK
        refine wpOp_go (o := ⟨none, _, _, _, _, _⟩) rfl rfl ?_
        have e24 := hI.v24 (hdn 24 (by kernel_rfl))
        have hm22 := hI.m22 (hdn 22 (by kernel_rfl)) hd0
        have hc8 := hI.c8 hd0
        simp only [putsF, List.foldl_cons, List.foldl_nil, Act.put, List.setIfInBounds_toArray, List.set_cons_zero, List.set_cons_succ] at hK ⊢
        obtain ⟨uA, uc, e22, y0, hin, hb0, hg, ho, hat⟩ := hm22
        rw [e22] at hat
        simp only [e24, e22] at hK ⊢
        have hY := hin.setV (u := .slice uA (x1.vis.length + 1) uc) (v := ⟨i, x1.gu i 1, r, on, x1.gu i 2, x1.now⟩) hg ho hat
        have hB := (hb0.mono hU).trans ((hin.belV hg).setCell (p := ⟨E.v, 8, none⟩) hin.bv (.slice uA (x1.vis.length + 1) uc))
        obtain ⟨hlv, hfv⟩ := hI.lv
        go_wp2_with fail
        exact hK.out undef _ ⟨⟨hY.pl.lt, hY.frv 8⟩, (fun h => Bool.noConfusion h), (fun h => Bool.noConfusion ((hdn 22 (by kernel_rfl)).symm.trans h)), (fun _ h => Bool.noConfusion ((hdn 22 (by kernel_rfl)).symm.trans h)), (fun _ h => Bool.noConfusion h), (fun _ => ⟨⟨_, _, hY⟩, hB⟩), hI.v0, hI.v1, hI.v2, hI.v3, hI.v4, hI.v5, hI.v6, hI.v7, hI.v8, hI.v9, hI.v10, hI.v11, hI.v12, hI.v13, hI.v14, hI.v15, hI.v16, hI.v17, hI.v18, hI.v19, hI.v20, hI.v23, hI.v24⟩
      case finz =>
        intro xs done y hI hd
        have hE := hI.e25 (hd 25 (by decide))
        simp only [putsF, List.foldl_cons, List.foldl_nil, Act.put, List.setIfInBounds_toArray, List.set_cons_zero, List.set_cons_succ]
        clear hI hd HX
        rw [← HLX.out] at hE
        obtain ⟨⟨qs2, uv2, h2⟩, hb2'⟩ := hE
        have B2 := Lib.hid (BY.out.trans (hb2'.mono (Nat.le_refl _)))
        obtain ⟨x2, hx2⟩ : ∃ z, z = leftR E x i on := ⟨_, rfl⟩
        have HX2 : Hid (x2.gu = x.gu ∧ x2.now = x.now ∧ x2.tab = x.tab ∧ ∀ r', r' < E.f.rides.length → (x2.q r').length ≤ 1000) := by
          show _ ∧ _
          rw [hx2, HLX.out]
          exact ⟨HX1.out.1, HX1.out.2.1, HX1.out.2.2, HQ1.out⟩
        rw [← hx2] at h2
        clear hb2' HX1 HQ1 HLX hU0 hU hv1
        cases on with
        | false =>
          have HON := Lib.hid (ron_any (i := i) ⟨_, _, h2⟩ S hi (by rw [HX2.out.1]; have := HW0.out; have := HWN.out; have := (S.gp i hi).2.2.2.1; omega) HX2.out.2.2.2)
          have HF := Lib.hid (HLF.out rfl)
          rw [hx2] at HON
          clear hx2 h2
          go_wp2_with (go_at_call 80; refine HON.out.mono ?_; rintro e w9 ⟨rfl, hb9, hr9⟩; have HB9 := Lib.hid (B2.out.trans hb9); have HR9 := Lib.hid hr9; clear hb9 hr9)
          go_end0
          exact ⟨rfl, HB9.out, by rw [HF.out]; exact HR9.out⟩
        | true =>
          have HT := Lib.hid (HLT.out rfl)
          rw [← hx2] at HT
          clear HLT HLF hx2
          have lG := (h2.gc hi).2.2.2.2
          have g0 := (h2.gc hi).1
          have g2 := (h2.gc hi).2.2.1
          have fG0 := h2.frG hi (i * 4)
          have fG2 := h2.frG hi (i * 4 + 2)
          obtain ⟨-, -, -, v3, -, lv⟩ := h2.pc
          rw [HX2.out.2.1] at v3
          have hne : ¬ E.v = E.G := h2.pl.ty.ne (h2.gu (by omega)).ty (by decide)
          have k1 := h2.setGu (j := 0) hi (by omega) 3
          have k2 := k1.setGu (i := i) (j := 2) hi (by omega) x.now
          have bX := (B2.out.setCell (p := ⟨E.G, i * 4 + 0, none⟩) h2.bG (.int .i64 3)).setCell (p := ⟨E.G, i * 4 + 2, none⟩) h2.bG (.int .i64 x.now)
          rw [Nat.add_zero] at k2 bX
          have K2 := Lib.hid k2
          have BX := Lib.hid bX
          clear k1 k2 bX h2 B2
          go_upto_region 14 with (fail)
          obtain ⟨X, hX⟩ : ∃ X, X = (y.setCell ⟨E.G, i * 4, none⟩ (.int .i64 3)).setCell ⟨E.G, i * 4 + 2, none⟩ (.int .i64 x.now) := ⟨_, rfl⟩
          rw [← hX] at K2 BX ⊢
          clear hX lG g0 g2 fG0 fG2 v3 lv hne
          obtain ⟨x3, hx3⟩ : ∃ z, z = (x2.setGu i 0 3).setGu i 2 x.now := ⟨_, rfl⟩
          rw [← hx3] at K2 HT
          have HX3 : Hid (x3.gu i 3 = x.gu i 3 ∧ x3.tab = x.tab) := by
            show _ ∧ _
            rw [hx3]
            refine ⟨?_, HX2.out.2.2.1⟩
            show upd2 (upd2 x2.gu i 0 3) i 2 _ i 3 = _
            rw [upd2_ne _ _ _ _ (by omega), upd2_ne _ _ _ _ (by omega), HX2.out.1]
          clear hx3
          have k := K2.out
          have lG := (k.gc hi).2.2.2.2
          have g3 := (k.gc hi).2.2.2.1
          rw [HX3.out.1] at g3
          have fG3 := k.frG hi (i * 4 + 3)
          obtain ⟨v0, -, v2, -, -, lv⟩ := k.pc
          obtain ⟨b4, o4, ha4, hb4, -, p1, -, -, -⟩ := k.rc hr
          obtain ⟨b5, o5, ha5, hb5, -, s1, -, -, -⟩ := k.lc hi
          rw [ha4] at v0
          rw [ha5] at v2
          obtain ⟨pr, hpr'⟩ : ∃ z, z = (E.f.rides.getD r default).price := ⟨_, rfl⟩
          obtain ⟨sz, hsz'⟩ : ∃ z, z = (E.l.getD i default).size := ⟨_, rfl⟩
          rw [← hpr'] at p1 hpr HT
          have HPR : Hid ((E.f.rides.getD r default).price = pr) := hpr'.symm
          have HSZ : Hid ((E.l.getD i default).size = sz) := hsz'.symm
          rw [← hsz'] at s1 hsz HT
          have hr' : (r : Int) < (E.f.rides.length : Int) := by omega
          have hm1 : 0 ≤ pr * sz := Int.mul_nonneg hpr.1 (by omega)
          have hm2 : pr * sz ≤ 100 * 40 := Int.mul_le_mul hpr.2 hsz.2 (by omega) (by omega)
          have e1 : IntKind.i64.wrap (pr * sz) = pr * sz := IntWalk.i64_in _ (by omega)
          have e2 : IntKind.i64.wrap (x.gu i 3 - pr * sz) = x.gu i 3 - pr * sz := IntWalk.i64_in _ (by omega)
          have hne4 : ¬ b4 = E.G := fun e => by have := k.bG; have := (k.rides.2 (by omega)); obtain ⟨b', o', e', hb', _⟩ := this; rw [ha4] at e'; injection e' with e'; injection e' with e'; omega
          have k3 := (k.grow (below_drewN (Below.refl _ X) 1)).setGu (i := i) (j := 3) hi (by omega) (x.gu i 3 - pr * sz)
          have b3 := (below_drewN BX.out 1).setCell (p := ⟨E.G, i * 4 + 3, none⟩) k.bG (.int .i64 (x.gu i 3 - pr * sz))
          have K3 := Lib.hid k3
          have B3 := Lib.hid b3
          clear k k3 b3 K2 BX hpr' hsz'
          refine wp_tail 23 (by kernel_rfl) (by kernel_rfl) ?_
          simp only [List.take_succ_cons, List.take_zero, List.drop_succ_cons, List.drop_zero]
          repeat still_step
          refine wpStill_nil ?_
          go_upto_region 15 with (fail)
          obtain ⟨V, hV⟩ : ∃ V, V = (X.drewN 1).setCell ⟨E.G, i * 4 + 3, none⟩ (.int .i64 (x.gu i 3 - pr * sz)) := ⟨_, rfl⟩
          rw [← hV] at K3 B3 ⊢
          clear hV lG g3 fG3 v0 v2 lv p1 s1 hb4 hb5 e2 hne4
          obtain ⟨x4, hx4⟩ : ∃ z, z = x3.setGu i 3 (x.gu i 3 - pr * sz) := ⟨_, rfl⟩
          rw [← hx4] at K3 HT
          have HX4 : Hid (x4.tab = x.tab) := by show _ = _; rw [hx4]; exact HX3.out.2
          clear hx4
          have k := K3.out
          obtain ⟨t2, lt2, ft2⟩ := k.tc (k := 2) (by omega) (show r < E.tn 2 from hr)
          rw [HX4.out] at t2
          have f2 := ft2 r
          have v9 := k.pT (by omega)
          obtain ⟨v0, -, v2, -, -, lv⟩ := k.pc
          obtain ⟨b6, o6, ha6, hb6, -, p1, -, -, -⟩ := k.rc hr
          obtain ⟨b7, o7, ha7, hb7, -, s1, -, -, -⟩ := k.lc hi
          rw [ha6] at v0
          rw [ha7] at v2
          rw [HPR.out] at p1
          rw [HSZ.out] at s1
          have e3 : IntKind.i64.wrap (x.tab 2 r + pr * sz) = x.tab 2 r + pr * sz := IntWalk.i64_in _ (by omega)
          have k4 := (k.grow (below_drewN (Below.refl _ V) 1)).setT (k := 2) (i := r) (by omega) hr (x.tab 2 r + pr * sz)
          have b4 := (below_drewN B3.out 1).setCell (p := ⟨E.T 2, r, none⟩) (k.bT 2 (by omega)) (.int .i64 (x.tab 2 r + pr * sz))
          have K4 := Lib.hid k4
          have B4 := Lib.hid b4
          clear k k4 b4 K3 B3 ft2
          refine wp_tail 26 (by kernel_rfl) (by kernel_rfl) ?_
          simp only [List.take_succ_cons, List.take_zero, List.drop_succ_cons, List.drop_zero]
          repeat still_step
          refine wpStill_nil ?_
          go_wp2_with fail
          go_end0
          exact ⟨rfl, B4.out, _, _, by rw [HT.out]; exact K4.out⟩

end Go.Proofs.Ytijbhcdnbaaobaa
