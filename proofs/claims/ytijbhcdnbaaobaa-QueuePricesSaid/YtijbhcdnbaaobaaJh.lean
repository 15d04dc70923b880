/- Contract of queue's leaveQueue. Conditions: the evening lies in memory, its numbers are small, and the group stands in its queue. -/
import Derived.Test.YtijbhcdnbaaobaaJg
import Derived.Test.YtijbhcdnbaaobaaJi
namespace Go.Proofs.Ytijbhcdnbaaobaa
open Go.RowKit

theorem Try.info_visit : (Try.prog.info? 57).map (fun i => (i.zero, i.size, i.bytes)) = some (some (.agg #[.int .i64 0, .int .i64 0, .int .i64 0, .bool false, .int .i64 0, .int .i64 0]), 6, 48) := by kernel_rfl
theorem queue_form {E : EvE} {w : World} {s : EvS} {qs : Nat → Value} {uv : Value} (h : EvIn E w s qs uv) {r i : Nat} (hr : r < s.rides.length) (hm : i ∈ (s.rd r).q) : ∃ g c, qs r = .slice (some ⟨g, 0, none⟩) (s.rd r).q.length c ∧ g < w.heap.size ∧ E.base ≤ g := by
  have ho := h.q r hr
  rcases ho.2 with ⟨_, h1⟩ | ⟨g, cap, cur, h1, hb, hg, _⟩
  · have : (s.rd r).q = [] := List.eq_nil_of_length_eq_zero h1
    rw [this] at hm
    cases hm
  · exact ⟨g, cap, h1, (Array.getElem?_eq_some_iff.1 hg).1, hb⟩
theorem leave_eq (s : EvS) (i : Nat) (on : Bool) : leaveS s i on = { s.modR (s.grp i).goal (fun x => { x with q := dropQ i (s.rd (s.grp i).goal).q }) with visits := s.visits ++ [⟨i, (s.grp i).want, (s.grp i).goal, on, (s.grp i).came, s.now⟩] } := by
  unfold leaveS
  rw [modR_congr s (s.grp i).goal _ (fun x => { x with q := dropQ i (s.rd (s.grp i).goal).q }) rfl]
theorem leave_end {E : EvE} {w U A X : World} {s : EvS} {qs : Nat → Value} {uv vs u : Value} {x : VisZ} (h : EvIn E U s qs uv) (hb : Below E.base w U) (hv : uv = vs) (hX : A.grownBy X vs.ownBlock) (hA : Below U.heap.size U A)
    (ho : X.ownsRow E.base 57 6 u (s.visits.length + 1) (s.visits.flatMap visL ++ visL x)) :
    (X.frozen? ⟨E.v, 4, none⟩ = false ∧ X.cell? ⟨E.v, 4, none⟩ = some vs) ∧ Below E.base w (X.setCell ⟨E.v, 4, none⟩ u) ∧ EvIn E (X.setCell ⟨E.v, 4, none⟩ u) { s with visits := s.visits ++ [x] } qs u := by
  subst hv
  have h2 := h.grow hA
  exact ⟨h2.atV hX, ((hb.trans (hA.mono h.bas.2.2.2)).trans (h2.belV hX)).setCell h.bas.1 _, h2.setV hX ho⟩
/-- The slice that has been appended to: when it is stored, the evening is this one. -/
def leftV (E : EvE) (w : World) (qs : Nat → Value) (t : EvS) (n : Nat) : Value → World → Prop := fun u y => ∃ g c, u = .slice (some ⟨g, 0, none⟩) n c ∧ Below E.base w (y.setCell ⟨E.v, 4, none⟩ u) ∧ EvIn E (y.setCell ⟨E.v, 4, none⟩ u) t qs u
theorem app_keep {U A X : World} {u v : Value} {p : Addr} (hX : A.grownBy X u.ownBlock) (hA : Below U.heap.size U A) (hlt : p.block < U.heap.size) (hne : ∀ g, u.ownBlock = some g → ¬ g = p.block) (hc : U.cell? p = some v) : X.cell? p = some v :=
  hX.cell ((hA.cell hlt).trans hc) fun e => hne _ e.symm rfl
set_option maxRecDepth 100000 in
set_option maxHeartbeats 4000000 in
theorem leave_any {E : EvE} {w : World} {s : EvS} (h : EvAt E w s) {i : Nat} (on : Bool) (hi : i < s.groups.length) (hf : FitS s) (h0 : 0 ≤ (s.grp i).want) (h1 : (s.grp i).want < ((s.grp i).g.wants.length : Int)) (hm : i ∈ (s.rd (s.grp i).goal).q) :
    Calls Try.prog 110 #[.pointer (some ⟨E.v, 0, none⟩), .int .i64 i, .bool on] w (StepTo E w (leaveS s i on)) := by
  obtain ⟨qs, uv, h⟩ := h
  have hb := h.bas
  have hng := hf.ng
  have hw10 := (hf.gp i hi).2.2
  have Hvl : Hid (∀ g, uv.ownBlock = some g → g < w.heap.size) := fun g hg => (h.vis.lt g hg).2
  have hi' : (i : Int) < (s.groups.length : Int) := by omega
  have hi0 : (0 : Int) ≤ (i : Int) := by omega
  obtain ⟨_, _, _, _, _, _, _, _, hr⟩ := h.wish hi hf.wish h0 h1
  have hq60 := (hf.que (s.grp i).goal).1
  have hvis := hf.vis
  have HS := Lib.hid (leave_eq s i on)
  obtain ⟨g, c, hqr, hg, hgb⟩ := queue_form h hr hm
  have hG0 := (h.gc hi).2.2.2.2.2.2.2.2.2
  have hR0 := (h.rc hr).2.2.2.2.2.2.2.2.2
  have hV0 := h.vc.2.2.2
  obtain ⟨r, hrr⟩ : ∃ r, r = (s.grp i).goal := ⟨_, rfl⟩
  rw [← hrr] at hqr HS hr hm hq60
  have Hrr := Lib.hid hrr
  clear hrr
  -- the box of the number
  obtain ⟨W, hW⟩ : ∃ W, W = w.alloc (.cells #[.int .i64 (i : Int)] 3) := ⟨_, rfl⟩
  have hWi : EvIn E W s qs uv := by subst hW; exact h.grow ((Below.refl _ _).alloc (Nat.le_refl _) _)
  have bW : Below E.base w W := by subst hW; exact (Below.refl _ _).alloc hb.2.2.2 _
  have kW : W.cell? ⟨w.heap.size, 0, none⟩ = some (.int .i64 (i : Int)) := by subst hW; exact (Row.new w 3 #[.int .i64 (i : Int)]).cell (j := 0) (by simp)
  have lW : w.heap.size < W.heap.size := by subst hW; simp
  have v3 := hWi.vG hi
  have l1 : E.v < W.heap.size := by omega
  have HW := Lib.hid hWi
  clear hWi h
  go_enter Try.func110, Try.ntmps110
  go_upto_region 1 with (fail)
  rw [← hW]
  clear hW
  go_quiet (fail)
  have hZi : EvIn E (W.drewN nq) s qs uv := HW.out.grow (below_drewN (Below.refl _ _) nq)
  have bZ : Below E.base w (W.drewN nq) := below_drewN bW nq
  have kZ : (W.drewN nq).cell? ⟨w.heap.size, 0, none⟩ = some (.int .i64 (i : Int)) := kW
  have lZ : w.heap.size < (W.drewN nq).heap.size := lW
  obtain ⟨Z, hZ⟩ : ∃ Z, Z = W.drewN nq := ⟨_, rfl⟩
  rw [← hZ] at hZi bZ kZ lZ ⊢
  clear hZ HW bW kW lW v3 l1
  have hw0 := wanted_any hZi hi hf h0 h1
  rw [← Hrr.out] at hw0
  have Hw := Lib.hid hw0
  clear hw0
  have HZ := Lib.hid hZi
  clear hZi
  have HB := Lib.hid bZ
  have HK := Lib.hid kZ
  clear bZ kZ
  go_upto_region 3 with (go_at_call 109; refine Hw.out.mono ?_; rintro e w' ⟨rfl, nd, rfl⟩)
  have hYi : EvIn E (Z.drewN nd) s qs uv := HZ.out.grow (below_drewN (Below.refl _ _) nd)
  have bY : Below E.base w (Z.drewN nd) := below_drewN HB.out nd
  have kY : (Z.drewN nd).cell? ⟨w.heap.size, 0, none⟩ = some (.int .i64 (i : Int)) := HK.out
  have lY : w.heap.size < (Z.drewN nd).heap.size := lZ
  obtain ⟨Y, hY⟩ : ∃ Y, Y = Z.drewN nd := ⟨_, rfl⟩
  rw [← hY] at hYi bY kY lY ⊢
  clear hY HZ HB HK Hw lZ
  have q5 := (hYi.rc hr).2.2.2.2.2.1
  have hqo := hYi.q _ hr
  rw [hqr] at q5 hqo
  have Hd := Lib.hid (drop_any (i := i) rfl hqo w.heap.size lY (by omega) kY (by omega))
  have Hqr := Lib.hid hqr
  clear hqo hqr hm hq60
  have HY := Lib.hid hYi
  have HB := Lib.hid bY
  have HK := Lib.hid kY
  clear hYi bY kY
  go_upto_region 4 with (go_at_call 126; refine Hd.out.mono ?_; rintro e X ⟨rfl, hX, ho⟩; have hXb : Hid (Y.grownBy X (qs r).ownBlock) := (by show World.grownBy _ _ _; rw [Hqr.out]; exact hX); obtain ⟨f5, k5⟩ := HY.out.atQ hr hXb.out; rw [Hqr.out] at k5; have HO := Lib.hid ho; have HX := Lib.hid hX; clear ho hX)
  have hXb := hXb.out
  have ho := HO.out
  have hX := HX.out
  have hU := HY.out.setQ (u := .slice (some ⟨g, 0, none⟩) (dropQ i (s.rd r).q).length c) (l := dropQ i (s.rd r).q) hr hXb ho (.inr (.inl (by rw [Hqr.out]; rfl)))
  have bU : Below E.base w (X.setCell ⟨E.R, r * 9 + 5, none⟩ (.slice (some ⟨g, 0, none⟩) (dropQ i (s.rd r).q).length c)) := (HB.out.trans (HY.out.belQ hr hXb)).setCell hb.2.1 _
  have kX : X.cell? ⟨w.heap.size, 0, none⟩ = some (.int .i64 (i : Int)) := hX.cell HK.out (by simp [Value.ownBlock]; omega)
  have kU : (X.setCell ⟨E.R, r * 9 + 5, none⟩ (.slice (some ⟨g, 0, none⟩) (dropQ i (s.rd r).q).length c)).cell? ⟨w.heap.size, 0, none⟩ = some (.int .i64 (i : Int)) := by
    rw [World.cell?_setCell_other _ _ _ _ (by intro e; injection e with e; omega)]
    exact kX
  have lU : w.heap.size < (X.setCell ⟨E.R, r * 9 + 5, none⟩ (.slice (some ⟨g, 0, none⟩) (dropQ i (s.rd r).q).length c)).heap.size := Nat.lt_of_lt_of_le lY (Nat.le_trans hX.size (grown_set _ _ _).size)
  obtain ⟨qs1, hqs1⟩ : ∃ q : Nat → Value, q = (fun k => if k = r then .slice (some ⟨g, 0, none⟩) (dropQ i (s.rd r).q).length c else qs k) := ⟨_, rfl⟩
  rw [← hqs1] at hU
  have HU := Lib.hid hU
  have HBU := Lib.hid bU
  have HKU := Lib.hid kU
  clear hqs1 hU bU kU kX ho hX hXb Hqr HY HB HK Hd q5 lY HO HX
  obtain ⟨U, hUU⟩ : ∃ U, U = X.setCell ⟨E.R, r * 9 + 5, none⟩ (.slice (some ⟨g, 0, none⟩) (dropQ i (s.rd r).q).length c) := ⟨_, rfl⟩
  rw [← hUU] at HU HBU HKU lU ⊢
  clear hUU f5 k5
  obtain ⟨s1, hs1⟩ : ∃ t, t = s.modR r fun x => { x with q := dropQ i (s.rd r).q } := ⟨_, rfl⟩
  have hi1 : i < s1.groups.length := by rw [hs1]; exact hi
  have hg1 : s1.grp i = s.grp i := by rw [hs1]; rfl
  have hn1 : s1.now = s.now := by rw [hs1]; rfl
  have hv1 : s1.visits = s.visits := by rw [hs1]; rfl
  have hW1 : ValS s1 := by rw [hs1]; exact fun j hj w hw => by rw [len_modR]; exact hf.wish j hj w hw
  have HS1 : Hid (leaveS s i on = { s1 with visits := s1.visits ++ [⟨i, (s1.grp i).want, r, on, (s1.grp i).came, s1.now⟩] }) := by
    show _ = _
    rw [HS.out, hs1]
    rfl
  rw [← hs1] at HU
  rw [← hg1] at h0 h1 Hrr hw10
  rw [← hv1] at hvis
  clear hs1 HS hg1 hn1 hv1 hf
  have hU := HU.out
  obtain ⟨b, o, k, hk, hkl, he, hbU, hc, _⟩ := hU.wish hi1 hW1 h0 h1
  rw [← Hrr.out] at hc
  obtain ⟨_, v1, v4, lv⟩ := hU.vc
  obtain ⟨_, _, c3, _, _, _, c7, c8, _, lG⟩ := hU.gc hi1
  rw [he] at c3
  rw [hk] at c7
  have Hk := Lib.hid hk
  have hbb : b < E.base := by
    obtain ⟨b', o', e', hb', _⟩ := (hU.wants i hi1).2 (by omega)
    rw [he] at e'
    injection e' with e'
    injection e' with e'
    rw [e']; exact hb'
  generalize (s1.grp i).g.wants.length = nw at *
  have hkl' : (k : Int) < (nw : Int) := by omega
  have hk0 : (0 : Int) ≤ (k : Int) := by omega
  have hown := hU.vis
  obtain ⟨vA, vc, hvs⟩ := own_slice hown
  rw [hvs] at v4 hown
  obtain ⟨iV, hii, hz0, hz1, hz2⟩ := info_parts Try.info_visit
  have m1 : s1.visits.length + 1 ≤ maxLen := by unfold maxLen; omega
  have m2 : (s1.visits.length + 1) * 48 ≤ 140737488355328 := by omega
  have nvG : ¬ E.v = E.G := hU.ev.ty.ne (hU.gp (by omega)).ty (by decide)
  have nvB : ¬ E.v = w.heap.size := by omega
  have nvb : ¬ E.v = b := by omega
  have nGv : ¬ E.G = E.v := fun e => nvG e.symm
  have nBv : ¬ w.heap.size = E.v := fun e => nvB e.symm
  have nbv : ¬ b = E.v := fun e => nvb e.symm
  have HV : Hid (∀ g, (Value.slice vA s1.visits.length vc).ownBlock = some g → ¬ g = E.v ∧ ¬ g = E.G ∧ ¬ g = w.heap.size ∧ ¬ g = b ∧ g < w.heap.size) := fun g hg => by
    have h1 := own_ty hown hg
    have h2 := hown.lt g hg
    exact ⟨h1.ne hU.ev.ty (by decide), h1.ne (hU.gp (by omega)).ty (by decide), by have := Hvl.out g (by rw [hvs]; exact hg); omega, by omega, Hvl.out g (by rw [hvs]; exact hg)⟩
  have HO := Lib.hid hown
  have Hvs := Lib.hid hvs
  have kU := HKU.out
  have kv : U.cell? ⟨E.v, 4, none⟩ = some (.slice vA s1.visits.length vc) := v4
  clear hU hown hvs v4 he hk
  refine wp_region_part 35 (ord := [0, 1, 2, 3, 4, 5, 6, 7, 8, 9, 10, 11, 12, 13, 14, 15, 16, 17, 18, 19, 20, 21, 22, 23, 24, 25, 26, 27, 28, 29, 30, 31, 32, 33, 34, 35]) (ds := [(0, 26), (1, 27), (2, 28), (3, 29), (4, 30), (5, 31), (6, 32), (7, 33), (8, 34), (9, 35), (10, 36), (11, 37), (12, 38), (13, 39), (14, 40), (15, 41), (16, 42), (17, 43), (18, 44), (19, 45), (20, 46), (21, 47), (22, 48), (23, 49), (24, 50), (25, 51), (26, 52), (27, 53), (28, 54), (29, 55), (30, 56), (31, 57), (32, 58), (33, 59), (34, 60)]) (I := appI 32 U (fun y => y.frozen? ⟨E.v, 4, none⟩ = false ∧ y.cell? ⟨E.v, 4, none⟩ = some (.slice vA s1.visits.length vc))) (V := fun j => if j = 31 then newRow U.heap.size 57 1 (visL ⟨i, (k : Int), r, on, (s1.grp i).came, s1.now⟩) else if j = 32 then leftV E w qs1 { s1 with visits := s1.visits ++ [⟨i, (k : Int), r, on, (s1.grp i).came, s1.now⟩] } (s1.visits.length + 1) else isV ((([.pointer (some ⟨E.v, 0, none⟩), .pointer (some ⟨E.v, 0, none⟩), .pointer (some ⟨E.v, 0, none⟩), .pointer (some ⟨E.v, 4, none⟩), .slice vA s1.visits.length vc, .int .i64 (i : Int), .pointer (some ⟨E.G, i * 10, none⟩), .pointer (some ⟨E.G, i * 10, none⟩), .pointer (some ⟨E.G, i * 10 + 7, none⟩), .int .i64 (k : Int), .pointer (some ⟨E.G, i * 10, none⟩), .pointer (some ⟨E.G, i * 10, none⟩), .pointer (some ⟨E.G, i * 10, none⟩), .pointer (some ⟨E.G, i * 10 + 3, none⟩), .slice (some ⟨b, o, none⟩) nw (E.ref i).2, .pointer (some ⟨E.G, i * 10, none⟩), .pointer (some ⟨E.G, i * 10, none⟩), .pointer (some ⟨E.G, i * 10 + 7, none⟩), .int .i64 (k : Int), .pointer (some ⟨b, o + k, none⟩), .int .i64 (r : Int), .bool on, .pointer (some ⟨E.G, i * 10, none⟩), .pointer (some ⟨E.G, i * 10, none⟩), .pointer (some ⟨E.G, i * 10 + 8, none⟩), .int .i64 (s1.grp i).came, .pointer (some ⟨E.v, 0, none⟩), .pointer (some ⟨E.v, 0, none⟩), .pointer (some ⟨E.v, 1, none⟩), .int .i64 s1.now, .agg #[.int .i64 (i : Int), .int .i64 (k : Int), .int .i64 (r : Int), .bool on, .int .i64 (s1.grp i).came, .int .i64 s1.now], undef, undef, .pointer (some ⟨E.v, 0, none⟩), .pointer (some ⟨E.v, 4, none⟩)] : List Value)[j]?).getD undef)) (by kernel_rfl) (by kernel_rfl) (by kernel_rfl) ?ia (StepsE.cons (k := 0) (k' := 1) (o := ⟨some 26, _, _, _, _, _⟩) rfl rfl ?sa0 (StepsE.cons (k := 1) (k' := 2) (o := ⟨some 27, _, _, _, _, _⟩) rfl rfl ?sa1 (StepsE.cons (k := 2) (k' := 3) (o := ⟨some 28, _, _, _, _, _⟩) rfl rfl ?sa2 (StepsE.cons (k := 3) (k' := 4) (o := ⟨some 29, _, _, _, _, _⟩) rfl rfl ?sa3 (StepsE.cons (k := 4) (k' := 5) (o := ⟨some 30, _, _, _, _, _⟩) rfl rfl ?sa4 (StepsE.cons (k := 5) (k' := 6) (o := ⟨some 31, _, _, _, _, _⟩) rfl rfl ?sa5 (StepsE.cons (k := 6) (k' := 7) (o := ⟨some 32, _, _, _, _, _⟩) rfl rfl ?sa6 (StepsE.cons (k := 7) (k' := 8) (o := ⟨some 33, _, _, _, _, _⟩) rfl rfl ?sa7 (StepsE.cons (k := 8) (k' := 9) (o := ⟨some 34, _, _, _, _, _⟩) rfl rfl ?sa8 (StepsE.cons (k := 9) (k' := 10) (o := ⟨some 35, _, _, _, _, _⟩) rfl rfl ?sa9 (StepsE.cons (k := 10) (k' := 11) (o := ⟨some 36, _, _, _, _, _⟩) rfl rfl ?sa10 (StepsE.cons (k := 11) (k' := 12) (o := ⟨some 37, _, _, _, _, _⟩) rfl rfl ?sa11 (StepsE.cons (k := 12) (k' := 13) (o := ⟨some 38, _, _, _, _, _⟩) rfl rfl ?sa12 (StepsE.cons (k := 13) (k' := 14) (o := ⟨some 39, _, _, _, _, _⟩) rfl rfl ?sa13 (StepsE.cons (k := 14) (k' := 15) (o := ⟨some 40, _, _, _, _, _⟩) rfl rfl ?sa14 (StepsE.cons (k := 15) (k' := 16) (o := ⟨some 41, _, _, _, _, _⟩) rfl rfl ?sa15 (StepsE.cons (k := 16) (k' := 17) (o := ⟨some 42, _, _, _, _, _⟩) rfl rfl ?sa16 (StepsE.cons (k := 17) (k' := 18) (o := ⟨some 43, _, _, _, _, _⟩) rfl rfl ?sa17 (StepsE.cons (k := 18) (k' := 19) (o := ⟨some 44, _, _, _, _, _⟩) rfl rfl ?sa18 (StepsE.cons (k := 19) (k' := 20) (o := ⟨some 45, _, _, _, _, _⟩) rfl rfl ?sa19 (StepsE.cons (k := 20) (k' := 21) (o := ⟨some 46, _, _, _, _, _⟩) rfl rfl ?sa20 (StepsE.cons (k := 21) (k' := 22) (o := ⟨some 47, _, _, _, _, _⟩) rfl rfl ?sa21 (StepsE.cons (k := 22) (k' := 23) (o := ⟨some 48, _, _, _, _, _⟩) rfl rfl ?sa22 (StepsE.cons (k := 23) (k' := 24) (o := ⟨some 49, _, _, _, _, _⟩) rfl rfl ?sa23 (StepsE.cons (k := 24) (k' := 25) (o := ⟨some 50, _, _, _, _, _⟩) rfl rfl ?sa24 (StepsE.cons (k := 25) (k' := 26) (o := ⟨some 51, _, _, _, _, _⟩) rfl rfl ?sa25 (StepsE.cons (k := 26) (k' := 27) (o := ⟨some 52, _, _, _, _, _⟩) rfl rfl ?sa26 (StepsE.cons (k := 27) (k' := 28) (o := ⟨some 53, _, _, _, _, _⟩) rfl rfl ?sa27 (StepsE.cons (k := 28) (k' := 29) (o := ⟨some 54, _, _, _, _, _⟩) rfl rfl ?sa28 (StepsE.cons (k := 29) (k' := 30) (o := ⟨some 55, _, _, _, _, _⟩) rfl rfl ?sa29 (StepsE.cons (k := 30) (k' := 31) (o := ⟨some 56, _, _, _, _, _⟩) rfl rfl ?sa30 (StepsE.cons (k := 31) (k' := 32) (o := ⟨some 57, _, _, _, _, _⟩) rfl rfl ?sa31 (StepsE.cons (k := 32) (k' := 33) (o := ⟨some 58, _, _, _, _, _⟩) rfl rfl ?sa32 (StepsE.cons (k := 33) (k' := 34) (o := ⟨some 59, _, _, _, _, _⟩) rfl rfl ?sa33 (StepsE.cons (k := 34) (k' := 35) (o := ⟨some 60, _, _, _, _, _⟩) rfl rfl ?sa34 StepsE.nil))))))))))))))))))))))))))))))))))) ?fina
  case sa0 =>
    intro xs done y hI hd0 hdn hup hV K hK
    refine wpOp_go (o := ⟨some 26, _, _, _, _, _⟩) rfl rfl ?_
    clear hV
    simp only [putsF, List.foldl_cons, List.foldl_nil, Act.put, List.setIfInBounds_toArray, List.set_cons_zero, List.set_cons_succ] at hK ⊢
    go_wp2_with fail
    exact hK.out _ _ (app_same hI (by decide)) (by exact rfl) (fun _ _ _ _ _ h => h)
  case sa1 =>
    intro xs done y hI hd0 hdn hup hV K hK
    refine wpOp_go (o := ⟨some 27, _, _, _, _, _⟩) rfl rfl ?_
    clear hV
    simp only [putsF, List.foldl_cons, List.foldl_nil, Act.put, List.setIfInBounds_toArray, List.set_cons_zero, List.set_cons_succ] at hK ⊢
    go_wp2_with fail
    exact hK.out _ _ (app_same hI (by decide)) (by exact rfl) (fun _ _ _ _ _ h => h)
  case sa2 =>
    intro xs done y hI hd0 hdn hup hV K hK
    refine wpOp_go (o := ⟨some 28, _, _, _, _, _⟩) rfl rfl ?_
    have e1 : xs 1 = .pointer (some ⟨E.v, 0, none⟩) := hV 1 (by kernel_rfl)
    clear hV
    simp only [putsF, List.foldl_cons, List.foldl_nil, Act.put, List.setIfInBounds_toArray, List.set_cons_zero, List.set_cons_succ] at hK ⊢
    simp only [e1] at hK ⊢
    clear e1
    go_wp2_with fail
    exact hK.out _ _ (app_same hI (by decide)) (by exact rfl) (fun _ _ _ _ _ h => h)
  case sa3 =>
    intro xs done y hI hd0 hdn hup hV K hK
    refine wpOp_go (o := ⟨some 29, _, _, _, _, _⟩) rfl rfl ?_
    have e2 : xs 2 = .pointer (some ⟨E.v, 0, none⟩) := hV 2 (by kernel_rfl)
    clear hV
    simp only [putsF, List.foldl_cons, List.foldl_nil, Act.put, List.setIfInBounds_toArray, List.set_cons_zero, List.set_cons_succ] at hK ⊢
    simp only [e2] at hK ⊢
    clear e2
    go_wp2_with fail
    exact hK.out _ _ (app_same hI (by decide)) (by exact rfl) (fun _ _ _ _ _ h => h)
  case sa4 =>
    intro xs done y hI hd0 hdn hup hV K hK
    refine wpOp_go (o := ⟨some 30, _, _, _, _, _⟩) rfl rfl ?_
    have e3 : xs 3 = .pointer (some ⟨E.v, 4, none⟩) := hV 3 (by kernel_rfl)
    clear hV
    simp only [putsF, List.foldl_cons, List.foldl_nil, Act.put, List.setIfInBounds_toArray, List.set_cons_zero, List.set_cons_succ] at hK ⊢
    simp only [e3] at hK ⊢
    clear e3
    have hb := hI.1 (hdn 32 (by kernel_rfl))
    have kU' := (hb.cell (p := ⟨w.heap.size, 0, none⟩) lU).trans kU
    have c7' := (hb.cell (p := ⟨E.G, i * 10 + 7, none⟩) lG).trans c7
    have c3' := (hb.cell (p := ⟨E.G, i * 10 + 3, none⟩) lG).trans c3
    have hc' := (hb.cell (p := ⟨b, o + k, none⟩) hbU).trans hc
    have c8' := (hb.cell (p := ⟨E.G, i * 10 + 8, none⟩) lG).trans c8
    have v1' := (hb.cell (p := ⟨E.v, 1, none⟩) lv).trans v1
    have kv' := (hb.cell (p := ⟨E.v, 4, none⟩) lv).trans kv
    go_wp2_with fail
    exact hK.out _ _ (app_same hI (by decide)) (by exact rfl) (fun _ _ _ _ _ h => h)
  case sa5 =>
    intro xs done y hI hd0 hdn hup hV K hK
    refine wpOp_go (o := ⟨some 31, _, _, _, _, _⟩) rfl rfl ?_
    clear hV
    simp only [putsF, List.foldl_cons, List.foldl_nil, Act.put, List.setIfInBounds_toArray, List.set_cons_zero, List.set_cons_succ] at hK ⊢
    have hb := hI.1 (hdn 32 (by kernel_rfl))
    have kU' := (hb.cell (p := ⟨w.heap.size, 0, none⟩) lU).trans kU
    have c7' := (hb.cell (p := ⟨E.G, i * 10 + 7, none⟩) lG).trans c7
    have c3' := (hb.cell (p := ⟨E.G, i * 10 + 3, none⟩) lG).trans c3
    have hc' := (hb.cell (p := ⟨b, o + k, none⟩) hbU).trans hc
    have c8' := (hb.cell (p := ⟨E.G, i * 10 + 8, none⟩) lG).trans c8
    have v1' := (hb.cell (p := ⟨E.v, 1, none⟩) lv).trans v1
    have kv' := (hb.cell (p := ⟨E.v, 4, none⟩) lv).trans kv
    go_wp2_with fail
    exact hK.out _ _ (app_same hI (by decide)) (by exact rfl) (fun _ _ _ _ _ h => h)
  case sa6 =>
    intro xs done y hI hd0 hdn hup hV K hK
    refine wpOp_go (o := ⟨some 32, _, _, _, _, _⟩) rfl rfl ?_
    clear hV
    simp only [putsF, List.foldl_cons, List.foldl_nil, Act.put, List.setIfInBounds_toArray, List.set_cons_zero, List.set_cons_succ] at hK ⊢
    go_wp2_with fail
    exact hK.out _ _ (app_same hI (by decide)) (by exact rfl) (fun _ _ _ _ _ h => h)
  case sa7 =>
    intro xs done y hI hd0 hdn hup hV K hK
    refine wpOp_go (o := ⟨some 33, _, _, _, _, _⟩) rfl rfl ?_
    have e6 : xs 6 = .pointer (some ⟨E.G, i * 10, none⟩) := hV 6 (by kernel_rfl)
    clear hV
    simp only [putsF, List.foldl_cons, List.foldl_nil, Act.put, List.setIfInBounds_toArray, List.set_cons_zero, List.set_cons_succ] at hK ⊢
    simp only [e6] at hK ⊢
    clear e6
    go_wp2_with fail
    exact hK.out _ _ (app_same hI (by decide)) (by exact rfl) (fun _ _ _ _ _ h => h)
  case sa8 =>
    intro xs done y hI hd0 hdn hup hV K hK
    refine wpOp_go (o := ⟨some 34, _, _, _, _, _⟩) rfl rfl ?_
    have e7 : xs 7 = .pointer (some ⟨E.G, i * 10, none⟩) := hV 7 (by kernel_rfl)
    clear hV
    simp only [putsF, List.foldl_cons, List.foldl_nil, Act.put, List.setIfInBounds_toArray, List.set_cons_zero, List.set_cons_succ] at hK ⊢
    simp only [e7] at hK ⊢
    clear e7
    go_wp2_with fail
    exact hK.out _ _ (app_same hI (by decide)) (by exact rfl) (fun _ _ _ _ _ h => h)
  case sa9 =>
    intro xs done y hI hd0 hdn hup hV K hK
    refine wpOp_go (o := ⟨some 35, _, _, _, _, _⟩) rfl rfl ?_
    have e8 : xs 8 = .pointer (some ⟨E.G, i * 10 + 7, none⟩) := hV 8 (by kernel_rfl)
    clear hV
    simp only [putsF, List.foldl_cons, List.foldl_nil, Act.put, List.setIfInBounds_toArray, List.set_cons_zero, List.set_cons_succ] at hK ⊢
    simp only [e8] at hK ⊢
    clear e8
    have hb := hI.1 (hdn 32 (by kernel_rfl))
    have kU' := (hb.cell (p := ⟨w.heap.size, 0, none⟩) lU).trans kU
    have c7' := (hb.cell (p := ⟨E.G, i * 10 + 7, none⟩) lG).trans c7
    have c3' := (hb.cell (p := ⟨E.G, i * 10 + 3, none⟩) lG).trans c3
    have hc' := (hb.cell (p := ⟨b, o + k, none⟩) hbU).trans hc
    have c8' := (hb.cell (p := ⟨E.G, i * 10 + 8, none⟩) lG).trans c8
    have v1' := (hb.cell (p := ⟨E.v, 1, none⟩) lv).trans v1
    have kv' := (hb.cell (p := ⟨E.v, 4, none⟩) lv).trans kv
    go_wp2_with fail
    exact hK.out _ _ (app_same hI (by decide)) (by exact rfl) (fun _ _ _ _ _ h => h)
  case sa10 =>
    intro xs done y hI hd0 hdn hup hV K hK
    refine wpOp_go (o := ⟨some 36, _, _, _, _, _⟩) rfl rfl ?_
    clear hV
    simp only [putsF, List.foldl_cons, List.foldl_nil, Act.put, List.setIfInBounds_toArray, List.set_cons_zero, List.set_cons_succ] at hK ⊢
    go_wp2_with fail
    exact hK.out _ _ (app_same hI (by decide)) (by exact rfl) (fun _ _ _ _ _ h => h)
  case sa11 =>
    intro xs done y hI hd0 hdn hup hV K hK
    refine wpOp_go (o := ⟨some 37, _, _, _, _, _⟩) rfl rfl ?_
    have e10 : xs 10 = .pointer (some ⟨E.G, i * 10, none⟩) := hV 10 (by kernel_rfl)
    clear hV
    simp only [putsF, List.foldl_cons, List.foldl_nil, Act.put, List.setIfInBounds_toArray, List.set_cons_zero, List.set_cons_succ] at hK ⊢
    simp only [e10] at hK ⊢
    clear e10
    go_wp2_with fail
    exact hK.out _ _ (app_same hI (by decide)) (by exact rfl) (fun _ _ _ _ _ h => h)
  case sa12 =>
    intro xs done y hI hd0 hdn hup hV K hK
    refine wpOp_go (o := ⟨some 38, _, _, _, _, _⟩) rfl rfl ?_
    have e11 : xs 11 = .pointer (some ⟨E.G, i * 10, none⟩) := hV 11 (by kernel_rfl)
    clear hV
    simp only [putsF, List.foldl_cons, List.foldl_nil, Act.put, List.setIfInBounds_toArray, List.set_cons_zero, List.set_cons_succ] at hK ⊢
    simp only [e11] at hK ⊢
    clear e11
    go_wp2_with fail
    exact hK.out _ _ (app_same hI (by decide)) (by exact rfl) (fun _ _ _ _ _ h => h)
  case sa13 =>
    intro xs done y hI hd0 hdn hup hV K hK
    refine wpOp_go (o := ⟨some 39, _, _, _, _, _⟩) rfl rfl ?_
    have e12 : xs 12 = .pointer (some ⟨E.G, i * 10, none⟩) := hV 12 (by kernel_rfl)
    clear hV
    simp only [putsF, List.foldl_cons, List.foldl_nil, Act.put, List.setIfInBounds_toArray, List.set_cons_zero, List.set_cons_succ] at hK ⊢
    simp only [e12] at hK ⊢
    clear e12
    go_wp2_with fail
    exact hK.out _ _ (app_same hI (by decide)) (by exact rfl) (fun _ _ _ _ _ h => h)
  case sa14 =>
    intro xs done y hI hd0 hdn hup hV K hK
    refine wpOp_go (o := ⟨some 40, _, _, _, _, _⟩) rfl rfl ?_
    have e13 : xs 13 = .pointer (some ⟨E.G, i * 10 + 3, none⟩) := hV 13 (by kernel_rfl)
    clear hV
    simp only [putsF, List.foldl_cons, List.foldl_nil, Act.put, List.setIfInBounds_toArray, List.set_cons_zero, List.set_cons_succ] at hK ⊢
    simp only [e13] at hK ⊢
    clear e13
    have hb := hI.1 (hdn 32 (by kernel_rfl))
    have kU' := (hb.cell (p := ⟨w.heap.size, 0, none⟩) lU).trans kU
    have c7' := (hb.cell (p := ⟨E.G, i * 10 + 7, none⟩) lG).trans c7
    have c3' := (hb.cell (p := ⟨E.G, i * 10 + 3, none⟩) lG).trans c3
    have hc' := (hb.cell (p := ⟨b, o + k, none⟩) hbU).trans hc
    have c8' := (hb.cell (p := ⟨E.G, i * 10 + 8, none⟩) lG).trans c8
    have v1' := (hb.cell (p := ⟨E.v, 1, none⟩) lv).trans v1
    have kv' := (hb.cell (p := ⟨E.v, 4, none⟩) lv).trans kv
    go_wp2_with fail
    exact hK.out _ _ (app_same hI (by decide)) (by exact rfl) (fun _ _ _ _ _ h => h)
  case sa15 =>
    intro xs done y hI hd0 hdn hup hV K hK
    refine wpOp_go (o := ⟨some 41, _, _, _, _, _⟩) rfl rfl ?_
    clear hV
    simp only [putsF, List.foldl_cons, List.foldl_nil, Act.put, List.setIfInBounds_toArray, List.set_cons_zero, List.set_cons_succ] at hK ⊢
    go_wp2_with fail
    exact hK.out _ _ (app_same hI (by decide)) (by exact rfl) (fun _ _ _ _ _ h => h)
  case sa16 =>
    intro xs done y hI hd0 hdn hup hV K hK
    refine wpOp_go (o := ⟨some 42, _, _, _, _, _⟩) rfl rfl ?_
    have e15 : xs 15 = .pointer (some ⟨E.G, i * 10, none⟩) := hV 15 (by kernel_rfl)
    clear hV
    simp only [putsF, List.foldl_cons, List.foldl_nil, Act.put, List.setIfInBounds_toArray, List.set_cons_zero, List.set_cons_succ] at hK ⊢
    simp only [e15] at hK ⊢
    clear e15
    go_wp2_with fail
    exact hK.out _ _ (app_same hI (by decide)) (by exact rfl) (fun _ _ _ _ _ h => h)
  case sa17 =>
    intro xs done y hI hd0 hdn hup hV K hK
    refine wpOp_go (o := ⟨some 43, _, _, _, _, _⟩) rfl rfl ?_
    have e16 : xs 16 = .pointer (some ⟨E.G, i * 10, none⟩) := hV 16 (by kernel_rfl)
    clear hV
    simp only [putsF, List.foldl_cons, List.foldl_nil, Act.put, List.setIfInBounds_toArray, List.set_cons_zero, List.set_cons_succ] at hK ⊢
    simp only [e16] at hK ⊢
    clear e16
    go_wp2_with fail
    exact hK.out _ _ (app_same hI (by decide)) (by exact rfl) (fun _ _ _ _ _ h => h)
  case sa18 =>
    intro xs done y hI hd0 hdn hup hV K hK
    refine wpOp_go (o := ⟨some 44, _, _, _, _, _⟩) rfl rfl ?_
    have e17 : xs 17 = .pointer (some ⟨E.G, i * 10 + 7, none⟩) := hV 17 (by kernel_rfl)
    clear hV
    simp only [putsF, List.foldl_cons, List.foldl_nil, Act.put, List.setIfInBounds_toArray, List.set_cons_zero, List.set_cons_succ] at hK ⊢
    simp only [e17] at hK ⊢
    clear e17
    have hb := hI.1 (hdn 32 (by kernel_rfl))
    have kU' := (hb.cell (p := ⟨w.heap.size, 0, none⟩) lU).trans kU
    have c7' := (hb.cell (p := ⟨E.G, i * 10 + 7, none⟩) lG).trans c7
    have c3' := (hb.cell (p := ⟨E.G, i * 10 + 3, none⟩) lG).trans c3
    have hc' := (hb.cell (p := ⟨b, o + k, none⟩) hbU).trans hc
    have c8' := (hb.cell (p := ⟨E.G, i * 10 + 8, none⟩) lG).trans c8
    have v1' := (hb.cell (p := ⟨E.v, 1, none⟩) lv).trans v1
    have kv' := (hb.cell (p := ⟨E.v, 4, none⟩) lv).trans kv
    go_wp2_with fail
    exact hK.out _ _ (app_same hI (by decide)) (by exact rfl) (fun _ _ _ _ _ h => h)
  case sa19 =>
    intro xs done y hI hd0 hdn hup hV K hK
    refine wpOp_go (o := ⟨some 45, _, _, _, _, _⟩) rfl rfl ?_
    have e14 : xs 14 = .slice (some ⟨b, o, none⟩) nw (E.ref i).2 := hV 14 (by kernel_rfl)
    have e18 : xs 18 = .int .i64 (k : Int) := hV 18 (by kernel_rfl)
    clear hV
    simp only [putsF, List.foldl_cons, List.foldl_nil, Act.put, List.setIfInBounds_toArray, List.set_cons_zero, List.set_cons_succ] at hK ⊢
    simp only [e14, e18] at hK ⊢
    clear e14 e18
    go_wp2_with fail
    exact hK.out _ _ (app_same hI (by decide)) (by exact rfl) (fun _ _ _ _ _ h => h)
  case sa20 =>
    intro xs done y hI hd0 hdn hup hV K hK
    refine wpOp_go (o := ⟨some 46, _, _, _, _, _⟩) rfl rfl ?_
    have e19 : xs 19 = .pointer (some ⟨b, o + k, none⟩) := hV 19 (by kernel_rfl)
    clear hV
    simp only [putsF, List.foldl_cons, List.foldl_nil, Act.put, List.setIfInBounds_toArray, List.set_cons_zero, List.set_cons_succ] at hK ⊢
    simp only [e19] at hK ⊢
    clear e19
    have hb := hI.1 (hdn 32 (by kernel_rfl))
    have kU' := (hb.cell (p := ⟨w.heap.size, 0, none⟩) lU).trans kU
    have c7' := (hb.cell (p := ⟨E.G, i * 10 + 7, none⟩) lG).trans c7
    have c3' := (hb.cell (p := ⟨E.G, i * 10 + 3, none⟩) lG).trans c3
    have hc' := (hb.cell (p := ⟨b, o + k, none⟩) hbU).trans hc
    have c8' := (hb.cell (p := ⟨E.G, i * 10 + 8, none⟩) lG).trans c8
    have v1' := (hb.cell (p := ⟨E.v, 1, none⟩) lv).trans v1
    have kv' := (hb.cell (p := ⟨E.v, 4, none⟩) lv).trans kv
    go_wp2_with fail
    exact hK.out _ _ (app_same hI (by decide)) (by exact rfl) (fun _ _ _ _ _ h => h)
  case sa21 =>
    intro xs done y hI hd0 hdn hup hV K hK
    refine wpOp_go (o := ⟨some 47, _, _, _, _, _⟩) rfl rfl ?_
    clear hV
    simp only [putsF, List.foldl_cons, List.foldl_nil, Act.put, List.setIfInBounds_toArray, List.set_cons_zero, List.set_cons_succ] at hK ⊢
    go_wp2_with fail
    exact hK.out _ _ (app_same hI (by decide)) (by exact rfl) (fun _ _ _ _ _ h => h)
  case sa22 =>
    intro xs done y hI hd0 hdn hup hV K hK
    refine wpOp_go (o := ⟨some 48, _, _, _, _, _⟩) rfl rfl ?_
    clear hV
    simp only [putsF, List.foldl_cons, List.foldl_nil, Act.put, List.setIfInBounds_toArray, List.set_cons_zero, List.set_cons_succ] at hK ⊢
    go_wp2_with fail
    exact hK.out _ _ (app_same hI (by decide)) (by exact rfl) (fun _ _ _ _ _ h => h)
  case sa23 =>
    intro xs done y hI hd0 hdn hup hV K hK
    refine wpOp_go (o := ⟨some 49, _, _, _, _, _⟩) rfl rfl ?_
    have e22 : xs 22 = .pointer (some ⟨E.G, i * 10, none⟩) := hV 22 (by kernel_rfl)
    clear hV
    simp only [putsF, List.foldl_cons, List.foldl_nil, Act.put, List.setIfInBounds_toArray, List.set_cons_zero, List.set_cons_succ] at hK ⊢
    simp only [e22] at hK ⊢
    clear e22
    go_wp2_with fail
    exact hK.out _ _ (app_same hI (by decide)) (by exact rfl) (fun _ _ _ _ _ h => h)
  case sa24 =>
    intro xs done y hI hd0 hdn hup hV K hK
    refine wpOp_go (o := ⟨some 50, _, _, _, _, _⟩) rfl rfl ?_
    have e23 : xs 23 = .pointer (some ⟨E.G, i * 10, none⟩) := hV 23 (by kernel_rfl)
    clear hV
    simp only [putsF, List.foldl_cons, List.foldl_nil, Act.put, List.setIfInBounds_toArray, List.set_cons_zero, List.set_cons_succ] at hK ⊢
    simp only [e23] at hK ⊢
    clear e23
    go_wp2_with fail
    exact hK.out _ _ (app_same hI (by decide)) (by exact rfl) (fun _ _ _ _ _ h => h)
  case sa25 =>
    intro xs done y hI hd0 hdn hup hV K hK
    refine wpOp_go (o := ⟨some 51, _, _, _, _, _⟩) rfl rfl ?_
    have e24 : xs 24 = .pointer (some ⟨E.G, i * 10 + 8, none⟩) := hV 24 (by kernel_rfl)
    clear hV
    simp only [putsF, List.foldl_cons, List.foldl_nil, Act.put, List.setIfInBounds_toArray, List.set_cons_zero, List.set_cons_succ] at hK ⊢
    simp only [e24] at hK ⊢
    clear e24
    have hb := hI.1 (hdn 32 (by kernel_rfl))
    have kU' := (hb.cell (p := ⟨w.heap.size, 0, none⟩) lU).trans kU
    have c7' := (hb.cell (p := ⟨E.G, i * 10 + 7, none⟩) lG).trans c7
    have c3' := (hb.cell (p := ⟨E.G, i * 10 + 3, none⟩) lG).trans c3
    have hc' := (hb.cell (p := ⟨b, o + k, none⟩) hbU).trans hc
    have c8' := (hb.cell (p := ⟨E.G, i * 10 + 8, none⟩) lG).trans c8
    have v1' := (hb.cell (p := ⟨E.v, 1, none⟩) lv).trans v1
    have kv' := (hb.cell (p := ⟨E.v, 4, none⟩) lv).trans kv
    go_wp2_with fail
    exact hK.out _ _ (app_same hI (by decide)) (by exact rfl) (fun _ _ _ _ _ h => h)
  case sa26 =>
    intro xs done y hI hd0 hdn hup hV K hK
    refine wpOp_go (o := ⟨some 52, _, _, _, _, _⟩) rfl rfl ?_
    clear hV
    simp only [putsF, List.foldl_cons, List.foldl_nil, Act.put, List.setIfInBounds_toArray, List.set_cons_zero, List.set_cons_succ] at hK ⊢
    go_wp2_with fail
    exact hK.out _ _ (app_same hI (by decide)) (by exact rfl) (fun _ _ _ _ _ h => h)
  case sa27 =>
    intro xs done y hI hd0 hdn hup hV K hK
    refine wpOp_go (o := ⟨some 53, _, _, _, _, _⟩) rfl rfl ?_
    have e26 : xs 26 = .pointer (some ⟨E.v, 0, none⟩) := hV 26 (by kernel_rfl)
    clear hV
    simp only [putsF, List.foldl_cons, List.foldl_nil, Act.put, List.setIfInBounds_toArray, List.set_cons_zero, List.set_cons_succ] at hK ⊢
    simp only [e26] at hK ⊢
    clear e26
    go_wp2_with fail
    exact hK.out _ _ (app_same hI (by decide)) (by exact rfl) (fun _ _ _ _ _ h => h)
  case sa28 =>
    intro xs done y hI hd0 hdn hup hV K hK
    refine wpOp_go (o := ⟨some 54, _, _, _, _, _⟩) rfl rfl ?_
    have e27 : xs 27 = .pointer (some ⟨E.v, 0, none⟩) := hV 27 (by kernel_rfl)
    clear hV
    simp only [putsF, List.foldl_cons, List.foldl_nil, Act.put, List.setIfInBounds_toArray, List.set_cons_zero, List.set_cons_succ] at hK ⊢
    simp only [e27] at hK ⊢
    clear e27
    go_wp2_with fail
    exact hK.out _ _ (app_same hI (by decide)) (by exact rfl) (fun _ _ _ _ _ h => h)
  case sa29 =>
    intro xs done y hI hd0 hdn hup hV K hK
    refine wpOp_go (o := ⟨some 55, _, _, _, _, _⟩) rfl rfl ?_
    have e28 : xs 28 = .pointer (some ⟨E.v, 1, none⟩) := hV 28 (by kernel_rfl)
    clear hV
    simp only [putsF, List.foldl_cons, List.foldl_nil, Act.put, List.setIfInBounds_toArray, List.set_cons_zero, List.set_cons_succ] at hK ⊢
    simp only [e28] at hK ⊢
    clear e28
    have hb := hI.1 (hdn 32 (by kernel_rfl))
    have kU' := (hb.cell (p := ⟨w.heap.size, 0, none⟩) lU).trans kU
    have c7' := (hb.cell (p := ⟨E.G, i * 10 + 7, none⟩) lG).trans c7
    have c3' := (hb.cell (p := ⟨E.G, i * 10 + 3, none⟩) lG).trans c3
    have hc' := (hb.cell (p := ⟨b, o + k, none⟩) hbU).trans hc
    have c8' := (hb.cell (p := ⟨E.G, i * 10 + 8, none⟩) lG).trans c8
    have v1' := (hb.cell (p := ⟨E.v, 1, none⟩) lv).trans v1
    have kv' := (hb.cell (p := ⟨E.v, 4, none⟩) lv).trans kv
    go_wp2_with fail
    exact hK.out _ _ (app_same hI (by decide)) (by exact rfl) (fun _ _ _ _ _ h => h)
  case sa30 =>
    intro xs done y hI hd0 hdn hup hV K hK
    refine wpOp_go (o := ⟨some 56, _, _, _, _, _⟩) rfl rfl ?_
    have e5 : xs 5 = .int .i64 (i : Int) := hV 5 (by kernel_rfl)
    have e9 : xs 9 = .int .i64 (k : Int) := hV 9 (by kernel_rfl)
    have e20 : xs 20 = .int .i64 (r : Int) := hV 20 (by kernel_rfl)
    have e21 : xs 21 = .bool on := hV 21 (by kernel_rfl)
    have e25 : xs 25 = .int .i64 (s1.grp i).came := hV 25 (by kernel_rfl)
    have e29 : xs 29 = .int .i64 s1.now := hV 29 (by kernel_rfl)
    clear hV
    simp only [putsF, List.foldl_cons, List.foldl_nil, Act.put, List.setIfInBounds_toArray, List.set_cons_zero, List.set_cons_succ] at hK ⊢
    simp only [e5, e9, e20, e21, e25, e29] at hK ⊢
    clear e5 e9 e20 e21 e25 e29
    go_wp2_with fail
    exact hK.out _ _ (app_same hI (by decide)) (by exact rfl) (fun _ _ _ _ _ h => h)
  case sa31 =>
    intro xs done y hI hd0 hdn hup hV K hK
    refine wpOp_go (o := ⟨some 57, _, _, _, _, _⟩) rfl rfl ?_
    have e30 : xs 30 = .agg #[.int .i64 (i : Int), .int .i64 (k : Int), .int .i64 (r : Int), .bool on, .int .i64 (s1.grp i).came, .int .i64 s1.now] := hV 30 (by kernel_rfl)
    clear hV
    simp only [putsF, List.foldl_cons, List.foldl_nil, Act.put, List.setIfInBounds_toArray, List.set_cons_zero, List.set_cons_succ] at hK ⊢
    simp only [e30] at hK ⊢
    clear e30
    have hd := hdn 32 (by kernel_rfl)
    have hsz := (hI.1 hd).size
    go_wp2_with fail
    refine hK.out _ _ (app_below hI (by decide) hd ((Below.refl _ _).alloc (Nat.le_refl _) _)) ⟨y.heap.size, rfl, hsz, Row.new y _ _⟩ (fun j u _ hne hj h => ?_)
    rw [if_neg hne, if_neg (fun e => by rw [e, hd] at hj; cases hj)] at h ⊢
    exact h
  case sa32 =>
    intro xs done y hI hd0 hdn hup hV K hK
    refine wpOp_go (o := ⟨some 58, _, _, _, _, _⟩) rfl rfl ?_
    have e4 : xs 4 = .slice vA s1.visits.length vc := hV 4 (by kernel_rfl)
    have h31 : (newRow U.heap.size 57 1 (visL ⟨i, (k : Int), r, on, (s1.grp i).came, s1.now⟩)) (xs 31) y := hV 31 (by kernel_rfl)
    clear hV
    simp only [putsF, List.foldl_cons, List.foldl_nil, Act.put, List.setIfInBounds_toArray, List.set_cons_zero, List.set_cons_succ] at hK ⊢
    simp only [e4] at hK ⊢
    clear e4
    obtain ⟨gB, hB31, hgB, hrow⟩ := h31
    simp only [hB31] at hK ⊢
    have hA := hI.1 hd0
    refine wp_append_lies y (.tmp 30) (.tmp 57) 32 rfl E.base 57 iV (.agg #[.int .i64 0, .int .i64 0, .int .i64 0, .bool false, .int .i64 0, .int .i64 0]) 6 48 Try.underlying32 hii hz0 hz1 hz2 rfl (by decide) (.slice vA s1.visits.length vc) s1.visits.length (s1.visits.flatMap visL) rfl (own_keep HO.out hA) ⟨gB, 0, none⟩ 1 1 (visL ⟨i, (k : Int), r, on, (s1.grp i).came, s1.now⟩) rfl rfl (row_news hrow) (by intro u hu; simp [visL] at hu; rcases hu with rfl | rfl | rfl | rfl | rfl | rfl <;> rfl) (by decide) m1 m2 (Nat.le_trans HU.out.bas.2.2.2 hA.size) _ rfl ?_
    intro g2 cap2 X2 hown2 hgrow2 hat2 hlt2
    have hQ := leave_end HU.out HBU.out Hvs.out hgrow2 hA hown2
    refine hK.out _ _ (app_here hQ.1) ⟨g2, cap2, rfl, hQ.2⟩ (fun j u _ hne hj h => ?_)
    by_cases e : j = 31
    · rw [if_pos e] at h ⊢
      exact newRow_kept h hgrow2 (fun k hk => Nat.lt_of_lt_of_le (HV.out k hk).2.2.2.2 (Nat.le_of_lt lU))
    · rw [if_neg e, if_neg hne] at h ⊢
      exact h
  case sa33 =>
    intro xs done y hI hd0 hdn hup hV K hK
    refine wpOp_go (o := ⟨some 59, _, _, _, _, _⟩) rfl rfl ?_
    have e0 : xs 0 = .pointer (some ⟨E.v, 0, none⟩) := hV 0 (by kernel_rfl)
    clear hV
    simp only [putsF, List.foldl_cons, List.foldl_nil, Act.put, List.setIfInBounds_toArray, List.set_cons_zero, List.set_cons_succ] at hK ⊢
    simp only [e0] at hK ⊢
    clear e0
    go_wp2_with fail
    exact hK.out _ _ (app_same hI (by decide)) (by exact rfl) (fun _ _ _ _ _ h => h)
  case sa34 =>
    intro xs done y hI hd0 hdn hup hV K hK
    refine wpOp_go (o := ⟨some 60, _, _, _, _, _⟩) rfl rfl ?_
    have e33 : xs 33 = .pointer (some ⟨E.v, 0, none⟩) := hV 33 (by kernel_rfl)
    clear hV
    simp only [putsF, List.foldl_cons, List.foldl_nil, Act.put, List.setIfInBounds_toArray, List.set_cons_zero, List.set_cons_succ] at hK ⊢
    simp only [e33] at hK ⊢
    clear e33
    go_wp2_with fail
    exact hK.out _ _ (app_same hI (by decide)) (by exact rfl) (fun _ _ _ _ _ h => h)
  case ia =>
    exact app_start (Below.refl _ _).drew
  case fina =>
    intro xs done y hI hdone hV
    have e0 : xs 0 = .pointer (some ⟨E.v, 0, none⟩) := hV 0 (by decide)
    have e1 : xs 1 = .pointer (some ⟨E.v, 0, none⟩) := hV 1 (by decide)
    have e2 : xs 2 = .pointer (some ⟨E.v, 0, none⟩) := hV 2 (by decide)
    have e3 : xs 3 = .pointer (some ⟨E.v, 4, none⟩) := hV 3 (by decide)
    have e4 : xs 4 = .slice vA s1.visits.length vc := hV 4 (by decide)
    have e5 : xs 5 = .int .i64 (i : Int) := hV 5 (by decide)
    have e6 : xs 6 = .pointer (some ⟨E.G, i * 10, none⟩) := hV 6 (by decide)
    have e7 : xs 7 = .pointer (some ⟨E.G, i * 10, none⟩) := hV 7 (by decide)
    have e8 : xs 8 = .pointer (some ⟨E.G, i * 10 + 7, none⟩) := hV 8 (by decide)
    have e9 : xs 9 = .int .i64 (k : Int) := hV 9 (by decide)
    have e10 : xs 10 = .pointer (some ⟨E.G, i * 10, none⟩) := hV 10 (by decide)
    have e11 : xs 11 = .pointer (some ⟨E.G, i * 10, none⟩) := hV 11 (by decide)
    have e12 : xs 12 = .pointer (some ⟨E.G, i * 10, none⟩) := hV 12 (by decide)
    have e13 : xs 13 = .pointer (some ⟨E.G, i * 10 + 3, none⟩) := hV 13 (by decide)
    have e14 : xs 14 = .slice (some ⟨b, o, none⟩) nw (E.ref i).2 := hV 14 (by decide)
    have e15 : xs 15 = .pointer (some ⟨E.G, i * 10, none⟩) := hV 15 (by decide)
    have e16 : xs 16 = .pointer (some ⟨E.G, i * 10, none⟩) := hV 16 (by decide)
    have e17 : xs 17 = .pointer (some ⟨E.G, i * 10 + 7, none⟩) := hV 17 (by decide)
    have e18 : xs 18 = .int .i64 (k : Int) := hV 18 (by decide)
    have e19 : xs 19 = .pointer (some ⟨b, o + k, none⟩) := hV 19 (by decide)
    have e20 : xs 20 = .int .i64 (r : Int) := hV 20 (by decide)
    have e21 : xs 21 = .bool on := hV 21 (by decide)
    have e22 : xs 22 = .pointer (some ⟨E.G, i * 10, none⟩) := hV 22 (by decide)
    have e23 : xs 23 = .pointer (some ⟨E.G, i * 10, none⟩) := hV 23 (by decide)
    have e24 : xs 24 = .pointer (some ⟨E.G, i * 10 + 8, none⟩) := hV 24 (by decide)
    have e25 : xs 25 = .int .i64 (s1.grp i).came := hV 25 (by decide)
    have e26 : xs 26 = .pointer (some ⟨E.v, 0, none⟩) := hV 26 (by decide)
    have e27 : xs 27 = .pointer (some ⟨E.v, 0, none⟩) := hV 27 (by decide)
    have e28 : xs 28 = .pointer (some ⟨E.v, 1, none⟩) := hV 28 (by decide)
    have e29 : xs 29 = .int .i64 s1.now := hV 29 (by decide)
    have e30 : xs 30 = .agg #[.int .i64 (i : Int), .int .i64 (k : Int), .int .i64 (r : Int), .bool on, .int .i64 (s1.grp i).came, .int .i64 s1.now] := hV 30 (by decide)
    have h31 : (newRow U.heap.size 57 1 (visL ⟨i, (k : Int), r, on, (s1.grp i).came, s1.now⟩)) (xs 31) y := hV 31 (by decide)
    have h32 : (leftV E w qs1 { s1 with visits := s1.visits ++ [⟨i, (k : Int), r, on, (s1.grp i).came, s1.now⟩] } (s1.visits.length + 1)) (xs 32) y := hV 32 (by decide)
    have e33 : xs 33 = .pointer (some ⟨E.v, 0, none⟩) := hV 33 (by decide)
    have e34 : xs 34 = .pointer (some ⟨E.v, 4, none⟩) := hV 34 (by decide)
    clear hV
    simp only [putsF, List.foldl_cons, List.foldl_nil, Act.put, List.setIfInBounds_toArray, List.set_cons_zero, List.set_cons_succ]
    simp only [e0, e1, e2, e3, e4, e5, e6, e7, e8, e9, e10, e11, e12, e13, e14, e15, e16, e17, e18, e19, e20, e21, e22, e23, e24, e25, e26, e27, e28, e29, e30, e33, e34]
    clear e0 e1 e2 e3 e4 e5 e6 e7 e8 e9 e10 e11 e12 e13 e14 e15 e16 e17 e18 e19 e20 e21 e22 e23 e24 e25 e26 e27 e28 e29 e30 e33 e34
    obtain ⟨hf4, hc4⟩ := hI.2 (hdone 32 (by decide))
    obtain ⟨g2, cap2, e32, hF1, hF2⟩ := h32
    obtain ⟨gB, e31, _⟩ := h31
    simp only [e32, e31]
    rw [e32] at hF1 hF2
    clear hI hdone e32 e31
    refine wpOp_go (o := ⟨none, _, _, _, _, _⟩) rfl rfl ?_
    go_wp2_with fail
    go_end0
    exact ⟨rfl, hF1, _, _, by rw [HS1.out, Hk.out]; exact hF2⟩
end Go.Proofs.Ytijbhcdnbaaobaa
