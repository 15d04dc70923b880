/- The specification's step: a bundle is sold. Conditions: the arguments read as data; the fair stands as a right one does. -/
import Derived.Test.YtonbaikdpcmbiaaVa
namespace Go.Proofs.Ytonbaikdpcmbiaa
open Go.RowKit

set_option maxHeartbeats 4000000 in
set_option maxRecDepth 100000 in
theorem rstep1_any (F : Fair) (R : Refs) (C : Count) (K : CRefs) (at_ da db dn : Int) (B : Nat) (w : World) (hB : B ≤ w.heap.size) (hF : FairIn w B F R) (hC : CountIn w B C K) (hf : Fit F C) :
    Calls Try.prog 48 #[fairV F R, countV C K, dealV ⟨at_, 1, da, db, dn⟩] w (RPost w C K (stepS F C ⟨at_, 1, da, db, dn⟩)) := by
  obtain ⟨A1, c1, A2, c2, A3, c3, A4, c4⟩ := K
  obtain ⟨S1, k1, S2, k2, S3, k3⟩ := R
  obtain ⟨few1, few2, few3, few4⟩ := hf.few
  obtain ⟨W, hW⟩ : ∃ W, W = (((w.alloc (.cells (fairCells F ⟨S1, k1, S2, k2, S3, k3⟩) 25)).alloc (.cells #[.slice A1 C.stock.length c1, .slice A2 C.cash.length c2, .slice A3 C.purses.length c3, .slice A4 C.boxes.length c4, .int .i64 C.lost] 35)).alloc (.cells #[.int .i64 at_, .int .i64 1, .int .i64 da, .int .i64 db, .int .i64 dn] 65)).alloc (.cells #[.slice none 0 0, .slice none 0 0, .slice none 0 0, .slice none 0 0, .int .i64 0] 35) := ⟨_, rfl⟩
  have sW : W.heap.size = w.heap.size + 4 := by subst hW; simp
  have bW : Below w.heap.size w W := by subst hW; exact ((((Below.refl _ _).alloc (Nat.le_refl _) _).alloc (by simp) _).alloc (by simp; omega) _).alloc (by simp; omega) _
  have rF : Row W w.heap.size 25 (fairCells F ⟨S1, k1, S2, k2, S3, k3⟩).toList := by subst hW; exact (((row_new _ _ _ _ rfl).alloc _).alloc _).alloc _
  have rN : Row W (w.heap.size + 1) 35 #[.slice A1 C.stock.length c1, .slice A2 C.cash.length c2, .slice A3 C.purses.length c3, .slice A4 C.boxes.length c4, .int .i64 C.lost].toList := by subst hW; exact ((row_new _ _ _ _ (by simp)).alloc _).alloc _
  have rD : Row W (w.heap.size + 2) 65 #[.int .i64 at_, .int .i64 1, .int .i64 da, .int .i64 db, .int .i64 dn].toList := by subst hW; exact (row_new _ _ _ _ (by simp)).alloc _
  have rR : Row W (w.heap.size + 3) 35 #[.slice none 0 0, .slice none 0 0, .slice none 0 0, .slice none 0 0, .int .i64 0].toList := by subst hW; exact row_new _ _ _ _ (by simp)
  have bd := hf.bd
  have bF := bd.b
  obtain ⟨_, x0, x1, x2, x3, x4⟩ := Row.at_5 rN
  unfold fairV countV dealV
  dsimp only
  go_enter Try.func48, Try.ntmps48
  go_wp2_with fail
  rw [← hW]
  clear hW
  refine (rCopy_any C ⟨A1, c1, A2, c2, A3, c3, A4, c4⟩ W B (by omega) (hC.keep fun p hp => bW.cell (by omega)) (by omega) (by omega) (by omega) (by omega)).mono ?_
  rintro e X ⟨hbX, ⟨E1, e1, E2, e2, E3, e3, E4, e4⟩, rfl, own⟩
  have bX := below_step bW hbX
  have sX := hbX.size
  unfold countV
  dsimp only
  clear x0 x1 x2 x3 x4
  go_upto_region 2 with (fail)
  obtain ⟨Y, hY⟩ : ∃ Y, Y = X.alloc (.cells #[.slice E1 C.stock.length e1, .slice E2 C.cash.length e2, .slice E3 C.purses.length e3, .slice E4 C.boxes.length e4, .int .i64 C.lost] 35) := ⟨_, rfl⟩
  rw [← hY]
  have rs : RS Y (w.heap.size + 4) X.heap.size C ⟨E1, e1, E2, e2, E3, e3, E4, e4⟩ := by subst hY; exact RS.new own (by omega)
  have rF2 : Row Y w.heap.size 25 (fairCells F ⟨S1, k1, S2, k2, S3, k3⟩).toList := by subst hY; exact (rF.below hbX rF.lt).alloc _
  have rN2 : Row Y (w.heap.size + 1) 35 #[.slice A1 C.stock.length c1, .slice A2 C.cash.length c2, .slice A3 C.purses.length c3, .slice A4 C.boxes.length c4, .int .i64 C.lost].toList := by subst hY; exact (rN.below hbX rN.lt).alloc _
  have rD2 : Row Y (w.heap.size + 2) 65 #[.int .i64 at_, .int .i64 1, .int .i64 da, .int .i64 db, .int .i64 dn].toList := by subst hY; exact (rD.below hbX rD.lt).alloc _
  have rR2 : Row Y (w.heap.size + 3) 35 #[.slice none 0 0, .slice none 0 0, .slice none 0 0, .slice none 0 0, .int .i64 0].toList := by subst hY; exact (rR.below hbX rR.lt).alloc _
  have bY : Below w.heap.size w Y := by subst hY; exact bX.alloc bX.size _
  have HF := hF.below (bY.mono hB)
  have zg : w.heap.size + 4 ≤ X.heap.size := by omega
  clear hY rF rN rD rR own hbX bX bW sW sX hF hC
  obtain ⟨_, q0, q1, q2, q3, q4, q5, q6, q7⟩ := Row.cells8 rF2
  obtain ⟨_, n0, n1, n2, n3, n4⟩ := Row.at_5 rN2
  obtain ⟨_, d0, d1, d2, d3, d4⟩ := Row.at_5 rD2
  obtain ⟨fR, r0, r1, r2, r3, r4⟩ := Row.at_5 rR2
  obtain ⟨_, y0, y1, y2, y3, y4⟩ := Row.at_5 rs.box
  have HT := hf.till da
  have HP := hf.purse da
  have HQ := hf.purse db
  have HX := hf.box db
  dsimp only at q2 q3 q4
  have HH := Lib.hid hf
  clear hf
  go_quiet (first | (go_at_call 44; exact quiet_left (rwithin_any _ _ _ _)))
  clear q0 q1 q2 q3 q4 q5 q6 q7 n0 n1 n2 n3 n4 d0 d1 d2 d3 d4 fR r0 r1 r2 r3 r4 y0 y1 y2 y3 y4
  replace rs := rs.drewN nq
  replace rF2 := rF2.drewN nq
  replace rN2 := rN2.drewN nq
  replace rD2 := rD2.drewN nq
  replace rR2 := rR2.drewN nq
  replace bY := below_drewN bY nq
  replace HF := HF.drewN nq
  generalize Y.drewN nq = Z at *
  obtain ⟨_, q0, q1, q2, q3, q4, q5, q6, q7⟩ := Row.cells8 rF2
  obtain ⟨_, n0, n1, n2, n3, n4⟩ := Row.at_5 rN2
  obtain ⟨_, d0, d1, d2, d3, d4⟩ := Row.at_5 rD2
  obtain ⟨fR, r0, r1, r2, r3, r4⟩ := Row.at_5 rR2
  obtain ⟨_, y0, y1, y2, y3, y4⟩ := Row.at_5 rs.box
  dsimp only at q2 q3 q4

  rw [HT, HQ]
  cases tA : isTill F da with
  | false =>
    have Hr : Hid (stepS F C ⟨at_, 1, da, db, dn⟩ = none) := by show _ = _; simp [stepS, sellS, tA]
    go_wp2_with fail
    go_quiet (first | (go_at_call 44; exact quiet_left (rwithin_any _ _ _ _)))
    go_wp2_with fail
    refine bodyPost_ret (v := .tuple #[.agg #[.slice A1 C.stock.length c1, .slice A2 C.cash.length c2, .slice A3 C.purses.length c3, .slice A4 C.boxes.length c4, .int .i64 C.lost], .bool false]) (by simp [results, Try.results48, go_sem, *]) rfl ?_
    exact RPost.no Hr.out (by repeat (first | (with_reducible exact bY) | (with_reducible refine below_drewN ?_ _) | (with_reducible refine Below.drew ?_) | (with_reducible refine Below.setCell ?_ (by dsimp only; omega) _)))
  | true =>
  cases tB : isPurse F db with
  | false =>
    have Hr : Hid (stepS F C ⟨at_, 1, da, db, dn⟩ = none) := by show _ = _; simp [stepS, sellS, tB]
    go_wp2_with fail
    go_quiet (first | (go_at_call 44; exact quiet_left (rwithin_any _ _ _ _)))
    go_wp2_with fail
    refine bodyPost_ret (v := .tuple #[.agg #[.slice A1 C.stock.length c1, .slice A2 C.cash.length c2, .slice A3 C.purses.length c3, .slice A4 C.boxes.length c4, .int .i64 C.lost], .bool false]) (by simp [results, Try.results48, go_sem, *]) rfl ?_
    exact RPost.no Hr.out (by repeat (first | (with_reducible exact bY) | (with_reducible refine below_drewN ?_ _) | (with_reducible refine Below.drew ?_) | (with_reducible refine Below.setCell ?_ (by dsimp only; omega) _)))
  | true =>
  cases tN : inB dn 0 ((F.bundles.length : Int) - 1) with
  | false =>
    have Hr : Hid (stepS F C ⟨at_, 1, da, db, dn⟩ = none) := by show _ = _; simp [stepS, sellS, tN]
    go_wp2_with fail
    go_quiet (first | (go_at_call 44; exact quiet_left (rwithin_any _ _ _ _)))
    go_wp2_with fail
    refine bodyPost_ret (v := .tuple #[.agg #[.slice A1 C.stock.length c1, .slice A2 C.cash.length c2, .slice A3 C.purses.length c3, .slice A4 C.boxes.length c4, .int .i64 C.lost], .bool false]) (by simp [results, Try.results48, go_sem, *]) rfl ?_
    exact RPost.no Hr.out (by repeat (first | (with_reducible exact bY) | (with_reducible refine below_drewN ?_ _) | (with_reducible refine Below.drew ?_) | (with_reducible refine Below.setCell ?_ (by dsimp only; omega) _)))
  | true =>
    obtain ⟨a, rfl, la⟩ := isTill_nat tA
    have la1 : a < C.stock.length := by have := HH.out.n1; omega
    have la2 : a < C.cash.length := by have := HH.out.n2; omega
    have la1' : (a : Int) < (C.stock.length : Int) := by omega
    have la2' : (a : Int) < (C.cash.length : Int) := by omega
    obtain ⟨b, rfl, lb⟩ := isPurse_nat tB
    have lb3 : b < C.purses.length := by have := HH.out.n3; omega
    have lb3' : (b : Int) < (C.purses.length : Int) := by omega
    have hn := inB_iff.1 tN
    obtain ⟨n, rfl⟩ := Int.eq_ofNat_of_zero_le hn.1
    have ln : n < F.bundles.length := by omega
    have ln' : (n : Int) < (F.bundles.length : Int) := by omega
    have HF3 := HF.s3
    dsimp only at HF3
    obtain ⟨bb, bo, rfl, hbb, m0, m1⟩ := HF3.at2 ln
    clear HF3
    have vb : bb < w.heap.size := by omega
    obtain ⟨b1, o1, hE1, zb1, pp1⟩ := rs.inn.s1.at1 la1
    dsimp only at hE1
    subst hE1
    have p1 : Z.cell? ⟨b1, o1 + a, none⟩ = some (.int .i64 (geti C.stock a)) := pp1 a la1
    clear pp1
    have u1 := rs.f1 b1 o1 rfl
    obtain ⟨b2, o2, hE2, zb2, pp2⟩ := rs.inn.s2.at1 la2
    dsimp only at hE2
    subst hE2
    have p2 : Z.cell? ⟨b2, o2 + a, none⟩ = some (.int .i64 (geti C.cash a)) := pp2 a la2
    clear pp2
    have u2 := rs.f2 b2 o2 rfl
    obtain ⟨b3, o3, hE3, zb3, t0, t1⟩ := rs.inn.s3.at3 lb3
    dsimp only at hE3
    subst hE3
    have u3 := rs.f3 b3 o3 rfl
    obtain ⟨w1, v1⟩ := rs.g1 b1 o1 rfl
    have ve1 : ¬ X.heap.size = b1 := fun e => v1 e.symm
    have vf1 : ¬ w.heap.size = b1 := by omega
    have vd1 : ¬ w.heap.size + 2 = b1 := by omega
    obtain ⟨w2, v2⟩ := rs.g2 b2 o2 rfl
    have ve2 : ¬ X.heap.size = b2 := fun e => v2 e.symm
    have vf2 : ¬ w.heap.size = b2 := by omega
    have vd2 : ¬ w.heap.size + 2 = b2 := by omega
    obtain ⟨w3, v3⟩ := rs.g3 b3 o3 rfl
    have ve3 : ¬ X.heap.size = b3 := fun e => v3 e.symm
    have vf3 : ¬ w.heap.size = b3 := by omega
    have vd3 : ¬ w.heap.size + 2 = b3 := by omega
    have h12 : ¬ b1 = b2 := rs.d12 b1 o1 b2 o2 rfl rfl
    have h21 : ¬ b2 = b1 := fun e => h12 e.symm
    have h13 : ¬ b1 = b3 := rs.d13 b1 o1 b3 o3 rfl rfl
    have h31 : ¬ b3 = b1 := fun e => h13 e.symm
    have h23 : ¬ b2 = b3 := rs.d23 b2 o2 b3 o3 rfl rfl
    have h32 : ¬ b3 = b2 := fun e => h23 e.symm
    by_cases hlt : geti C.stock a < (getb F.bundles n).tokens
    case pos =>
      have Hr : Hid (stepS F C ⟨at_, 1, ↑a, ↑b, ↑n⟩ = none) := by show _ = _; simp [stepS, sellS, hlt]
      go_wp2_with fail
      go_quiet (first | (go_at_call 44; exact quiet_left (rwithin_any _ _ _ _)))
      go_wp2_with fail
      refine bodyPost_ret (v := .tuple #[.agg #[.slice A1 C.stock.length c1, .slice A2 C.cash.length c2, .slice A3 C.purses.length c3, .slice A4 C.boxes.length c4, .int .i64 C.lost], .bool false]) (by simp [results, Try.results48, go_sem, *]) rfl ?_
      exact RPost.no Hr.out (by repeat (first | (with_reducible exact bY) | (with_reducible refine below_drewN ?_ _) | (with_reducible refine Below.drew ?_) | (with_reducible refine Below.setCell ?_ (by dsimp only; omega) _)))
    have hge : (getb F.bundles n).tokens ≤ geti C.stock a := by omega
    have Hr : Hid (stepS F C ⟨at_, 1, ↑a, ↑b, ↑n⟩ = some { C with stock := C.stock.set a (wrap64 (geti C.stock a - (getb F.bundles n).tokens)), purses := C.purses.set b ⟨wrap64 ((getp C.purses b).tokens + (getb F.bundles n).tokens), (getp C.purses b).til⟩, cash := C.cash.set a (wrap64 (geti C.cash a + (getb F.bundles n).price)) }) := by show _ = _; simp [stepS, sellS, tA, tB, tN, hlt, subi, addi, addp]
    go_wp2_with fail
    go_quiet (first | (go_at_call 44; exact quiet_left (rwithin_any _ _ _ _)))
    go_wp2_with fail
    refine wp_tail 15 (by kernel_rfl) (by kernel_rfl) ?_
    simp only [List.take_succ_cons, List.take_zero, List.drop_succ_cons, List.drop_zero]
    repeat still_step
    refine wpStill_nil ?_
    go_wp2_with fail
    refine wp_tail 17 (by kernel_rfl) (by kernel_rfl) ?_
    simp only [List.take_succ_cons, List.take_zero, List.drop_succ_cons, List.drop_zero]
    repeat still_step
    refine wpStill_nil ?_
    go_wp2_with fail
    refine wp_tail 15 (by kernel_rfl) (by kernel_rfl) ?_
    simp only [List.take_succ_cons, List.take_zero, List.drop_succ_cons, List.drop_zero]
    repeat still_step
    refine wpStill_nil ?_
    go_wp2_with fail
    refine bodyPost_ret (v := .tuple #[.agg #[.slice (some ⟨b1, o1, none⟩) C.stock.length e1, .slice (some ⟨b2, o2, none⟩) C.cash.length e2, .slice (some ⟨b3, o3, none⟩) C.purses.length e3, .slice E4 C.boxes.length e4, .int .i64 C.lost], .bool true]) (by simp [results, Try.results48, go_sem, *]) rfl ?_
    with_reducible refine RS.done (w := w) (B := w.heap.size + 4) (gc := X.heap.size) (K := ⟨some ⟨b1, o1, none⟩, e1, some ⟨b2, o2, none⟩, e2, some ⟨b3, o3, none⟩, e3, E4, e4⟩) ?rs Hr.out (by omega) (by omega) ?bel ?he _ _ _ _ _
    case bel => repeat (first | (with_reducible exact bY) | (with_reducible refine below_drewN ?_ _) | (with_reducible refine Below.drew ?_) | (with_reducible refine Below.setCell ?_ (by dsimp only; omega) _))
    case he => first | rfl | (simp only [countV, List.length_set]; done) | (simp [countV]; done)
    case rs => (repeat (with_reducible refine RS.drewN ?_ _)); (with_reducible refine RS.to2 (b := b2) (o := o2) (i := a) ({ C with stock := C.stock.set a (wrap64 (geti C.stock a - (getb F.bundles n).tokens)), purses := C.purses.set b ⟨wrap64 ((getp C.purses b).tokens + (getb F.bundles n).tokens), (getp C.purses b).til⟩ }) ?_ rfl la2 rfl rfl); (repeat (with_reducible refine RS.drewN ?_ _)); (with_reducible refine RS.to3 (b := b3) (o := o3) (i := b) ({ C with stock := C.stock.set a (wrap64 (geti C.stock a - (getb F.bundles n).tokens)) }) ?_ rfl lb3 rfl rfl); (repeat (with_reducible refine RS.drewN ?_ _)); (with_reducible refine RS.to1 (b := b1) (o := o1) (i := a) (C) ?_ rfl la1 rfl rfl); (repeat (with_reducible refine RS.drewN ?_ _)); repeat (first | (with_reducible exact rs) | (with_reducible refine RS.drewN ?_ _) | (with_reducible refine RS.drew ?_))
end Go.Proofs.Ytonbaikdpcmbiaa
