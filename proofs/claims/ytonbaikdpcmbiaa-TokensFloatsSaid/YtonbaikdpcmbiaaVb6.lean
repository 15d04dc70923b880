/- The specification's step: tokens are given to another guest. Conditions: the arguments read as data; the fair stands as a right one does. -/
import Derived.Test.YtonbaikdpcmbiaaVa
namespace Go.Proofs.Ytonbaikdpcmbiaa
open Go.RowKit

set_option maxHeartbeats 4000000 in
set_option maxRecDepth 100000 in
theorem rstep6_any (F : Fair) (R : Refs) (C : Count) (K : CRefs) (at_ da db dn : Int) (B : Nat) (w : World) (hB : B ≤ w.heap.size) (hF : FairIn w B F R) (hC : CountIn w B C K) (hf : Fit F C) :
    Calls Try.prog 48 #[fairV F R, countV C K, dealV ⟨at_, 6, da, db, dn⟩] w (RPost w C K (stepS F C ⟨at_, 6, da, db, dn⟩)) := by
  obtain ⟨A1, c1, A2, c2, A3, c3, A4, c4⟩ := K
  obtain ⟨S1, k1, S2, k2, S3, k3⟩ := R
  obtain ⟨few1, few2, few3, few4⟩ := hf.few
  obtain ⟨W, hW⟩ : ∃ W, W = (((w.alloc (.cells (fairCells F ⟨S1, k1, S2, k2, S3, k3⟩) 25)).alloc (.cells #[.slice A1 C.stock.length c1, .slice A2 C.cash.length c2, .slice A3 C.purses.length c3, .slice A4 C.boxes.length c4, .int .i64 C.lost] 35)).alloc (.cells #[.int .i64 at_, .int .i64 6, .int .i64 da, .int .i64 db, .int .i64 dn] 65)).alloc (.cells #[.slice none 0 0, .slice none 0 0, .slice none 0 0, .slice none 0 0, .int .i64 0] 35) := ⟨_, rfl⟩
  have sW : W.heap.size = w.heap.size + 4 := by subst hW; simp
  have bW : Below w.heap.size w W := by subst hW; exact ((((Below.refl _ _).alloc (Nat.le_refl _) _).alloc (by simp) _).alloc (by simp; omega) _).alloc (by simp; omega) _
  have rF : Row W w.heap.size 25 (fairCells F ⟨S1, k1, S2, k2, S3, k3⟩).toList := by subst hW; exact (((row_new _ _ _ _ rfl).alloc _).alloc _).alloc _
  have rN : Row W (w.heap.size + 1) 35 #[.slice A1 C.stock.length c1, .slice A2 C.cash.length c2, .slice A3 C.purses.length c3, .slice A4 C.boxes.length c4, .int .i64 C.lost].toList := by subst hW; exact ((row_new _ _ _ _ (by simp)).alloc _).alloc _
  have rD : Row W (w.heap.size + 2) 65 #[.int .i64 at_, .int .i64 6, .int .i64 da, .int .i64 db, .int .i64 dn].toList := by subst hW; exact (row_new _ _ _ _ (by simp)).alloc _
  have rR : Row W (w.heap.size + 3) 35 #[.slice none 0 0, .slice none 0 0, .slice none 0 0, .slice none 0 0, .int .i64 0].toList := by subst hW; exact row_new _ _ _ _ (by simp)
  have bd := hf.bd
  have bF := bd.b
  obtain ⟨_, x0, x1, x2, x3, x4⟩ := Row.at_5 rN
  unfold fairV countV dealV
  dsimp only
  go_enter Try.func48, Try.ntmps48
  go_wp2_with fail
  rw [← hW]
  clear hW
  refine (rCopy_any C ⟨A1, c1, A2, c2, A3, c3, A4, c4⟩ W B (by omega) (hC.keep fun p hp => bW.cell (by omega)) (by omega) (by omega) (by omega) (by omega)).mono ?_
  rintro e X ⟨hbX, ⟨E1, e1, E2, e2, E3, e3, E4, e4⟩, rfl, own⟩
  have bX := below_step bW hbX
  have sX := hbX.size
  unfold countV
  dsimp only
  clear x0 x1 x2 x3 x4
  go_upto_region 2 with (fail)
  obtain ⟨Y, hY⟩ : ∃ Y, Y = X.alloc (.cells #[.slice E1 C.stock.length e1, .slice E2 C.cash.length e2, .slice E3 C.purses.length e3, .slice E4 C.boxes.length e4, .int .i64 C.lost] 35) := ⟨_, rfl⟩
  rw [← hY]
  have rs : RS Y (w.heap.size + 4) X.heap.size C ⟨E1, e1, E2, e2, E3, e3, E4, e4⟩ := by subst hY; exact RS.new own (by omega)
  have rF2 : Row Y w.heap.size 25 (fairCells F ⟨S1, k1, S2, k2, S3, k3⟩).toList := by subst hY; exact (rF.below hbX rF.lt).alloc _
  have rN2 : Row Y (w.heap.size + 1) 35 #[.slice A1 C.stock.length c1, .slice A2 C.cash.length c2, .slice A3 C.purses.length c3, .slice A4 C.boxes.length c4, .int .i64 C.lost].toList := by subst hY; exact (rN.below hbX rN.lt).alloc _
  have rD2 : Row Y (w.heap.size + 2) 65 #[.int .i64 at_, .int .i64 6, .int .i64 da, .int .i64 db, .int .i64 dn].toList := by subst hY; exact (rD.below hbX rD.lt).alloc _
  have rR2 : Row Y (w.heap.size + 3) 35 #[.slice none 0 0, .slice none 0 0, .slice none 0 0, .slice none 0 0, .int .i64 0].toList := by subst hY; exact (rR.below hbX rR.lt).alloc _
  have bY : Below w.heap.size w Y := by subst hY; exact bX.alloc bX.size _
  have HF := hF.below (bY.mono hB)
  have zg : w.heap.size + 4 ≤ X.heap.size := by omega
  clear hY rF rN rD rR own hbX bX bW sW sX hF hC
  obtain ⟨_, q0, q1, q2, q3, q4, q5, q6, q7⟩ := Row.cells8 rF2
  obtain ⟨_, n0, n1, n2, n3, n4⟩ := Row.at_5 rN2
  obtain ⟨_, d0, d1, d2, d3, d4⟩ := Row.at_5 rD2
  obtain ⟨fR, r0, r1, r2, r3, r4⟩ := Row.at_5 rR2
  obtain ⟨_, y0, y1, y2, y3, y4⟩ := Row.at_5 rs.box
  have HT := hf.till da
  have HP := hf.purse da
  have HQ := hf.purse db
  have HX := hf.box db
  dsimp only at q2 q3 q4
  have HH := Lib.hid hf
  clear hf
  go_quiet (first | (go_at_call 44; exact quiet_left (rwithin_any _ _ _ _)))
  clear q0 q1 q2 q3 q4 q5 q6 q7 n0 n1 n2 n3 n4 d0 d1 d2 d3 d4 fR r0 r1 r2 r3 r4 y0 y1 y2 y3 y4
  replace rs := rs.drewN nq
  replace rF2 := rF2.drewN nq
  replace rN2 := rN2.drewN nq
  replace rD2 := rD2.drewN nq
  replace rR2 := rR2.drewN nq
  replace bY := below_drewN bY nq
  replace HF := HF.drewN nq
  generalize Y.drewN nq = Z at *
  obtain ⟨_, q0, q1, q2, q3, q4, q5, q6, q7⟩ := Row.cells8 rF2
  obtain ⟨_, n0, n1, n2, n3, n4⟩ := Row.at_5 rN2
  obtain ⟨_, d0, d1, d2, d3, d4⟩ := Row.at_5 rD2
  obtain ⟨fR, r0, r1, r2, r3, r4⟩ := Row.at_5 rR2
  obtain ⟨_, y0, y1, y2, y3, y4⟩ := Row.at_5 rs.box
  dsimp only at q2 q3 q4

  rw [HP, HQ]
  cases tA : isPurse F da with
  | false =>
    have Hr : Hid (stepS F C ⟨at_, 6, da, db, dn⟩ = none) := by show _ = _; simp [stepS, giveS, tA]
    go_wp2_with fail
    go_quiet (first | (go_at_call 44; exact quiet_left (rwithin_any _ _ _ _)))
    go_wp2_with fail
    refine bodyPost_ret (v := .tuple #[.agg #[.slice A1 C.stock.length c1, .slice A2 C.cash.length c2, .slice A3 C.purses.length c3, .slice A4 C.boxes.length c4, .int .i64 C.lost], .bool false]) (by simp [results, Try.results48, go_sem, *]) rfl ?_
    exact RPost.no Hr.out (by repeat (first | (with_reducible exact bY) | (with_reducible refine below_drewN ?_ _) | (with_reducible refine Below.drew ?_) | (with_reducible refine Below.setCell ?_ (by dsimp only; omega) _)))
  | true =>
  cases tB : isPurse F db with
  | false =>
    have Hr : Hid (stepS F C ⟨at_, 6, da, db, dn⟩ = none) := by show _ = _; simp [stepS, giveS, tB]
    go_wp2_with fail
    go_quiet (first | (go_at_call 44; exact quiet_left (rwithin_any _ _ _ _)))
    go_wp2_with fail
    refine bodyPost_ret (v := .tuple #[.agg #[.slice A1 C.stock.length c1, .slice A2 C.cash.length c2, .slice A3 C.purses.length c3, .slice A4 C.boxes.length c4, .int .i64 C.lost], .bool false]) (by simp [results, Try.results48, go_sem, *]) rfl ?_
    exact RPost.no Hr.out (by repeat (first | (with_reducible exact bY) | (with_reducible refine below_drewN ?_ _) | (with_reducible refine Below.drew ?_) | (with_reducible refine Below.setCell ?_ (by dsimp only; omega) _)))
  | true =>
    obtain ⟨a, rfl, la⟩ := isPurse_nat tA
    have la3 : a < C.purses.length := by have := HH.out.n3; omega
    have la3' : (a : Int) < (C.purses.length : Int) := by omega
    obtain ⟨b, rfl, lb⟩ := isPurse_nat tB
    have lb3 : b < C.purses.length := by have := HH.out.n3; omega
    have lb3' : (b : Int) < (C.purses.length : Int) := by omega
    obtain ⟨b3, o3, hE3, zb3, t0, t1⟩ := rs.inn.s3.at3 la3
    dsimp only at hE3
    subst hE3
    have u3 := rs.f3 b3 o3 rfl
    obtain ⟨w3, v3⟩ := rs.g3 b3 o3 rfl
    have ve3 : ¬ X.heap.size = b3 := fun e => v3 e.symm
    have vf3 : ¬ w.heap.size = b3 := by omega
    have vd3 : ¬ w.heap.size + 2 = b3 := by omega
    obtain ⟨b3', o3', hE3', _, t2, t3⟩ := rs.inn.s3.at3 lb3
    dsimp only at hE3'
    injection hE3' with hE3'; injection hE3' with hE4 hE5 _
    subst hE4; subst hE5
    by_cases hab : a = b
    case pos =>
      have hz' : ((a : Int) == (b : Int)) = true := by simp [hab]
      have Hr : Hid (stepS F C ⟨at_, 6, ↑a, ↑b, dn⟩ = none) := by show _ = _; simp [stepS, giveS, hab]
      clear hab
      go_wp2_with fail
      go_quiet (first | (go_at_call 44; exact quiet_left (rwithin_any _ _ _ _)))
      go_wp2_with fail
      refine bodyPost_ret (v := .tuple #[.agg #[.slice A1 C.stock.length c1, .slice A2 C.cash.length c2, .slice A3 C.purses.length c3, .slice A4 C.boxes.length c4, .int .i64 C.lost], .bool false]) (by simp [results, Try.results48, go_sem, *]) rfl ?_
      exact RPost.no Hr.out (by repeat (first | (with_reducible exact bY) | (with_reducible refine below_drewN ?_ _) | (with_reducible refine Below.drew ?_) | (with_reducible refine Below.setCell ?_ (by dsimp only; omega) _)))
    have hba : ¬ b = a := fun e => hab e.symm
    have hz' : ((a : Int) == (b : Int)) = false := by simp; omega
    cases tN : inB dn 1 100000 with
    | false =>
      have Hr : Hid (stepS F C ⟨at_, 6, ↑a, ↑b, dn⟩ = none) := by show _ = _; simp [stepS, giveS, has_eq, tN]
      go_wp2_with fail
      go_quiet (first | (go_at_call 44; exact quiet_left (rwithin_any _ _ _ _)))
      go_wp2_with fail
      refine bodyPost_ret (v := .tuple #[.agg #[.slice A1 C.stock.length c1, .slice A2 C.cash.length c2, .slice A3 C.purses.length c3, .slice A4 C.boxes.length c4, .int .i64 C.lost], .bool false]) (by simp [results, Try.results48, go_sem, *]) rfl ?_
      exact RPost.no Hr.out (by repeat (first | (with_reducible exact bY) | (with_reducible refine below_drewN ?_ _) | (with_reducible refine Below.drew ?_) | (with_reducible refine Below.setCell ?_ (by dsimp only; omega) _)))
    | true =>
    by_cases hlt : (getp C.purses a).tokens < dn
    case pos =>
      have Hr : Hid (stepS F C ⟨at_, 6, ↑a, ↑b, dn⟩ = none) := by show _ = _; simp [stepS, giveS, has_eq, hlt]
      go_wp2_with fail
      go_quiet (first | (go_at_call 44; exact quiet_left (rwithin_any _ _ _ _)))
      go_wp2_with fail
      refine bodyPost_ret (v := .tuple #[.agg #[.slice A1 C.stock.length c1, .slice A2 C.cash.length c2, .slice A3 C.purses.length c3, .slice A4 C.boxes.length c4, .int .i64 C.lost], .bool false]) (by simp [results, Try.results48, go_sem, *]) rfl ?_
      exact RPost.no Hr.out (by repeat (first | (with_reducible exact bY) | (with_reducible refine below_drewN ?_ _) | (with_reducible refine Below.drew ?_) | (with_reducible refine Below.setCell ?_ (by dsimp only; omega) _)))
    have hge : dn ≤ (getp C.purses a).tokens := by omega
    have hgp : getp (C.purses.set a ⟨wrap64 ((getp C.purses a).tokens - dn), (getp C.purses a).til⟩) b = getp C.purses b := by simp [getp, hab]
    have Hr : Hid (stepS F C ⟨at_, 6, ↑a, ↑b, dn⟩ = some { C with purses := (C.purses.set a ⟨wrap64 ((getp C.purses a).tokens - dn), (getp C.purses a).til⟩).set b ⟨wrap64 ((getp C.purses b).tokens + dn), (getp C.purses b).til⟩ }) := by
      show _ = _
      have hz2 : ¬ (a : Int) = (b : Int) := by omega
      simp [stepS, giveS, has_eq, tA, tB, tN, hlt, subp, addp, hgp, hz2]
    go_wp2_with fail
    go_quiet (first | (go_at_call 44; exact quiet_left (rwithin_any _ _ _ _)))
    go_wp2_with fail
    refine wp_tail 12 (by kernel_rfl) (by kernel_rfl) ?_
    simp only [List.take_succ_cons, List.take_zero, List.drop_succ_cons, List.drop_zero]
    repeat still_step
    refine wpStill_nil ?_
    go_wp2_with fail
    refine wp_tail 12 (by kernel_rfl) (by kernel_rfl) ?_
    simp only [List.take_succ_cons, List.take_zero, List.drop_succ_cons, List.drop_zero]
    repeat still_step
    refine wpStill_nil ?_
    go_wp2_with fail
    have eq6 : ∀ V, RS V (w.heap.size + 4) X.heap.size { C with purses := (C.purses.set a ⟨wrap64 ((getp C.purses a).tokens - dn), (getp C.purses a).til⟩).set b ⟨wrap64 ((getp C.purses b).tokens + dn), (getp (C.purses.set a ⟨wrap64 ((getp C.purses a).tokens - dn), (getp C.purses a).til⟩) b).til⟩ } ⟨E1, e1, E2, e2, some ⟨b3, o3, none⟩, e3, E4, e4⟩ → RS V (w.heap.size + 4) X.heap.size { C with purses := (C.purses.set a ⟨wrap64 ((getp C.purses a).tokens - dn), (getp C.purses a).til⟩).set b ⟨wrap64 ((getp C.purses b).tokens + dn), (getp C.purses b).til⟩ } ⟨E1, e1, E2, e2, some ⟨b3, o3, none⟩, e3, E4, e4⟩ := fun V h => by rw [hgp] at h; exact h
    refine bodyPost_ret (v := .tuple #[.agg #[.slice E1 C.stock.length e1, .slice E2 C.cash.length e2, .slice (some ⟨b3, o3, none⟩) C.purses.length e3, .slice E4 C.boxes.length e4, .int .i64 C.lost], .bool true]) (by simp [results, Try.results48, go_sem, *]) rfl ?_
    with_reducible refine RS.done (w := w) (B := w.heap.size + 4) (gc := X.heap.size) (K := ⟨E1, e1, E2, e2, some ⟨b3, o3, none⟩, e3, E4, e4⟩) ?rs Hr.out (by omega) (by omega) ?bel ?he _ _ _ _ _
    case bel => repeat (first | (with_reducible exact bY) | (with_reducible refine below_drewN ?_ _) | (with_reducible refine Below.drew ?_) | (with_reducible refine Below.setCell ?_ (by dsimp only; omega) _))
    case he => first | rfl | (simp only [countV, List.length_set]; done) | (simp [countV]; done)
    case rs => refine eq6 _ ?_; (repeat (with_reducible refine RS.drewN ?_ _)); (with_reducible refine RS.to3 (b := b3) (o := o3) (i := b) ({ C with purses := C.purses.set a ⟨wrap64 ((getp C.purses a).tokens - dn), (getp C.purses a).til⟩ }) ?_ rfl (by simpa using lb3) rfl rfl); (repeat (with_reducible refine RS.drewN ?_ _)); (with_reducible refine RS.to3 (b := b3) (o := o3) (i := a) (C) ?_ rfl la3 rfl rfl); (repeat (with_reducible refine RS.drewN ?_ _)); repeat (first | (with_reducible exact rs) | (with_reducible refine RS.drewN ?_ _) | (with_reducible refine RS.drew ?_))
end Go.Proofs.Ytonbaikdpcmbiaa
