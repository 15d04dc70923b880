/- Contracts of arm, Phases, moment and Moment, the specification's and the program's. Conditions: a rig and a loading that read as data (arm, moment: a valid rig). -/
import Derived.Test.YtkmiapfkebdpbaaLt
import Derived.Test.YtkmiapfkebdpbaaKu
namespace Go.Proofs.Ytkmiapfkebdpbaa
open Go.RowKit

set_option maxRecDepth 100000 in
set_option maxHeartbeats 2000000 in
theorem rarm_any (z : Int) (r : RigZ) (R : RigR) (B k : Nat) (p : Pt) (w : World) (hz : z = armZ r.feet k p) (hB : B ≤ w.heap.size) (hR : RigIn w B r R) (hv : rigB r = true) (hk : k < r.feet.length) (hp : spanB p = true) :
    Calls Try.prog 87 #[rigV r R, .int .i64 (k : Int), ptV p] w fun e w' => e = .returned (.int .i64 z) ∧ Below w.heap.size w w' := by
  obtain ⟨hs20, hsb, ⟨h3, h8, hsp, hgr, hcv⟩, hce, hfr, hem, hfu⟩ := rigB_parts hv
  obtain ⟨W, hW⟩ : ∃ W, W = (w.alloc (.cells (rigCells r R).toArray 57)).alloc (.cells #[.int .i64 p.x, .int .i64 p.y, .int .i64 p.z] 28) := ⟨_, rfl⟩
  have bW : Below w.heap.size w W := by subst hW; exact ((Below.refl _ _).alloc (Nat.le_refl _) _).alloc (by simp) _
  have r0 : Row W w.heap.size 57 (rigCells r R) := by subst hW; exact (Row.new w _ (rigCells r R).toArray).alloc _
  have r1 : Row W (w.heap.size + 1) 28 [.int .i64 p.x, .int .i64 p.y, .int .i64 p.z] := by
    subst hW
    have h := Row.new (w.alloc (.cells (rigCells r R).toArray 57)) 28 #[.int .i64 p.x, .int .i64 p.y, .int .i64 p.z]
    rw [World.size_alloc] at h
    exact h
  have hF := (hR.below (bW.mono hB)).f
  obtain ⟨b, o, hA, hb, a0, a1, a2⟩ := hF.atp hk
  obtain ⟨q, hq⟩ : ∃ q, q = (k + 1) % r.feet.length := ⟨_, rfl⟩
  have hqn : q < r.feet.length := by rw [hq]; exact Nat.mod_lt _ (by omega)
  obtain ⟨b', o', hA', _, b0, b1, b2⟩ := hF.atp hqn
  rw [hA] at hA'
  injection hA' with hA'
  injection hA' with h1 h2
  subst h1; subst h2
  have e1 : IntKind.i64.wrap ((k : Int) + 1) = (k : Int) + 1 := IntWalk.i64_in _ (by omega)
  have e2 : ((k : Int) + 1).tmod (r.feet.length : Int) = (q : Int) := by
    rw [hq, Int.tmod_eq_emod_of_nonneg (by omega), Int.natCast_emod]
    rfl
  have hz' : z = turnZ (ptAt r.feet k) (ptAt r.feet q) p := by rw [hz, hq]; rfl
  have ha := ptAt_spanA hsp k
  have hbb := ptAt_spanA hsp q
  have zb : b < W.heap.size := Nat.lt_of_lt_of_le hb (Nat.le_trans hB bW.size)
  generalize ptAt r.feet k = a at *
  generalize ptAt r.feet q = d at *
  have Hz := Lib.hid hz'
  have hkl : (k : Int) < (r.feet.length : Int) := by omega
  have hql : (q : Int) < (r.feet.length : Int) := by omega
  have hn0 : ¬ (r.feet.length : Int) = 0 := by omega
  have hnil : ¬ r.feet = [] := by intro e; rw [e] at hk; simp at hk
  clear hz hz' hq hF hcv hgr
  unfold rigV ptV
  unfold rigCells at r0 hW
  rw [hA] at r0 hW ⊢
  have z0 := r0.lt
  have z1 := r1.lt
  obtain ⟨_, q0, q1, q2, q3, q4, q5, q6, q7⟩ := Row.at_8 r0
  obtain ⟨_, u0, u1, u2⟩ := Row.at_3 r1
  go_enter Try.func87, Try.ntmps87
  go_upto_region 1 with (fail)
  rw [← hW]
  clear hW
  go_region_held3 (fun y => y.cell? ⟨w.heap.size, 1, none⟩ = some (.slice (some ⟨b, o, none⟩) r.feet.length R.c2) ∧ y.cell? ⟨w.heap.size + 1, 0, none⟩ = some (.int .i64 p.x) ∧ y.cell? ⟨w.heap.size + 1, 1, none⟩ = some (.int .i64 p.y) ∧ y.cell? ⟨w.heap.size + 1, 2, none⟩ = some (.int .i64 p.z) ∧ y.cell? ⟨b, o + k * 3, none⟩ = some (.int .i64 a.x) ∧ y.cell? ⟨b, o + k * 3 + 1, none⟩ = some (.int .i64 a.y) ∧ y.cell? ⟨b, o + k * 3 + 2, none⟩ = some (.int .i64 a.z) ∧ y.cell? ⟨b, o + q * 3, none⟩ = some (.int .i64 d.x) ∧ y.cell? ⟨b, o + q * 3 + 1, none⟩ = some (.int .i64 d.y) ∧ y.cell? ⟨b, o + q * 3 + 2, none⟩ = some (.int .i64 d.z)) (go_keep) (first
    | (go_at_call 70; refine (rturn_at z a d p Hz.out ha hbb hp _).mono ?_; rintro e y ⟨rfl, hy⟩; have hyb := below_drewN_out' hy; obtain ⟨_, q0, q1, q2, q3, q4, q5, q6, q7⟩ := Row.at_8 (r0.below hyb z0); obtain ⟨_, u0, u1, u2⟩ := Row.at_3 (r1.below hyb z1); have a0 := (hyb.cell (p := ⟨b, o + k * 3, none⟩) zb).trans a0; have a1 := (hyb.cell (p := ⟨b, o + k * 3 + 1, none⟩) zb).trans a1; have a2 := (hyb.cell (p := ⟨b, o + k * 3 + 2, none⟩) zb).trans a2; have b0 := (hyb.cell (p := ⟨b, o + q * 3, none⟩) zb).trans b0; have b1 := (hyb.cell (p := ⟨b, o + q * 3 + 1, none⟩) zb).trans b1; have b2 := (hyb.cell (p := ⟨b, o + q * 3 + 2, none⟩) zb).trans b2))
  go_wp2_with fail
  go_ret
  exact ⟨rfl, bW.trans (hyb.mono bW.size)⟩
set_option maxRecDepth 100000 in
theorem rPhases_any (r : RigZ) (R : RigR) (B : Nat) (w : World) (hB : B ≤ w.heap.size) (hR : RigIn w B r R) :
    Calls Try.prog 73 #[rigV r R] w fun e w' => e = .returned (.int .i64 (phZ r : Int)) ∧ Below w.heap.size w w' := by
  obtain ⟨W, hW⟩ : ∃ W, W = w.alloc (.cells (rigCells r R).toArray 57) := ⟨_, rfl⟩
  have bW : Below w.heap.size w W := by subst hW; exact (Below.refl _ _).alloc (Nat.le_refl _) _
  have r0 : Row W w.heap.size 57 (rigCells r R) := by subst hW; exact Row.new w _ (rigCells r R).toArray
  have hS := (hR.below (bW.mono hB)).s
  unfold rigV
  unfold rigCells at r0 hW
  by_cases h0 : r.seats.length = 0
  · have hph : Hid (phZ r = 1) := by show _ = _; unfold phZ; rw [if_pos h0]
    obtain ⟨_, q0, q1, q2, q3, q4, q5, q6, q7⟩ := Row.at_8 r0
    rw [h0] at q0 hW ⊢
    clear h0
    go_enter Try.func73, Try.ntmps73
    go_wp2_with fail
    rw [← hW]
    go_ret
    exact ⟨by rw [hph.out]; rfl, bW⟩
  · obtain ⟨N, hN⟩ : ∃ N, N = (pathAt r.seats 0).length := ⟨_, rfl⟩
    have hph : Hid (phZ r = N) := by show _ = _; unfold phZ; rw [if_neg h0, hN]
    obtain ⟨b, o, hA, hb, hc⟩ := hS.outer (by omega)
    have c0 := hc 0 (by omega)
    simp only [Nat.add_zero] at c0
    rw [← hN] at c0
    rw [hA] at r0 hW ⊢
    have h0' : (0 : Int) < (r.seats.length : Int) := by omega
    have h0n : 0 < r.seats.length := by omega
    have hnil : ¬ r.seats = [] := by intro e; rw [e] at h0; simp at h0
    obtain ⟨_, q0, q1, q2, q3, q4, q5, q6, q7⟩ := Row.at_8 r0
    clear hc hN hS
    go_enter Try.func73, Try.ntmps73
    go_upto_region 1 with (fail)
    rw [← hW]
    clear hW
    go_wp2_with fail
    go_ret
    exact ⟨ret_int (by rw [hph.out]), bW⟩
theorem Reads.atB {w : World} {B n : Nat} {A : Option Addr} {l : List Bool} (h : Reads w B 1 A n (l.map Value.bool)) {k : Nat} (hk : k < n) :
    ∃ b o, A = some ⟨b, o, none⟩ ∧ b < B ∧ w.cell? ⟨b, o + k, none⟩ = some (.bool (l[k]?.getD false)) := by
  obtain ⟨b, o, e, hb, hc⟩ := h.2 (by omega)
  have hl : l.length = n := by have := h.1; simpa using this
  refine ⟨b, o, e, hb, hc k _ ?_⟩
  rw [List.getElem?_map, List.getElem?_eq_getElem (by omega)]
  rfl
def ldF (l : List Bool) : Nat → Bool := fun i => l[i]?.getD false

set_option maxRecDepth 100000 in
set_option maxHeartbeats 4000000 in
theorem rmoment_any (r : RigZ) (R : RigR) (B p k : Nat) (l : List Bool) (A3 : Option Addr) (c3 : Nat) (w : World) (hB : B ≤ w.heap.size) (hR : RigIn w B r R) (hl : Reads w B 1 A3 l.length (l.map Value.bool)) (hll : l.length = r.seats.length) (hv : rigB r = true) (hk : k < r.feet.length) (hp : p < phZ r) :
    Calls Try.prog 74 #[rigV r R, .slice A3 l.length c3, .int .i64 (p : Int), .int .i64 (k : Int)] w fun e w' => e = .returned (.int .i64 (momZ r (ldF l) p k)) ∧ Below w.heap.size w w' := by
  obtain ⟨A1, k1, rs, A2, k2⟩ := R
  obtain ⟨hs20, hsb, ⟨h3, h8, hsp, hgr, hcv⟩, hce, hfr, hem, hfu⟩ := rigB_parts hv
  obtain ⟨W, hW⟩ : ∃ W, W = w.alloc (.cells (rigCells r ⟨A1, k1, rs, A2, k2⟩).toArray 57) := ⟨_, rfl⟩
  have bW : Below w.heap.size w W := by subst hW; exact (Below.refl _ _).alloc (Nat.le_refl _) _
  have r0 : Row W w.heap.size 57 (rigCells r ⟨A1, k1, rs, A2, k2⟩) := by subst hW; exact Row.new w _ (rigCells r ⟨A1, k1, rs, A2, k2⟩).toArray
  have hBW : B ≤ W.heap.size := Nat.le_trans hB bW.size
  have hRW := hR.below (bW.mono hB)
  obtain ⟨z, hz⟩ : ∃ z, z = armZ r.feet k r.center := ⟨_, rfl⟩
  have hz1 := arm_bd hv k hce
  rw [← hz] at hz1
  have hm1 := mul_near (a := r.frame) (b := z) (M := 1000000) (N := 800000000) (by omega) (by omega) (by omega) (by omega)
  obtain ⟨m0, hm0⟩ : ∃ m0, m0 = r.frame * z := ⟨_, rfl⟩
  rw [← hm0] at hm1
  have e0 : IntKind.i64.wrap (r.frame * z) = m0 := by rw [← hm0]; exact IntWalk.i64_in _ (by omega)
  have H0 : Hid (momK r (ldF l) p k 0 = m0) := by show _ = _; simp only [momK]; rw [← hz, hm0]
  have HA : Hid (∀ X, Below W.heap.size W X → Calls Try.prog 87 #[rigV r ⟨A1, k1, rs, A2, k2⟩, .int .i64 (k : Int), ptV r.center] X fun e w' => e = .returned (.int .i64 z) ∧ Below W.heap.size W w') := fun X hX =>
    (rarm_any z r ⟨A1, k1, rs, A2, k2⟩ B k r.center X hz (Nat.le_trans hBW hX.size) (hRW.below (hX.mono hBW)) hv hk hce).mono fun _ _ h => ⟨h.1, hX.trans (h.2.mono hX.size)⟩
  unfold rigV ptV at HA
  unfold rigV
  unfold rigCells at r0 hW
  dsimp only at r0 hW HA ⊢
  have z0 := r0.lt
  obtain ⟨_, q0, q1, q2, q3, q4, q5, q6, q7⟩ := Row.at_8 r0
  have hR0 := Lib.hid hR
  clear hz hm0 hz1 hm1 hR hRW
  go_enter Try.func74, Try.ntmps74
  go_upto_region 1 with (fail)
  rw [← hW]
  clear hW
  go_region_held3 (fun y => y.cell? ⟨w.heap.size, 0, none⟩ = some (.slice A1 r.seats.length k1) ∧ y.cell? ⟨w.heap.size, 1, none⟩ = some (.slice A2 r.feet.length k2) ∧ y.cell? ⟨w.heap.size, 2, none⟩ = some (.int .i64 r.frame) ∧ y.cell? ⟨w.heap.size, 3, none⟩ = some (.int .i64 r.center.x) ∧ y.cell? ⟨w.heap.size, 4, none⟩ = some (.int .i64 r.center.y) ∧ y.cell? ⟨w.heap.size, 5, none⟩ = some (.int .i64 r.center.z) ∧ y.cell? ⟨w.heap.size, 6, none⟩ = some (.int .i64 r.empty) ∧ y.cell? ⟨w.heap.size, 7, none⟩ = some (.int .i64 r.full)) (go_keep) (first
    | (go_at_call 87; refine (HA.out _ ?_).mono ?_; (first | exact Below.refl _ _ | exact Below.drew (Below.refl _ _) | exact below_drewN (Below.refl _ _) _); rintro e y ⟨rfl, hyb⟩; obtain ⟨_, q0, q1, q2, q3, q4, q5, q6, q7⟩ := Row.at_8 (r0.below hyb z0)))
  have bY := bW.trans (hyb.mono bW.size)
  have rY := r0.below hyb z0
  clear q0 q1 q2 q3 q4 q5 q6 q7 hyb r0 z0 e0 HA
  obtain ⟨_, q0, q1, q2, q3, q4, q5, q6, q7⟩ := Row.at_8 rY
  rw [← H0.out]
  go_wp2_with fail
  go_loopw [9, 10] (fun s i wr => ∃ j : Nat, j ≤ r.seats.length ∧ i = .int .i64 j ∧ s = .int .i64 (momK r (ldF l) p k j) ∧ Below w.heap.size w wr ∧ Row wr w.heap.size 57 (rigCells r ⟨A1, k1, rs, A2, k2⟩)) (fun _ i _ => r.seats.length - (intOf i).toNat)
  case atStart => exact ⟨0, Nat.zero_le _, rfl, rfl, bY, rY⟩
  case round =>
    obtain ⟨j, hj, rfl, rfl, hbel, rj⟩ := hrel
    clear q0 q1 q2 q3 q4 q5 q6 q7 bY rY H0
    by_cases hlt : j < r.seats.length
    · have hRj := RigIn.below hR0.out (hbel.mono hB)
      have hBj : B ≤ wr.heap.size := Nat.le_trans hB hbel.size
      obtain ⟨bs, o, hA1, hbs, hc⟩ := hRj.s.outer (by omega)
      dsimp only at hA1 hc
      subst hA1
      have hcj := hc j hlt
      clear hc
      obtain ⟨b2, o2, hA2, hb2, c0, c1, c2⟩ := (hRj.s.inner j hlt).atp (k := p) (by rw [phZ_at hv hlt]; exact hp)
      dsimp only at hA2
      have hpl : (p : Int) < ((pathAt r.seats j).length : Int) := by rw [phZ_at hv hlt]; omega
      obtain ⟨N, hN⟩ : ∃ N, N = (pathAt r.seats j).length := ⟨_, rfl⟩
      rw [← hN] at hcj hpl
      rw [hA2] at hcj
      obtain ⟨b3, o3, rfl, hb3, d0⟩ := (hl.below (hbel.mono hB)).atB (k := j) (by omega)
      have hd : Hid (l[j]?.getD false = ldF l j) := rfl
      rw [hd.out] at d0
      have hjl2 : (j : Int) < (l.length : Int) := by omega
      have hpn : p < N := by omega
      have hp0 : (0 : Int) ≤ (p : Int) := by omega
      have hN0 : 0 < N := by omega
      have hnil2 : ¬ r.seats = [] := by intro e; rw [e] at hlt; simp at hlt
      have hnil3 : ¬ l = [] := by intro e; rw [e] at hjl2; simp at hjl2; omega
      have hjl : (j : Int) < (r.seats.length : Int) := by omega
      have hjn : j < l.length := by omega
      have hqs := seat_span hv j p
      obtain ⟨q, hq0⟩ : ∃ q, q = seatAt r j p := ⟨_, rfl⟩
      have hst : ptAt (pathAt r.seats j) p = q := by rw [hq0]; rfl
      rw [← hq0] at hqs
      rw [hst] at c0 c1 c2
      obtain ⟨zz, hzz⟩ : ∃ zz, zz = armZ r.feet k q := ⟨_, rfl⟩
      have hz1 := arm_bd hv k hqs
      rw [← hzz] at hz1
      obtain ⟨wt, hwt⟩ : ∃ wt, wt = (if ldF l j = true then r.full else r.empty) := ⟨_, rfl⟩
      have hw1 : 0 ≤ wt ∧ wt ≤ 1000000 := by rw [hwt]; split <;> omega
      have hm1 := mul_near (a := wt) (b := zz) (M := 1000000) (N := 800000000) (by omega) (by omega) (by omega) (by omega)
      obtain ⟨mm, hmm⟩ : ∃ mm, mm = wt * zz := ⟨_, rfl⟩
      rw [← hmm] at hm1
      have e1 : IntKind.i64.wrap (wt * zz) = mm := by rw [← hmm]; exact IntWalk.i64_in _ (by omega)
      have hbd := mom_bd hv (ldF l) p k j
      obtain ⟨S, hS⟩ : ∃ S, S = momK r (ldF l) p k j := ⟨_, rfl⟩
      rw [← hS] at hbd ⊢
      have e2 : IntKind.i64.wrap (S + mm) = S + mm := IntWalk.i64_in _ (by omega)
      have HS1 : Hid (momK r (ldF l) p k (j + 1) = S + mm) := by show _ = _; simp only [momK]; rw [← hq0, ← hzz, ← hwt, ← hmm, ← hS]
      have e3 : IntKind.i64.wrap ((j : Int) + 1) = (j : Int) + 1 := IntWalk.i64_in _ (by omega)
      have HA : Hid (∀ X, Below wr.heap.size wr X → Calls Try.prog 87 #[rigV r ⟨some ⟨bs, o, none⟩, k1, rs, A2, k2⟩, .int .i64 (k : Int), ptV q] X fun e w' => e = .returned (.int .i64 zz) ∧ Below wr.heap.size wr w') := fun X hX =>
        (rarm_any zz r ⟨some ⟨bs, o, none⟩, k1, rs, A2, k2⟩ B k q X hzz (Nat.le_trans hBj hX.size) (hRj.below (hX.mono hBj)) hv hk hqs).mono fun _ _ h => ⟨h.1, hX.trans (h.2.mono hX.size)⟩
      unfold rigV ptV at HA
      dsimp only at HA
      clear hq0 hst hzz hmm hS hN hm1 hz1 hbd hqs hd hRj
      unfold rigCells at rj
      dsimp only at rj
      have zj := rj.lt
      obtain ⟨_, q0, q1, q2, q3, q4, q5, q6, q7⟩ := Row.at_8 rj
      have zb2 : b2 < wr.heap.size := by omega
      have zbs : bs < wr.heap.size := by omega
      cases hld : ldF l j
      all_goals
        rw [hld] at hwt d0
        simp only [Bool.false_eq_true, if_false, if_true] at hwt
        subst hwt
        clear hld
        go_upto_region 8 with (fail)
        go_region_held3 (fun y => y.cell? ⟨w.heap.size, 0, none⟩ = some (.slice (some ⟨bs, o, none⟩) r.seats.length k1) ∧ y.cell? ⟨w.heap.size, 1, none⟩ = some (.slice A2 r.feet.length k2) ∧ y.cell? ⟨w.heap.size, 2, none⟩ = some (.int .i64 r.frame) ∧ y.cell? ⟨w.heap.size, 3, none⟩ = some (.int .i64 r.center.x) ∧ y.cell? ⟨w.heap.size, 4, none⟩ = some (.int .i64 r.center.y) ∧ y.cell? ⟨w.heap.size, 5, none⟩ = some (.int .i64 r.center.z) ∧ y.cell? ⟨w.heap.size, 6, none⟩ = some (.int .i64 r.empty) ∧ y.cell? ⟨w.heap.size, 7, none⟩ = some (.int .i64 r.full) ∧ y.cell? ⟨bs, o + j, none⟩ = some (.slice (some ⟨b2, o2, none⟩) N (refAt rs j).2) ∧ y.cell? ⟨b2, o2 + p * 3, none⟩ = some (.int .i64 q.x) ∧ y.cell? ⟨b2, o2 + p * 3 + 1, none⟩ = some (.int .i64 q.y) ∧ y.cell? ⟨b2, o2 + p * 3 + 2, none⟩ = some (.int .i64 q.z)) (go_keep) (first
          | (go_at_call 87; refine (HA.out _ ?_).mono ?_; (first | exact Below.refl _ _ | exact Below.drew (Below.refl _ _) | exact below_drewN (Below.refl _ _) _); rintro e y ⟨rfl, hyb⟩; obtain ⟨_, q0, q1, q2, q3, q4, q5, q6, q7⟩ := Row.at_8 (rj.below hyb zj); have hcj := (hyb.cell (p := ⟨bs, o + j, none⟩) zbs).trans hcj; have c0 := (hyb.cell (p := ⟨b2, o2 + p * 3, none⟩) zb2).trans c0; have c1 := (hyb.cell (p := ⟨b2, o2 + p * 3 + 1, none⟩) zb2).trans c1; have c2 := (hyb.cell (p := ⟨b2, o2 + p * 3 + 2, none⟩) zb2).trans c2))
        go_wp2_with fail
        go_roundw
        case rel => exact ⟨j + 1, by omega, by go_num, by rw [HS1.out], hbel.trans (hyb.mono hbel.size), rj.below hyb zj⟩
        case measure => simp [intOf]; omega
    · obtain rfl : j = r.seats.length := by omega
      unfold rigCells at rj
      dsimp only at rj
      obtain ⟨_, q0, q1, q2, q3, q4, q5, q6, q7⟩ := Row.at_8 rj
      go_wp2_with fail
      go_ret
      exact ⟨rfl, hbel⟩

def momS (r : RigZ) (l : List Bool) (ph line : Int) : Int × Int :=
  if rigB r = false then (0, 33) else if l.length = r.seats.length ∧ inB ph 0 ((phZ r : Int) - 1) = true ∧ inB line 0 ((r.feet.length : Int) - 1) = true then (momZ r (ldF l) ph.toNat line.toNat, 0) else (0, 1)
theorem momS_no {r : RigZ} (l : List Bool) (ph line : Int) (h : rigB r = false) : momS r l ph line = (0, 33) := by unfold momS; rw [if_pos h]
theorem momS_arg {r : RigZ} {l : List Bool} {ph line : Int} (h : rigB r = true) (hn : ¬ (l.length = r.seats.length ∧ inB ph 0 ((phZ r : Int) - 1) = true ∧ inB line 0 ((r.feet.length : Int) - 1) = true)) : momS r l ph line = (0, 1) := by
  unfold momS; rw [if_neg (by rw [h]; simp), if_neg hn]
theorem momS_ok {r : RigZ} {l : List Bool} {p k : Nat} (h : rigB r = true) (hn : l.length = r.seats.length) (hp : p < phZ r) (hk : k < r.feet.length) : momS r l p k = (momZ r (ldF l) p k, 0) := by
  unfold momS; rw [if_neg (by rw [h]; simp), if_pos ⟨hn, inB_iff.2 (by omega), inB_iff.2 (by omega)⟩]
  simp
theorem phZ_bd {r : RigZ} (h : rigB r = true) : 1 ≤ phZ r ∧ phZ r ≤ 60 := by
  obtain ⟨_, hs, _⟩ := rigB_parts h
  unfold phZ
  split
  · omega
  · have h1 := (pathB_iff _).1 (seatsB_at hs (show 0 < r.seats.length by omega)).1
    omega
theorem ret_mo {p : Int × Int} {a b : Int} (h : p = (a, b)) : Ending.returned (.tuple #[.int .i64 a, .int .i64 b]) = .returned (.tuple #[.int .i64 p.1, .int .i64 p.2]) := by rw [h]
def MoPost (w : World) (r : RigZ) (l : List Bool) (ph line : Int) (e : Ending) (w' : World) : Prop := e = .returned (.tuple #[.int .i64 (momS r l ph line).1, .int .i64 (momS r l ph line).2]) ∧ Below w.heap.size w w'
set_option maxRecDepth 100000 in
set_option maxHeartbeats 2000000 in
theorem rMoment_any (r : RigZ) (R : RigR) (B : Nat) (l : List Bool) (A3 : Option Addr) (c3 : Nat) (ph line : Int) (w : World) (hB : B ≤ w.heap.size) (hR : RigIn w B r R) (hl : Reads w B 1 A3 l.length (l.map Value.bool)) (hln : l.length ≤ maxLen) :
    Calls Try.prog 38 #[rigV r R, .slice A3 l.length c3, .int .i64 ph, .int .i64 line] w (MoPost w r l ph line) := by
  obtain ⟨W, hW⟩ : ∃ W, W = w.alloc (.cells (rigCells r R).toArray 57) := ⟨_, rfl⟩
  have bW : Below w.heap.size w W := by subst hW; exact (Below.refl _ _).alloc (Nat.le_refl _) _
  have r0 : Row W w.heap.size 57 (rigCells r R) := by subst hW; exact Row.new w _ (rigCells r R).toArray
  have HC : Hid (∀ X, Below w.heap.size w X → Calls Try.prog 36 #[rigV r R] X fun e w' => e = .returned (.int .i64 (rigE r)) ∧ Below X.heap.size X w') := fun X hX =>
    rCheckRig_any r R B X (Nat.le_trans hB hX.size) (hR.below (hX.mono hB))
  have HP : Hid (∀ X, Below w.heap.size w X → Calls Try.prog 73 #[rigV r R] X fun e w' => e = .returned (.int .i64 (phZ r : Int)) ∧ Below X.heap.size X w') := fun X hX =>
    rPhases_any r R B X (Nat.le_trans hB hX.size) (hR.below (hX.mono hB))
  have HM : Hid (∀ X (p k : Nat), Below w.heap.size w X → rigB r = true → l.length = r.seats.length → p < phZ r → k < r.feet.length → Calls Try.prog 74 #[rigV r R, .slice A3 l.length c3, .int .i64 (p : Int), .int .i64 (k : Int)] X fun e w' => e = .returned (.int .i64 (momZ r (ldF l) p k)) ∧ Below X.heap.size X w') := fun X p k hX h1 h2 h3 h4 =>
    rmoment_any r R B p k l A3 c3 X (Nat.le_trans hB hX.size) (hR.below (hX.mono hB)) (hl.below (hX.mono hB)) h2 h1 h4 h3
  have Hsl := Lib.hid hR.s.len
  have Hfl := Lib.hid hR.lf
  have Hln := Lib.hid hln
  have z0 := r0.lt
  clear hl hln hR hB
  unfold rigV at HC HP HM ⊢
  unfold rigCells at r0 hW
  obtain ⟨_, q0, q1, q2, q3, q4, q5, q6, q7⟩ := Row.at_8 r0
  go_enter Try.func38, Try.ntmps38
  go_wp2_with fail
  rw [← hW]
  clear hW
  refine (HC.out W bW).mono ?_
  rintro e w1 ⟨rfl, hb1⟩
  have b1 := bW.trans (hb1.mono bW.size)
  have r1 := r0.below hb1 z0
  have z1 := r1.lt
  clear q0 q1 q2 q3 q4 q5 q6 q7 hb1 bW r0 z0
  obtain ⟨_, q0, q1, q2, q3, q4, q5, q6, q7⟩ := Row.at_8 r1
  cases h1 : rigB r with
  | false =>
    rw [show rigE r = 33 from by unfold rigE; rw [h1]; rfl]
    go_wp2_with fail
    go_ret2
    exact ⟨ret_mo (momS_no _ _ _ h1), b1⟩
  | true =>
    rw [show rigE r = 0 from by unfold rigE; rw [h1]; rfl]
    have hpb := phZ_bd h1
    have hf8 : 3 ≤ r.feet.length ∧ r.feet.length ≤ 8 := ⟨(rigB_parts h1).2.2.1.1, (rigB_parts h1).2.2.1.2.1⟩
    have hs20 := (rigB_parts h1).1
    have H1 := Lib.hid h1
    clear h1
    have hnf : ¬ r.feet = [] := by intro e; rw [e] at hf8; simp at hf8
    have HZ : Hid (¬ (l.length = r.seats.length ∧ inB ph 0 ((phZ r : Int) - 1) = true ∧ inB line 0 ((r.feet.length : Int) - 1) = true) → momS r l ph line = (0, 1)) := fun h => momS_arg H1.out h
    obtain ⟨P, hP⟩ : ∃ P, P = phZ r := ⟨_, rfl⟩
    rw [← hP] at hpb HP HM HZ
    have HPp := Lib.hid hP
    clear hP
    have eP : IntKind.i64.wrap ((P : Int) - 1) = (P : Int) - 1 := IntWalk.i64_in _ (by omega)
    have eF : IntKind.i64.wrap ((r.feet.length : Int) - 1) = (r.feet.length : Int) - 1 := IntWalk.i64_in _ (by omega)
    by_cases hlen : l.length = r.seats.length
    case neg =>
      have hne : ((l.length : Int) != (r.seats.length : Int)) = true := by rw [bne_iff_ne]; omega
      have HE := HZ.out fun h => hlen h.1
      have HE' := Lib.hid HE
      clear hlen HE
      go_wp2_with fail
      go_ret2
      exact ⟨ret_mo HE'.out, b1⟩
    have heq : ((l.length : Int) != (r.seats.length : Int)) = false := by rw [bne_eq_false_iff_eq]; omega
    have Hlen := Lib.hid hlen
    clear hlen
    go_wp2_with fail
    refine (HP.out w1 b1).mono ?_
    rintro e w2 ⟨rfl, hb2⟩
    have b2 := b1.trans (hb2.mono b1.size)
    have r2 := r1.below hb2 z1
    have z2 := r2.lt
    clear q0 q1 q2 q3 q4 q5 q6 q7 hb2 b1 r1 z1
    obtain ⟨_, q0, q1, q2, q3, q4, q5, q6, q7⟩ := Row.at_8 r2
    go_wp2_with fail
    refine (from_any _ _ _ _).mono ?_
    rintro e w' ⟨rfl, rfl⟩
    cases h2 : inB ph 0 ((P : Int) - 1) with
    | false =>
      have HE := Lib.hid (HZ.out fun h => by rw [h2] at h; exact absurd h.2.1 (by simp))
      go_wp2_with fail
      go_ret2
      exact ⟨ret_mo HE.out, b2⟩
    | true =>
      have i2 := inB_iff.1 h2
      obtain ⟨p, rfl⟩ : ∃ p : Nat, ph = (p : Int) := ⟨ph.toNat, by omega⟩
      clear h2
      go_wp2_with fail
      refine (from_any _ _ _ _).mono ?_
      rintro e w' ⟨rfl, rfl⟩
      cases h3 : inB line 0 ((r.feet.length : Int) - 1) with
      | false =>
        have HE := Lib.hid (HZ.out fun h => by rw [h3] at h; exact absurd h.2.2 (by simp))
        go_wp2_with fail
        go_ret2
        exact ⟨ret_mo HE.out, b2⟩
      | true =>
        have i3 := inB_iff.1 h3
        obtain ⟨k, rfl⟩ : ∃ k : Nat, line = (k : Int) := ⟨line.toNat, by omega⟩
        clear h3
        go_wp2_with fail
        refine (HM.out w2 p k b2 H1.out Hlen.out (by omega) (by omega)).mono ?_
        rintro e w3 ⟨rfl, hb3⟩
        go_wp2_with fail
        go_ret2
        exact ⟨ret_mo (momS_ok H1.out Hlen.out (by have := HPp.out; omega) (by omega)), b2.trans (hb3.mono b2.size)⟩
/-- The function in Moment that tells which seats are full. -/
theorem full_any (l : List Bool) (A3 : Option Addr) (c3 g B i : Nat) (w : World) (_ : B ≤ w.heap.size) (hl : Reads w B 1 A3 l.length (l.map Value.bool)) (hr : Row w g 64 [.slice A3 l.length c3]) (hi : i < l.length) :
    Calls Try.prog 72 #[.int .i64 (i : Int), .pointer (some ⟨g, 0, none⟩)] w fun e w' => e = .returned (.bool (ldF l i)) ∧ Below w.heap.size w w' := by
  obtain ⟨b3, o3, rfl, hb3, d0⟩ := hl.atB hi
  have hd : Hid (l[i]?.getD false = ldF l i) := rfl
  rw [hd.out] at d0
  have hil : (i : Int) < (l.length : Int) := by omega
  have hi0 : (0 : Int) ≤ (i : Int) := by omega
  have hnil : ¬ l = [] := by intro e; rw [e] at hi; simp at hi
  have q0 : w.cell? ⟨g, 0, none⟩ = some (.slice (some ⟨b3, o3, none⟩) l.length c3) := hr.cell (j := 0) (by simp)
  go_enter Try.func72, Try.ntmps72
  go_wp2_with fail
  go_ret
  exact ⟨rfl, Below.refl _ _⟩

theorem allB_one (x lo hi : Int) : allB [x] lo hi = inB x lo hi := by simp [allB]
set_option maxRecDepth 100000 in
set_option maxHeartbeats 2000000 in
theorem Moment_any (r : RigZ) (R : RigR) (B : Nat) (l : List Bool) (A3 : Option Addr) (c3 : Nat) (ph line : Int) (w : World) (hB : B ≤ w.heap.size) (hR : RigIn w B r R) (hl : Reads w B 1 A3 l.length (l.map Value.bool)) (hln : l.length ≤ maxLen) :
    Calls Try.prog 37 #[rigV r R, .slice A3 l.length c3, .int .i64 ph, .int .i64 line] w (MoPost w r l ph line) := by
  obtain ⟨W, hW⟩ : ∃ W, W = (w.alloc (.cells (rigCells r R).toArray 57)).alloc (.cells #[.slice A3 l.length c3] 64) := ⟨_, rfl⟩
  have bW : Below w.heap.size w W := by subst hW; exact ((Below.refl _ _).alloc (Nat.le_refl _) _).alloc (by simp) _
  have r0 : Row W w.heap.size 57 (rigCells r R) := by subst hW; exact (Row.new w _ (rigCells r R).toArray).alloc _
  have s0 : Row W (w.heap.size + 1) 64 [.slice A3 l.length c3] := by
    subst hW
    have h := Row.new (w.alloc (.cells (rigCells r R).toArray 57)) 64 #[.slice A3 l.length c3]
    rw [World.size_alloc] at h
    exact h
  have HM := Lib.hid (measure_any r R B W (Nat.le_trans hB bW.size) (hR.below (bW.mono hB)))
  have HR := Lib.hid hR
  have Hl := Lib.hid hl
  have Hln := Lib.hid hln
  have HBw := Lib.hid hB
  have z0 := r0.lt
  have z1 := s0.lt
  clear hl hln hR hB
  unfold rigV at HM ⊢
  unfold rigCells at r0 hW
  obtain ⟨_, q0, q1, q2, q3, q4, q5, q6, q7⟩ := Row.at_8 r0
  go_enter Try.func37, Try.ntmps37
  go_wp2_with fail
  rw [← hW]
  clear hW
  refine HM.out.mono ?_
  rintro e w1 ⟨hb1, ⟨h1, rfl⟩ | ⟨h1, g, hg, hL, rfl⟩⟩
  · have b1 := bW.trans (hb1.mono bW.size)
    unfold gZeros
    go_wp2_with fail
    go_ret2
    exact ⟨ret_mo (momS_no _ _ _ h1), b1.alloc b1.size _⟩
  · have b1 := bW.trans (hb1.mono bW.size)
    have s1 := s0.below hb1 z1
    have zs1 := s1.lt
    obtain ⟨V, hV⟩ : ∃ V, V = w1.alloc (.cells (gCells r R g (phZ r)).toArray 101) := ⟨_, rfl⟩
    have bV1 : Below w1.heap.size w1 V := by subst hV; exact (Below.refl _ _).alloc (Nat.le_refl _) _
    have bV := b1.trans (bV1.mono b1.size)
    have gV : Row V w1.heap.size 101 (gCells r R g (phZ r)) := by subst hV; exact Row.new w1 _ (gCells r R g (phZ r)).toArray
    have sV := s1.below bV1 zs1
    have lV := hL.keep (bV1.block g hL.lt)
    have zsV := sV.lt
    have zgV := gV.lt
    have zlV := lV.lt
    have hpb := phZ_bd h1
    have hf8 : 3 ≤ r.feet.length ∧ r.feet.length ≤ 8 := ⟨(rigB_parts h1).2.2.1.1, (rigB_parts h1).2.2.1.2.1⟩
    have hs20 := (rigB_parts h1).1
    have H1 := Lib.hid h1
    have HZ : Hid (¬ (l.length = r.seats.length ∧ inB ph 0 ((phZ r : Int) - 1) = true ∧ inB line 0 ((r.feet.length : Int) - 1) = true) → momS r l ph line = (0, 1)) := fun h => momS_arg H1.out h
    have HMo : Hid (∀ X (p k : Nat), Below V.heap.size V X → l.length = r.seats.length → p < phZ r → k < r.feet.length → Calls Try.prog 71 #[gRigV r R g (phZ r), .int .i64 (p : Int), .int .i64 (k : Int), .func (.func 72) #[] #[.pointer (some ⟨w.heap.size + 1, 0, none⟩)]] X fun e w' => e = .returned (.int .i64 (momZ r (ldF l) p k)) ∧ Below X.heap.size X w') := fun X p k hX hlen hp hk =>
      moment_any r R B g (phZ r) p k X _ _ (ldF l) (by have := HBw.out; have := bV.size; have := hX.size; omega) ((HR.out.below (bV.mono HBw.out)).below (hX.mono (by have := HBw.out; have := bV.size; omega))) H1.out (lV.keep (hX.block g zlV)) hk hp (fun a w => rfl) (fun i x hi hx => by
        have bx : Below V.heap.size V x := below_step hX hx
        exact full_any l A3 c3 (w.heap.size + 1) B i x (by have := HBw.out; have := bV.size; have := bx.size; omega) ((Hl.out.below (bV.mono HBw.out)).below (bx.mono (by have := HBw.out; have := bV.size; omega))) (sV.below bx zsV) (by omega))
    clear h1 hL q0 q1 q2 q3 q4 q5 q6 q7 r0 s0 s1 z0 z1 hb1 bV1 bW b1
    unfold gRigV at HMo ⊢
    unfold gCells at hV gV
    obtain ⟨P, hP⟩ : ∃ P, P = phZ r := ⟨_, rfl⟩
    rw [← hP] at hpb HMo HZ hV gV ⊢
    have HPp := Lib.hid hP
    clear hP
    have y0 : V.cell? ⟨w.heap.size + 1, 0, none⟩ = some (.slice A3 l.length c3) := sV.cell (j := 0) (by simp)
    obtain ⟨_, q0, q1, q2, q3, q4, q5, q6, q7, q8, q9⟩ := Row.at_10 gV
    have eP : IntKind.i64.wrap ((P : Int) - 1) = (P : Int) - 1 := IntWalk.i64_in _ (by omega)
    have eF : IntKind.i64.wrap ((r.feet.length : Int) - 1) = (r.feet.length : Int) - 1 := IntWalk.i64_in _ (by omega)
    have hnf : ¬ r.feet = [] := by intro e; rw [e] at hf8; simp at hf8
    go_upto_region 2 with (fail)
    rw [← hV]
    clear hV
    by_cases hlen : l.length = r.seats.length
    case neg =>
      have hne : ((l.length : Int) != (r.seats.length : Int)) = true := by rw [bne_iff_ne]; omega
      have HE := Lib.hid (HZ.out fun h => hlen h.1)
      clear hlen
      go_wp2_with fail
      go_ret2
      exact ⟨ret_mo HE.out, bV⟩
    have heq : ((l.length : Int) != (r.seats.length : Int)) = false := by rw [bne_eq_false_iff_eq]; omega
    have Hlen := Lib.hid hlen
    clear hlen
    go_wp2_with fail
    refine (allWithin_new [ph] _ (by rfl) _ _ rfl (by simp) _ _ _ _ _ rfl).mono ?_
    rintro e w' ⟨rfl, rfl⟩
    rw [allB_one]
    obtain ⟨X, hX⟩ : ∃ X, X = V.alloc (.cells #[.int .i64 ph] 3) := ⟨_, rfl⟩
    rw [← hX]
    have bX : Below V.heap.size V X := by subst hX; exact (Below.refl _ _).alloc (Nat.le_refl _) _
    clear hX
    obtain ⟨_, q0, q1, q2, q3, q4, q5, q6, q7, q8, q9⟩ := Row.at_10 (gV.below bX zgV)
    cases h2 : inB ph 0 ((P : Int) - 1) with
    | false =>
      have HE := Lib.hid (HZ.out fun h => by rw [h2] at h; exact absurd h.2.1 (by simp))
      go_wp2_with fail
      go_ret2
      exact ⟨ret_mo HE.out, bV.trans (bX.mono bV.size)⟩
    | true =>
      have i2 := inB_iff.1 h2
      obtain ⟨p, rfl⟩ : ∃ p : Nat, ph = (p : Int) := ⟨ph.toNat, by omega⟩
      clear h2
      go_wp2_with fail
      refine (allWithin_new [line] _ (by rfl) _ _ rfl (by simp) _ _ _ _ _ rfl).mono ?_
      rintro e w' ⟨rfl, rfl⟩
      rw [allB_one]
      obtain ⟨Y, hY⟩ : ∃ Y, Y = X.alloc (.cells #[.int .i64 line] 3) := ⟨_, rfl⟩
      rw [← hY]
      have bY : Below V.heap.size V Y := by subst hY; exact bX.alloc bX.size _
      clear hY
      obtain ⟨_, q0, q1, q2, q3, q4, q5, q6, q7, q8, q9⟩ := Row.at_10 (gV.below bY zgV)
      cases h3 : inB line 0 ((r.feet.length : Int) - 1) with
      | false =>
        have HE := Lib.hid (HZ.out fun h => by rw [h3] at h; exact absurd h.2.2 (by simp))
        go_wp2_with fail
        go_ret2
        exact ⟨ret_mo HE.out, bV.trans (bY.mono bV.size)⟩
      | true =>
        have i3 := inB_iff.1 h3
        obtain ⟨k, rfl⟩ : ∃ k : Nat, line = (k : Int) := ⟨line.toNat, by omega⟩
        clear h3
        go_wp2_with fail
        refine (HMo.out Y p k bY Hlen.out (by omega) (by omega)).mono ?_
        rintro e w3 ⟨rfl, hb3⟩
        go_wp2_with fail
        go_ret2
        exact ⟨ret_mo (momS_ok H1.out Hlen.out (by have := HPp.out; omega) (by omega)), bV.trans ((below_step bY hb3).mono bV.size)⟩
end Go.Proofs.Ytkmiapfkebdpbaa
