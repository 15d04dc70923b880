/- Contracts of the specification's CheckLimit, checked, step, side and Kept. Conditions: a path reads as points; points that are felt, a valid limit. -/
import Derived.Test.YtkmiapfkebdpbaaLe
import Derived.Test.YtkmiapfkebdpbaaKf
namespace Go.Proofs.Ytkmiapfkebdpbaa
open Go.RowKit

def limitE (x : Lim) : Int := if limB x = false then 32 else 0
theorem limB_eq (x : Lim) : limB x = (inB x.side 0 200000 && (inB x.low (-200000) 200000 && inB x.high x.low 200000)) := by
  rw [Bool.eq_iff_iff, limB_iff]
  simp only [inB, Bool.and_eq_true, decide_eq_true_eq]
  omega
set_option maxHeartbeats 1000000 in
theorem CheckLimit_any (x : Lim) (w : World) : Calls Try.prog 83 #[limV x] w fun e w' => e = .returned (.int .i64 (limitE x)) ∧ Below w.heap.size w w' := by
  have hb : Below w.heap.size w (w.alloc (.cells #[.int .i64 x.side, .int .i64 x.low, .int .i64 x.high] 37)) := (Below.refl _ _).alloc (Nat.le_refl _) _
  have He : Hid (limitE x = if (inB x.side 0 200000 && (inB x.low (-200000) 200000 && inB x.high x.low 200000)) = false then 32 else 0) := by show _ = _; rw [← limB_eq]; rfl
  unfold limV
  go_enter Try.func83, Try.ntmps83
  go_wp2_with fail
  refine (from_any _ _ _ _).mono ?_
  rintro e w' ⟨rfl, rfl⟩
  cases h1 : inB x.side 0 200000 with
  | false =>
    go_wp2_with fail
    go_ret
    exact ⟨ret_int (by rw [He.out, h1]; rfl), hb⟩
  | true =>
    go_wp2_with fail
    refine (from_any _ _ _ _).mono ?_
    rintro e w' ⟨rfl, rfl⟩
    cases h2 : inB x.low (-200000) 200000 with
    | false =>
      go_wp2_with fail
      go_ret
      exact ⟨ret_int (by rw [He.out, h1, h2]; rfl), hb⟩
    | true =>
      go_wp2_with fail
      refine (from_any _ _ _ _).mono ?_
      rintro e w' ⟨rfl, rfl⟩
      cases h3 : inB x.high x.low 200000 with
      | false =>
        go_wp2_with fail
        go_ret
        exact ⟨ret_int (by rw [He.out, h1, h2, h3]; rfl), hb⟩
      | true =>
        go_wp2_with fail
        go_ret
        exact ⟨ret_int (by rw [He.out, h1, h2, h3]; rfl), hb⟩
set_option maxHeartbeats 1000000 in
theorem checked_any (t : List Pt) (m : Mot) (x : Lim) (A : Option Addr) (c B : Nat) (w : World) (hB : B ≤ w.heap.size) (hr : Reads w B 3 A t.length (ptCells t)) (hn : t.length ≤ maxLen) :
    Calls Try.prog 55 #[.slice A t.length c, motV m, limV x] w fun e w' => e = .returned (.int .i64 (limE t m x)) ∧ Below w.heap.size w w' := by
  obtain ⟨W, hW⟩ : ∃ W, W = (w.alloc (.cells #[.int .i64 m.top, .int .i64 m.ease, .int .i64 m.jerk] 35)).alloc (.cells #[.int .i64 x.side, .int .i64 x.low, .int .i64 x.high] 37) := ⟨_, rfl⟩
  have bW : Below w.heap.size w W := by subst hW; exact ((Below.refl _ _).alloc (Nat.le_refl _) _).alloc (by simp) _
  have r0 : Row W w.heap.size 35 [.int .i64 m.top, .int .i64 m.ease, .int .i64 m.jerk] := by subst hW; exact (Row.new w _ _).alloc _
  have r1 : Row W (w.heap.size + 1) 37 [.int .i64 x.side, .int .i64 x.low, .int .i64 x.high] := by
    subst hW
    have h := Row.new (w.alloc (.cells #[.int .i64 m.top, .int .i64 m.ease, .int .i64 m.jerk] 35)) 37 #[.int .i64 x.side, .int .i64 x.low, .int .i64 x.high]
    simpa only [World.size_alloc] using h
  unfold motV limV
  go_enter Try.func55, Try.ntmps55
  go_wp2_with fail
  rw [← hW]
  clear hW
  refine (CheckPath_any t A _ c B W (Nat.le_trans hB bW.size) (hr.below (bW.mono hB)) hn).mono ?_
  rintro e w1 ⟨rfl, hb1⟩
  have b1 := bW.trans (hb1.mono bW.size)
  have s0 := r0.below hb1 r0.lt
  have s1 := r1.below hb1 r1.lt
  obtain ⟨_, u0, u1, u2⟩ := Row.at_3 s0
  have z0 := s0.lt
  have HS : Hid (limE t m x = if pathB t = false then 30 else if motB m = false then 31 else if limB x = false then 32 else 0) := by
    show _ = _
    unfold limE motionE
    cases pathB t <;> cases motB m <;> simp
  cases hp : pathB t with
  | false =>
    rw [show pathE t = 30 from by unfold pathE; rw [hp]; rfl]
    go_wp2_with fail
    go_ret
    exact ⟨ret_int (by rw [HS.out, hp]; rfl), b1⟩
  | true =>
    rw [show pathE t = 0 from by unfold pathE; rw [hp]; rfl]
    have hm := CheckMotor_any m w1
    unfold motV at hm
    go_wp2_with fail
    refine hm.mono ?_
    rintro e w2 ⟨rfl, hb2⟩
    have b2 := b1.trans (hb2.mono b1.size)
    have s2 := s1.below hb2 s1.lt
    obtain ⟨_, v0, v1, v2⟩ := Row.at_3 s2
    have z2 := s2.lt
    cases hmo : motB m with
    | false =>
      rw [show motE m = 31 from by unfold motE; rw [hmo]; rfl]
      go_wp2_with fail
      go_ret
      exact ⟨ret_int (by rw [HS.out, hp, hmo]; rfl), b2⟩
    | true =>
      rw [show motE m = 0 from by unfold motE; rw [hmo]; rfl]
      have hl := CheckLimit_any x w2
      unfold limV at hl
      go_wp2_with fail
      refine hl.mono ?_
      rintro e w3 ⟨rfl, hb3⟩
      go_wp2_with fail
      go_ret
      exact ⟨ret_int (by rw [HS.out, hp, hmo]; rfl), b2.trans (hb3.mono b2.size)⟩
theorem step_any (m : Mot) (fails : Bool) (w : World) : Calls Try.prog 60 #[motV m, .bool fails] w fun e w' => e = .returned (.int .i64 (if fails = true then m.jerk else m.ease)) ∧ Below w.heap.size w w' := by
  have hb : Below w.heap.size w (w.alloc (.cells #[.int .i64 m.top, .int .i64 m.ease, .int .i64 m.jerk] 35)) := (Below.refl _ _).alloc (Nat.le_refl _) _
  unfold motV
  go_enter Try.func60, Try.ntmps60
  cases fails with
  | false =>
    go_wp2_with fail
    go_ret
    exact ⟨rfl, hb⟩
  | true =>
    go_wp2_with fail
    go_ret
    exact ⟨rfl, hb⟩
set_option maxHeartbeats 1000000 in
theorem rside_any (z : Int) (p : Pt) (hz : z = sideZ p) (hp : feltB p = true) (w : World) :
    Calls Try.prog 61 #[ptV p] w fun e w' => e = .returned (.int .i64 z) ∧ Below w.heap.size w w' := by
  subst hz
  have hb := (feltB_iff p).1 hp
  have a := sq_bd (b := 40000) hb.1.1 hb.1.2
  have b := sq_bd (b := 40000) hb.2.1 hb.2.2
  obtain ⟨px, py, pz⟩ := p
  dsimp only at *
  obtain ⟨xx, hx⟩ : ∃ xx, xx = px * px := ⟨_, rfl⟩
  obtain ⟨yy, hy⟩ : ∃ yy, yy = py * py := ⟨_, rfl⟩
  have Hs : Hid (sideZ ⟨px, py, pz⟩ = xx + yy) := by show _ = _; rw [hx, hy]; rfl
  rw [← hx] at a
  rw [← hy] at b
  have e1 : IntKind.i64.wrap (px * px) = xx := by rw [← hx]; exact IntWalk.i64_in _ (by omega)
  have e2 : IntKind.i64.wrap (py * py) = yy := by rw [← hy]; exact IntWalk.i64_in _ (by omega)
  have e3 : IntKind.i64.wrap (xx + yy) = xx + yy := IntWalk.i64_in _ (by omega)
  clear hx hy a b hb hp
  unfold ptV
  dsimp only
  go_enter Try.func61, Try.ntmps61
  go_wp2_with fail
  go_ret
  exact ⟨ret_int (by rw [Hs.out]), (Below.refl _ _).alloc (Nat.le_refl _) _⟩
theorem keptB_eq (x : Lim) (p : Pt) : keptB x p = (decide (sideZ p ≤ x.side * x.side) && inB p.z x.low x.high) := by simp only [keptB, inB, Bool.and_assoc]

set_option maxRecDepth 100000 in
set_option maxHeartbeats 4000000 in
theorem Kept_any (x : Lim) (p : Pt) (hx : limB x = true) (hp : feltB p = true) (w : World) :
    Calls Try.prog 64 #[ptV p, limV x] w fun e w' => e = .returned (.bool (keptB x p)) ∧ Below w.heap.size w w' := by
  have hx' := (limB_iff x).1 hx
  have a := sq_bd (b := 200000) (a := x.side) (by omega) (by omega)
  obtain ⟨ss, hs⟩ : ∃ ss, ss = x.side * x.side := ⟨_, rfl⟩
  rw [← hs] at a
  have e1 : IntKind.i64.wrap (x.side * x.side) = ss := by rw [← hs]; exact IntWalk.i64_in _ (by omega)
  obtain ⟨z, hz⟩ : ∃ z, z = sideZ p := ⟨_, rfl⟩
  have HK : Hid (keptB x p = (decide (z ≤ ss) && inB p.z x.low x.high)) := by show _ = _; rw [keptB_eq, hs, hz]
  have Hz := Lib.hid hz
  clear hs a hx' hz hx
  obtain ⟨W, hW⟩ : ∃ W, W = (w.alloc (.cells #[.int .i64 p.x, .int .i64 p.y, .int .i64 p.z] 28)).alloc (.cells #[.int .i64 x.side, .int .i64 x.low, .int .i64 x.high] 37) := ⟨_, rfl⟩
  have bW : Below w.heap.size w W := by subst hW; exact ((Below.refl _ _).alloc (Nat.le_refl _) _).alloc (by simp) _
  have r0 : Row W w.heap.size 28 [.int .i64 p.x, .int .i64 p.y, .int .i64 p.z] := by subst hW; exact (Row.new w _ _).alloc _
  have r1 : Row W (w.heap.size + 1) 37 [.int .i64 x.side, .int .i64 x.low, .int .i64 x.high] := by
    subst hW
    have h := Row.new (w.alloc (.cells #[.int .i64 p.x, .int .i64 p.y, .int .i64 p.z] 28)) 37 #[.int .i64 x.side, .int .i64 x.low, .int .i64 x.high]
    simpa only [World.size_alloc] using h
  obtain ⟨_, u0, u1, u2⟩ := Row.at_3 r0
  obtain ⟨_, v0, v1, v2⟩ := Row.at_3 r1
  have z0 := r0.lt
  have z1 := r1.lt
  unfold limV ptV
  go_enter Try.func64, Try.ntmps64
  go_upto_region 1 with (fail)
  rw [← hW]
  clear hW
  have S0 : (fun y : World => y.cell? ⟨w.heap.size, 0, none⟩ = some (.int .i64 p.x) ∧ y.cell? ⟨w.heap.size, 1, none⟩ = some (.int .i64 p.y) ∧ y.cell? ⟨w.heap.size, 2, none⟩ = some (.int .i64 p.z) ∧ y.cell? ⟨w.heap.size + 1, 0, none⟩ = some (.int .i64 x.side) ∧ y.cell? ⟨w.heap.size + 1, 1, none⟩ = some (.int .i64 x.low) ∧ y.cell? ⟨w.heap.size + 1, 2, none⟩ = some (.int .i64 x.high)) W.drew := ⟨u0, u1, u2, v0, v1, v2⟩
  refine wp_region_held_drew (S := fun y : World => y.cell? ⟨w.heap.size, 0, none⟩ = some (.int .i64 p.x) ∧ y.cell? ⟨w.heap.size, 1, none⟩ = some (.int .i64 p.y) ∧ y.cell? ⟨w.heap.size, 2, none⟩ = some (.int .i64 p.z) ∧ y.cell? ⟨w.heap.size + 1, 0, none⟩ = some (.int .i64 x.side) ∧ y.cell? ⟨w.heap.size + 1, 1, none⟩ = some (.int .i64 x.low) ∧ y.cell? ⟨w.heap.size + 1, 2, none⟩ = some (.int .i64 x.high)) (by kernel_rfl) S0 (fun hS => ?_)
  refine wpAnyH_take (i := 0) (oi := ⟨some 5, _, _, _, _, _⟩) (v := ?tkva0) rfl (by kernel_rfl) (by kernel_rfl) (by kernel_rfl) (fun _ _ _ h => h) (Or.inl ⟨by rfl, ?tkya0⟩) (by assumption) ?tkra0
  case tkya0 => (intro x hx; obtain ⟨hx0, hx1, hx2, hx3, hx4, hx5⟩ := hx; go_simp; try with_reducible rfl)
  case tkra0 =>
  simp only [Act.put, List.setIfInBounds_toArray, List.set_cons_zero, List.set_cons_succ]
  refine wpAnyH_take (i := 2) (oi := ⟨some 7, _, _, _, _, _⟩) (v := ?tkva2) rfl (by kernel_rfl) (by kernel_rfl) (by kernel_rfl) (fun _ _ _ h => h) (Or.inl ⟨by rfl, ?tkya2⟩) (by assumption) ?tkra2
  case tkya2 => (intro x hx; obtain ⟨hx0, hx1, hx2, hx3, hx4, hx5⟩ := hx; go_simp; try with_reducible rfl)
  case tkra2 =>
  simp only [Act.put, List.setIfInBounds_toArray, List.set_cons_zero, List.set_cons_succ]
  refine wpAnyH_take (i := 3) (oi := ⟨some 8, _, _, _, _, _⟩) (v := ?tkva3) rfl (by kernel_rfl) (by kernel_rfl) (by kernel_rfl) (fun _ _ _ h => h) (Or.inl ⟨by rfl, ?tkya3⟩) (by assumption) ?tkra3
  case tkya3 => (intro x hx; obtain ⟨hx0, hx1, hx2, hx3, hx4, hx5⟩ := hx; go_simp; try with_reducible rfl)
  case tkra3 =>
  simp only [Act.put, List.setIfInBounds_toArray, List.set_cons_zero, List.set_cons_succ]
  refine wpAnyH_take (i := 4) (oi := ⟨some 9, _, _, _, _, _⟩) (v := ?tkva4) rfl (by kernel_rfl) (by kernel_rfl) (by kernel_rfl) (fun _ _ _ h => h) (Or.inl ⟨by rfl, ?tkya4⟩) (by assumption) ?tkra4
  case tkya4 => (intro x hx; obtain ⟨hx0, hx1, hx2, hx3, hx4, hx5⟩ := hx; go_simp; try with_reducible rfl)
  case tkra4 =>
  simp only [Act.put, List.setIfInBounds_toArray, List.set_cons_zero, List.set_cons_succ]
  refine wpAnyH_take (i := 5) (oi := ⟨some 10, _, _, _, _, _⟩) (v := ?tkva5) rfl (by kernel_rfl) (by kernel_rfl) (by kernel_rfl) (fun _ _ _ h => h) (Or.inl ⟨by rfl, ?tkya5⟩) (by assumption) ?tkra5
  case tkya5 => (intro x hx; obtain ⟨hx0, hx1, hx2, hx3, hx4, hx5⟩ := hx; go_simp; try with_reducible rfl)
  case tkra5 =>
  simp only [Act.put, List.setIfInBounds_toArray, List.set_cons_zero, List.set_cons_succ]
  refine wpAnyH_take (i := 6) (oi := ⟨some 11, _, _, _, _, _⟩) (v := ?tkva6) rfl (by kernel_rfl) (by kernel_rfl) (by kernel_rfl) (fun _ _ _ h => h) (Or.inl ⟨by rfl, ?tkya6⟩) (by assumption) ?tkra6
  case tkya6 => (intro x hx; obtain ⟨hx0, hx1, hx2, hx3, hx4, hx5⟩ := hx; go_simp; try with_reducible rfl)
  case tkra6 =>
  simp only [Act.put, List.setIfInBounds_toArray, List.set_cons_zero, List.set_cons_succ]
  refine wpAnyH_ready (rs := [1]) (by kernel_rfl) (by simp) ?_
  refine AllReadyH.cons (o := ⟨some 6, _, _, _, _, _⟩) rfl (fun K hK => ?_) AllReadyH.nil
  go_wp2_with (go_at_call 61; refine (rside_any z p Hz.out hp _).mono ?_; rintro e y1 ⟨rfl, hb1⟩)
  have rP1 := r0.drew.below hb1 z0
  have rL1 := r1.drew.below hb1 z1
  obtain ⟨_, u0, u1, u2⟩ := Row.at_3 rP1
  obtain ⟨_, v0, v1, v2⟩ := Row.at_3 rL1
  refine hK.out _ _ (⟨u0, u1, u2, v0, v1, v2⟩) (fun hHeld => ?_)
  refine wpAnyH_take (i := 7) (oi := ⟨some 12, _, _, _, _, _⟩) (v := ?tkva7) rfl (by kernel_rfl) (by kernel_rfl) (by kernel_rfl) (fun _ _ _ h => h) (Or.inl ⟨by rfl, ?tkya7⟩) (by assumption) ?tkra7
  case tkya7 => (intro x hx; obtain ⟨hx0, hx1, hx2, hx3, hx4, hx5⟩ := hx; go_simp; try with_reducible rfl)
  case tkra7 =>
  simp only [Act.put, List.setIfInBounds_toArray, List.set_cons_zero, List.set_cons_succ]
  have hyb := below_drewN_out' hb1
  by_cases hc : z ≤ ss
  · have hd : decide (z ≤ ss) = true := by simpa using hc
    simp only [hd]
    refine wpAnyH_take (i := 8) (oi := ⟨some 13, _, _, _, _, _⟩) (v := ?tkvb8) rfl (by kernel_rfl) (by kernel_rfl) (by kernel_rfl) (fun _ _ _ h => h) (Or.inl ⟨by rfl, ?tkyb8⟩) (by assumption) ?tkrb8
    case tkyb8 => (intro x hx; obtain ⟨hx0, hx1, hx2, hx3, hx4, hx5⟩ := hx; go_simp; try with_reducible rfl)
    case tkrb8 =>
    simp only [Act.put, List.setIfInBounds_toArray, List.set_cons_zero, List.set_cons_succ]
    refine wpAnyH_take (i := 9) (oi := ⟨some 14, _, _, _, _, _⟩) (v := ?tkvb9) rfl (by kernel_rfl) (by kernel_rfl) (by kernel_rfl) (fun _ _ _ h => h) (Or.inl ⟨by rfl, ?tkyb9⟩) (by assumption) ?tkrb9
    case tkyb9 => (intro x hx; obtain ⟨hx0, hx1, hx2, hx3, hx4, hx5⟩ := hx; go_simp; try with_reducible rfl)
    case tkrb9 =>
    simp only [Act.put, List.setIfInBounds_toArray, List.set_cons_zero, List.set_cons_succ]
    refine wpAnyH_take (i := 10) (oi := ⟨some 15, _, _, _, _, _⟩) (v := ?tkvb10) rfl (by kernel_rfl) (by kernel_rfl) (by kernel_rfl) (fun _ _ _ h => h) (Or.inl ⟨by rfl, ?tkyb10⟩) (by assumption) ?tkrb10
    case tkyb10 => (intro x hx; obtain ⟨hx0, hx1, hx2, hx3, hx4, hx5⟩ := hx; go_simp; try with_reducible rfl)
    case tkrb10 =>
    simp only [Act.put, List.setIfInBounds_toArray, List.set_cons_zero, List.set_cons_succ]
    refine wpAnyH_take (i := 11) (oi := ⟨some 16, _, _, _, _, _⟩) (v := ?tkvb11) rfl (by kernel_rfl) (by kernel_rfl) (by kernel_rfl) (fun _ _ _ h => h) (Or.inl ⟨by rfl, ?tkyb11⟩) (by assumption) ?tkrb11
    case tkyb11 => (intro x hx; obtain ⟨hx0, hx1, hx2, hx3, hx4, hx5⟩ := hx; go_simp; try with_reducible rfl)
    case tkrb11 =>
    simp only [Act.put, List.setIfInBounds_toArray, List.set_cons_zero, List.set_cons_succ]
    refine wpAnyH_take (i := 12) (oi := ⟨some 17, _, _, _, _, _⟩) (v := ?tkvb12) rfl (by kernel_rfl) (by kernel_rfl) (by kernel_rfl) (fun _ _ _ h => h) (Or.inl ⟨by rfl, ?tkyb12⟩) (by assumption) ?tkrb12
    case tkyb12 => (intro x hx; obtain ⟨hx0, hx1, hx2, hx3, hx4, hx5⟩ := hx; go_simp; try with_reducible rfl)
    case tkrb12 =>
    simp only [Act.put, List.setIfInBounds_toArray, List.set_cons_zero, List.set_cons_succ]
    refine wpAnyH_take (i := 13) (oi := ⟨some 18, _, _, _, _, _⟩) (v := ?tkvb13) rfl (by kernel_rfl) (by kernel_rfl) (by kernel_rfl) (fun _ _ _ h => h) (Or.inl ⟨by rfl, ?tkyb13⟩) (by assumption) ?tkrb13
    case tkyb13 => (intro x hx; obtain ⟨hx0, hx1, hx2, hx3, hx4, hx5⟩ := hx; go_simp; try with_reducible rfl)
    case tkrb13 =>
    simp only [Act.put, List.setIfInBounds_toArray, List.set_cons_zero, List.set_cons_succ]
    refine wpAnyH_take (i := 14) (oi := ⟨some 19, _, _, _, _, _⟩) (v := ?tkvb14) rfl (by kernel_rfl) (by kernel_rfl) (by kernel_rfl) (fun _ _ _ h => h) (Or.inl ⟨by rfl, ?tkyb14⟩) (by assumption) ?tkrb14
    case tkyb14 => (intro x hx; obtain ⟨hx0, hx1, hx2, hx3, hx4, hx5⟩ := hx; go_simp; try with_reducible rfl)
    case tkrb14 =>
    simp only [Act.put, List.setIfInBounds_toArray, List.set_cons_zero, List.set_cons_succ]
    refine wpAnyH_ready (rs := [15]) (by kernel_rfl) (by simp) ?_
    refine AllReadyH.cons (o := ⟨some 20, _, _, _, _, _⟩) rfl (fun K hK => ?_) AllReadyH.nil
    rw [if_pos (show Region.wanted _ _ = true from by kernel_rfl)]
    go_wp2_with (go_at_call 50; refine (from_any _ _ _ _).mono ?_; rintro e y2 ⟨rfl, rfl⟩)
    refine hK.out _ _ (by assumption) (fun hHeld => ?_)
    refine wpAnyH_take (i := 16) (oi := ⟨some 21, _, _, _, _, _⟩) (v := ?tkvb16) rfl (by kernel_rfl) (by kernel_rfl) (by kernel_rfl) (fun _ _ _ h => h) (Or.inl ⟨by rfl, ?tkyb16⟩) (by assumption) ?tkrb16
    case tkyb16 => (intro x hx; obtain ⟨hx0, hx1, hx2, hx3, hx4, hx5⟩ := hx; go_simp; try with_reducible rfl)
    case tkrb16 =>
    simp only [Act.put, List.setIfInBounds_toArray, List.set_cons_zero, List.set_cons_succ]
    refine wpAnyH_take (i := 17) (oi := ⟨some 4, _, _, _, _, _⟩) (v := ?tkvb17) rfl (by kernel_rfl) (by kernel_rfl) (by kernel_rfl) (fun _ _ _ h => h) (Or.inl ⟨by rfl, ?tkyb17⟩) (by assumption) ?tkrb17
    case tkyb17 => (intro x hx; obtain ⟨hx0, hx1, hx2, hx3, hx4, hx5⟩ := hx; go_simp; try with_reducible rfl)
    case tkrb17 =>
    simp only [Act.put, List.setIfInBounds_toArray, List.set_cons_zero, List.set_cons_succ]
    refine wpAnyH_done (by kernel_rfl) ?_ _
    go_wp2_with fail
    go_ret
    refine ⟨ret_bool ?_, bW.trans (hyb.mono bW.size)⟩
    rw [HK.out, hd]
    simp
  · have hd : decide (z ≤ ss) = false := by simpa using hc
    simp only [hd]
    refine wpAnyH_take (i := 8) (oi := ⟨some 13, _, _, _, _, _⟩) (v := ?tkvc8) rfl (by kernel_rfl) (by kernel_rfl) (by kernel_rfl) (fun _ _ _ h => h) (Or.inl ⟨by rfl, ?tkyc8⟩) (by assumption) ?tkrc8
    case tkyc8 => (intro x hx; obtain ⟨hx0, hx1, hx2, hx3, hx4, hx5⟩ := hx; go_simp; try with_reducible rfl)
    case tkrc8 =>
    simp only [Act.put, List.setIfInBounds_toArray, List.set_cons_zero, List.set_cons_succ]
    refine wpAnyH_take (i := 9) (oi := ⟨some 14, _, _, _, _, _⟩) (v := undef) rfl (by kernel_rfl) (by kernel_rfl) (by kernel_rfl) (fun _ _ _ h => h) (Or.inr ⟨by rfl, rfl⟩) (by assumption) ?_
    simp only [Act.put, List.setIfInBounds_toArray, List.set_cons_zero, List.set_cons_succ]
    refine wpAnyH_take (i := 10) (oi := ⟨some 15, _, _, _, _, _⟩) (v := undef) rfl (by kernel_rfl) (by kernel_rfl) (by kernel_rfl) (fun _ _ _ h => h) (Or.inr ⟨by rfl, rfl⟩) (by assumption) ?_
    simp only [Act.put, List.setIfInBounds_toArray, List.set_cons_zero, List.set_cons_succ]
    refine wpAnyH_take (i := 11) (oi := ⟨some 16, _, _, _, _, _⟩) (v := undef) rfl (by kernel_rfl) (by kernel_rfl) (by kernel_rfl) (fun _ _ _ h => h) (Or.inr ⟨by rfl, rfl⟩) (by assumption) ?_
    simp only [Act.put, List.setIfInBounds_toArray, List.set_cons_zero, List.set_cons_succ]
    refine wpAnyH_take (i := 12) (oi := ⟨some 17, _, _, _, _, _⟩) (v := undef) rfl (by kernel_rfl) (by kernel_rfl) (by kernel_rfl) (fun _ _ _ h => h) (Or.inr ⟨by rfl, rfl⟩) (by assumption) ?_
    simp only [Act.put, List.setIfInBounds_toArray, List.set_cons_zero, List.set_cons_succ]
    refine wpAnyH_take (i := 13) (oi := ⟨some 18, _, _, _, _, _⟩) (v := undef) rfl (by kernel_rfl) (by kernel_rfl) (by kernel_rfl) (fun _ _ _ h => h) (Or.inr ⟨by rfl, rfl⟩) (by assumption) ?_
    simp only [Act.put, List.setIfInBounds_toArray, List.set_cons_zero, List.set_cons_succ]
    refine wpAnyH_take (i := 14) (oi := ⟨some 19, _, _, _, _, _⟩) (v := undef) rfl (by kernel_rfl) (by kernel_rfl) (by kernel_rfl) (fun _ _ _ h => h) (Or.inr ⟨by rfl, rfl⟩) (by assumption) ?_
    simp only [Act.put, List.setIfInBounds_toArray, List.set_cons_zero, List.set_cons_succ]
    refine wpAnyH_take (i := 15) (oi := ⟨some 20, _, _, _, _, _⟩) (v := undef) rfl (by kernel_rfl) (by kernel_rfl) (by kernel_rfl) (fun _ _ _ h => h) (Or.inr ⟨by rfl, rfl⟩) (by assumption) ?_
    simp only [Act.put, List.setIfInBounds_toArray, List.set_cons_zero, List.set_cons_succ]
    refine wpAnyH_take (i := 16) (oi := ⟨some 21, _, _, _, _, _⟩) (v := ?tkvc16) rfl (by kernel_rfl) (by kernel_rfl) (by kernel_rfl) (fun _ _ _ h => h) (Or.inl ⟨by rfl, ?tkyc16⟩) (by assumption) ?tkrc16
    case tkyc16 => (intro x hx; obtain ⟨hx0, hx1, hx2, hx3, hx4, hx5⟩ := hx; go_simp; try with_reducible rfl)
    case tkrc16 =>
    simp only [Act.put, List.setIfInBounds_toArray, List.set_cons_zero, List.set_cons_succ]
    refine wpAnyH_take (i := 17) (oi := ⟨some 4, _, _, _, _, _⟩) (v := ?tkvc17) rfl (by kernel_rfl) (by kernel_rfl) (by kernel_rfl) (fun _ _ _ h => h) (Or.inl ⟨by rfl, ?tkyc17⟩) (by assumption) ?tkrc17
    case tkyc17 => (intro x hx; obtain ⟨hx0, hx1, hx2, hx3, hx4, hx5⟩ := hx; go_simp; try with_reducible rfl)
    case tkrc17 =>
    simp only [Act.put, List.setIfInBounds_toArray, List.set_cons_zero, List.set_cons_succ]
    refine wpAnyH_done (by kernel_rfl) ?_ _
    go_wp2_with fail
    go_ret
    refine ⟨ret_bool ?_, bW.trans (hyb.mono bW.size)⟩
    rw [HK.out, hd]
    simp
end Go.Proofs.Ytkmiapfkebdpbaa
