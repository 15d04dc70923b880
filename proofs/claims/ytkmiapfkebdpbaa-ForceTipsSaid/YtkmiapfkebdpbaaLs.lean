/- Contracts of the specification's turn and CheckRig. Conditions: points that are near enough; a rig that reads as data. -/
import Derived.Test.YtkmiapfkebdpbaaLe
import Derived.Test.YtkmiapfkebdpbaaKt
namespace Go.Proofs.Ytkmiapfkebdpbaa
open Go.RowKit

set_option maxHeartbeats 2000000 in
theorem rturn_any (a b p : Pt) (ha : spanB a = true) (hb : spanB b = true) (hp : spanB p = true) (w : World) :
    Calls Try.prog 70 #[ptV a, ptV b, ptV p] w fun e w' => e = .returned (.int .i64 (turnZ a b p)) ∧ Below w.heap.size w w' := by
  have ha := (spanB_iff a).1 ha
  have hb := (spanB_iff b).1 hb
  have hp := (spanB_iff p).1 hp
  obtain ⟨ax, ay, az⟩ := a
  obtain ⟨bx, b_y, bz⟩ := b
  obtain ⟨px, py, pz⟩ := p
  dsimp only at *
  have e1 : IntKind.i64.wrap (bx - ax) = bx - ax := IntWalk.i64_in _ (by omega)
  have e2 : IntKind.i64.wrap (py - ay) = py - ay := IntWalk.i64_in _ (by omega)
  have e3 : IntKind.i64.wrap (b_y - ay) = b_y - ay := IntWalk.i64_in _ (by omega)
  have e4 : IntKind.i64.wrap (px - ax) = px - ax := IntWalk.i64_in _ (by omega)
  have m1 := mul_near (a := bx - ax) (b := py - ay) (M := 20000) (N := 20000) (by omega) (by omega) (by omega) (by omega)
  have m2 := mul_near (a := b_y - ay) (b := px - ax) (M := 20000) (N := 20000) (by omega) (by omega) (by omega) (by omega)
  obtain ⟨u, hu⟩ : ∃ u, u = (bx - ax) * (py - ay) := ⟨_, rfl⟩
  obtain ⟨v, hv⟩ : ∃ v, v = (b_y - ay) * (px - ax) := ⟨_, rfl⟩
  rw [← hu] at m1
  rw [← hv] at m2
  have e5 : IntKind.i64.wrap ((bx - ax) * (py - ay)) = u := by rw [← hu]; exact IntWalk.i64_in _ (by omega)
  have e6 : IntKind.i64.wrap ((b_y - ay) * (px - ax)) = v := by rw [← hv]; exact IntWalk.i64_in _ (by omega)
  have e7 : IntKind.i64.wrap (u - v) = u - v := IntWalk.i64_in _ (by omega)
  have Ht : Hid (turnZ ⟨ax, ay, az⟩ ⟨bx, b_y, bz⟩ ⟨px, py, pz⟩ = u - v) := by show _ = _; rw [hu, hv]; rfl
  clear hu hv m1 m2 ha hb hp
  unfold ptV
  dsimp only
  go_enter Try.func70, Try.ntmps70
  go_wp2_with fail
  go_ret
  exact ⟨ret_int (by rw [Ht.out]), (((Below.refl _ _).alloc (Nat.le_refl _) _).alloc (by simp) _).alloc (by simp; omega) _⟩

theorem all_two {α : Type} (f g : α → Bool) (l : List α) : (l.all fun p => f p && g p) = (l.all f && l.all g) := by
  induction l with
  | nil => rfl
  | cons a l ih =>
    simp only [List.all_cons, ih]
    cases f a <;> cases g a <;> simp
def rigE (r : RigZ) : Int := if rigB r = false then 33 else 0
theorem rturn_at (z : Int) (a b p : Pt) (hz : z = turnZ a b p) (ha : spanB a = true) (hb : spanB b = true) (hp : spanB p = true) (w : World) :
    Calls Try.prog 70 #[ptV a, ptV b, ptV p] w fun e w' => e = .returned (.int .i64 z) ∧ Below w.heap.size w w' := by
  subst hz
  exact rturn_any a b p ha hb hp w
theorem feet_no {r : RigZ} {k j : Nat} (hk : k < r.feet.length) (hj : j < r.feet.length) (h1 : j ≠ k) (h2 : j ≠ (k + 1) % r.feet.length) (hz : armZ r.feet k (ptAt r.feet j) ≤ 0) (h : rigB r = true) : False := by
  have h3 := (rigB_parts h).2.2.1.2.2.2.2
  rw [convex_eq] at h3
  simp only [convexR, List.all_eq_true, List.mem_range, Bool.or_eq_true, decide_eq_true_eq] at h3
  rcases h3 k hk j hj with (h4 | h4) | h4
  · exact h1 h4
  · exact h2 h4
  · omega
theorem rig_yes {r : RigZ} (h1 : r.seats.length ≤ 20) (h2 : seatsB r.seats = true) (h3 : inB (r.feet.length : Int) 3 8 = true) (h4 : r.feet.all spanB = true ∧ groundB r.feet = true) (h5 : ∀ i, i < r.feet.length → ∀ j, j < r.feet.length → j ≠ i → j ≠ (i + 1) % r.feet.length → 0 < armZ r.feet i (ptAt r.feet j))
    (h6 : spanB r.center = true) (h7 : 0 ≤ r.frame ∧ r.frame ≤ 1000000) (h8 : 0 ≤ r.empty ∧ r.empty ≤ r.full) (h9 : r.full ≤ 1000000) : rigE r = 0 := by
  have hc : convexP r.feet = true := by
    rw [convex_eq]
    simp only [convexR, List.all_eq_true, List.mem_range, Bool.or_eq_true, decide_eq_true_eq]
    intro i hi j hj
    by_cases e1 : j = i
    · exact .inl (.inl e1)
    by_cases e2 : j = (i + 1) % r.feet.length
    · exact .inl (.inr e2)
    exact .inr (h5 i hi j hj e1 e2)
  have hb : rigB r = true := by
    simp only [rigB, feetB, allB, List.all_cons, List.all_nil, Bool.and_eq_true, decide_eq_true_eq, inB, and_true] at h3 ⊢
    exact ⟨⟨⟨⟨⟨by omega, h2⟩, ⟨⟨h3, h4.1⟩, h4.2⟩, hc⟩, h6⟩, by omega⟩, by omega⟩
  unfold rigE
  rw [hb]
  rfl
theorem rigE_no {r : RigZ} (h : rigB r = true → False) : rigE r = 33 := by
  unfold rigE
  cases hr : rigB r with
  | false => rfl
  | true => exact (h hr).elim
set_option maxRecDepth 100000 in
set_option maxHeartbeats 4000000 in
theorem rCheckRig_any (r : RigZ) (R : RigR) (B : Nat) (w : World) (hB : B ≤ w.heap.size) (hR : RigIn w B r R) :
    Calls Try.prog 36 #[rigV r R] w fun e w' => e = .returned (.int .i64 (rigE r)) ∧ Below w.heap.size w w' := by
  obtain ⟨W, hW⟩ : ∃ W, W = w.alloc (.cells (rigCells r R).toArray 57) := ⟨_, rfl⟩
  have bW : Below w.heap.size w W := by subst hW; exact (Below.refl _ _).alloc (Nat.le_refl _) _
  have rW : Row W w.heap.size 57 (rigCells r R) := by subst hW; exact Row.new w _ (rigCells r R).toArray
  have RW := hR.below (bW.mono hB)
  have hno := Lib.hid (@rigE_no r)
  have hpa := Lib.hid (@rigB_parts r)
  have zf := hR.lf
  have zs := hR.s.len
  unfold maxLen at zf zs
  unfold rigV
  unfold rigCells at rW hW
  obtain ⟨_, q0, q1, q2, q3, q4, q5, q6, q7⟩ := Row.at_8 rW
  go_enter Try.func36, Try.ntmps36
  by_cases g1 : (20 : Int) < (r.seats.length : Int)
  · go_wp2_with fail
    rw [← hW]
    go_ret
    exact ⟨ret_int (by rw [hno.out fun h => by have := (hpa.out h).1; omega]), bW⟩
  go_wp2_with fail
  rw [← hW]
  clear hW
  refine (from_any _ _ _ _).mono ?_
  rintro e w' ⟨rfl, rfl⟩
  cases h2 : inB (r.feet.length : Int) 3 8 with
  | false =>
    go_wp2_with fail
    go_ret
    exact ⟨ret_int (by rw [hno.out fun h => by have := (hpa.out h).2.2.1; rw [inB_iff.2 (by omega)] at h2; cases h2]), bW⟩
  | true =>
  have i2 := inB_iff.1 h2
  go_wp2_with fail
  refine (from_any _ _ _ _).mono ?_
  rintro e w' ⟨rfl, rfl⟩
  cases h3 : inB r.frame 0 1000000 with
  | false =>
    go_wp2_with fail
    go_ret
    exact ⟨ret_int (by rw [hno.out fun h => by have := (hpa.out h).2.2.2.2.1; rw [inB_iff.2 (by omega)] at h3; cases h3]), bW⟩
  | true =>
  have i3 := inB_iff.1 h3
  go_wp2_with fail
  refine (from_any _ _ _ _).mono ?_
  rintro e w' ⟨rfl, rfl⟩
  cases h4 : inB r.empty 0 r.full with
  | false =>
    go_wp2_with fail
    go_ret
    exact ⟨ret_int (by rw [hno.out fun h => by have := (hpa.out h).2.2.2.2.2.1; rw [inB_iff.2 (by omega)] at h4; cases h4]), bW⟩
  | true =>
  have i4 := inB_iff.1 h4
  by_cases g5 : (1000000 : Int) < r.full
  · go_wp2_with fail
    go_ret
    exact ⟨ret_int (by rw [hno.out fun h => by have := (hpa.out h).2.2.2.2.2.2; omega]), bW⟩
  have hpt := pointed_any r.center W
  unfold ptV at hpt
  go_wp2_with fail
  refine hpt.mono ?_
  rintro e w1 ⟨rfl, hb1⟩
  have b1 := bW.trans (hb1.mono bW.size)
  have r1 := rW.below hb1 rW.lt
  cases h6 : spanB r.center with
  | false =>
    go_wp2_with fail
    go_ret
    exact ⟨ret_int (by rw [hno.out fun h => by have := (hpa.out h).2.2.2.1; rw [h6] at this; cases this]), b1⟩
  | true =>
  clear q0 q1 q2 q3 q4 q5 q6 q7 rW hpt RW
  have b1' := bW
  clear hb1 bW
  go_wp2_with fail
  go_loopw [3] (fun i wr => ∃ k : Nat, k ≤ r.seats.length ∧ i = .int .i64 k ∧ Below w.heap.size w wr ∧ Row wr w.heap.size 57 (rigCells r R) ∧ (r.seats.take k).all (seatB r.seats) = true) (fun i _ => r.seats.length - (intOf i).toNat)
  case atStart => exact ⟨0, Nat.zero_le _, rfl, b1, r1, rfl⟩
  case round =>
    obtain ⟨k, hk, rfl, hbel, hrow, hall⟩ := hrel
    have Hall := Lib.hid hall
    clear hall b1 r1
    have hs := hbel.size
    unfold rigCells at hrow
    obtain ⟨_, q0, q1, q2, q3, q4, q5, q6, q7⟩ := Row.at_8 hrow
    by_cases hlt : k < r.seats.length
    · have hSx := (hR.below (hbel.mono hB)).s
      obtain ⟨b, o, hA, hb, hc⟩ := hSx.outer (by omega)
      have ck := hc k hlt
      have c0 := hc 0 (by omega)
      simp only [Nat.add_zero] at c0
      rw [hA] at q0
      have hrk := hSx.inner k hlt
      have hlk := hSx.lens k hlt
      have Hsn := Lib.hid (all_snoc (seatB r.seats) [] r.seats k hlt)
      have Hno := Lib.hid (all_no (seatB r.seats) [] r.seats k hlt)
      have H0 : Hid (seatB r.seats (r.seats[k]?.getD []) = (pathB (pathAt r.seats k) && decide ((pathAt r.seats k).length = (pathAt r.seats 0).length))) := rfl
      obtain ⟨p, hp⟩ : ∃ p, p = pathAt r.seats k := ⟨_, rfl⟩
      rw [← hp] at ck hrk hlk H0
      have Hp := Lib.hid hp
      clear hp
      obtain ⟨m0, hm0⟩ : ∃ m0, m0 = (pathAt r.seats 0).length := ⟨_, rfl⟩
      rw [← hm0] at c0 H0
      have hnil : ¬ r.seats = [] := by intro e; rw [e] at hlt; simp at hlt
      have hpos : (0 : Int) < (r.seats.length : Int) := by omega
      have hposn : 0 < r.seats.length := by omega
      clear hm0 hc hSx
      have hkl : (k : Int) < (r.seats.length : Int) := by omega
      have e3 : IntKind.i64.wrap ((k : Int) + 1) = (k : Int) + 1 := IntWalk.i64_in _ (by omega)
      have hseat : Hid (seatB r.seats (r.seats[k]?.getD []) = false → rigB r = true → False) := fun h1 h2 => by
        have h3 := (hpa.out h2).2.1
        unfold seatsB at h3
        rw [Hno.out h1] at h3
        cases h3
      go_upto_region 6 with (fail)
      obtain ⟨N, hN⟩ : ∃ N, N = p.length := ⟨_, rfl⟩
      have hcp := CheckPath_any p (refAt R.rs k).1 p.length (refAt R.rs k).2 B wr.drew (show B ≤ wr.heap.size by omega) hrk hlk
      rw [← hN] at ck H0 hcp
      have HN := Lib.hid hN
      clear hN
      have S0 : (fun y : World => y.cell? ⟨w.heap.size, 0, none⟩ = some (.slice (some ⟨b, o, none⟩) r.seats.length R.c1) ∧ y.cell? ⟨b, o + k, none⟩ = some (.slice (refAt R.rs k).1 N (refAt R.rs k).2) ∧ y.cell? ⟨b, o, none⟩ = some (.slice (refAt R.rs 0).1 m0 (refAt R.rs 0).2)) wr.drew := ⟨q0, ck, c0⟩
      refine wp_region_held_drew (S := fun y : World => y.cell? ⟨w.heap.size, 0, none⟩ = some (.slice (some ⟨b, o, none⟩) r.seats.length R.c1) ∧ y.cell? ⟨b, o + k, none⟩ = some (.slice (refAt R.rs k).1 N (refAt R.rs k).2) ∧ y.cell? ⟨b, o, none⟩ = some (.slice (refAt R.rs 0).1 m0 (refAt R.rs 0).2)) (by kernel_rfl) S0 (fun hS => ?_)
      refine wpAnyH_take (i := 0) (oi := ⟨some 51, _, _, _, _, _⟩) (v := ?tkva0) rfl (by kernel_rfl) (by kernel_rfl) (by kernel_rfl) (fun _ _ _ h => h) (Or.inl ⟨by rfl, ?tkya0⟩) (by assumption) ?tkra0
      case tkya0 => (intro x hx; obtain ⟨hx0, hx1, hx2⟩ := hx; go_simp; try with_reducible rfl)
      case tkra0 =>
      simp only [Act.put, List.setIfInBounds_toArray, List.set_cons_zero, List.set_cons_succ]
      refine wpAnyH_take (i := 1) (oi := ⟨some 52, _, _, _, _, _⟩) (v := ?tkva1) rfl (by kernel_rfl) (by kernel_rfl) (by kernel_rfl) (fun _ _ _ h => h) (Or.inl ⟨by rfl, ?tkya1⟩) (by assumption) ?tkra1
      case tkya1 => (intro x hx; obtain ⟨hx0, hx1, hx2⟩ := hx; go_simp; try with_reducible rfl)
      case tkra1 =>
      simp only [Act.put, List.setIfInBounds_toArray, List.set_cons_zero, List.set_cons_succ]
      refine wpAnyH_take (i := 2) (oi := ⟨some 53, _, _, _, _, _⟩) (v := ?tkva2) rfl (by kernel_rfl) (by kernel_rfl) (by kernel_rfl) (fun _ _ _ h => h) (Or.inl ⟨by rfl, ?tkya2⟩) (by assumption) ?tkra2
      case tkya2 => (intro x hx; obtain ⟨hx0, hx1, hx2⟩ := hx; go_simp; try with_reducible rfl)
      case tkra2 =>
      simp only [Act.put, List.setIfInBounds_toArray, List.set_cons_zero, List.set_cons_succ]
      refine wpAnyH_take (i := 3) (oi := ⟨some 54, _, _, _, _, _⟩) (v := ?tkva3) rfl (by kernel_rfl) (by kernel_rfl) (by kernel_rfl) (fun _ _ _ h => h) (Or.inl ⟨by rfl, ?tkya3⟩) (by assumption) ?tkra3
      case tkya3 => (intro x hx; obtain ⟨hx0, hx1, hx2⟩ := hx; go_simp; try with_reducible rfl)
      case tkra3 =>
      simp only [Act.put, List.setIfInBounds_toArray, List.set_cons_zero, List.set_cons_succ]
      refine wpAnyH_take (i := 4) (oi := ⟨some 55, _, _, _, _, _⟩) (v := ?tkva4) rfl (by kernel_rfl) (by kernel_rfl) (by kernel_rfl) (fun _ _ _ h => h) (Or.inl ⟨by rfl, ?tkya4⟩) (by assumption) ?tkra4
      case tkya4 => (intro x hx; obtain ⟨hx0, hx1, hx2⟩ := hx; go_simp; try with_reducible rfl)
      case tkra4 =>
      simp only [Act.put, List.setIfInBounds_toArray, List.set_cons_zero, List.set_cons_succ]
      refine wpAnyH_ready (rs := [5]) (by kernel_rfl) (by simp) ?_
      refine AllReadyH.cons (o := ⟨some 56, _, _, _, _, _⟩) rfl (fun K hK => ?_) AllReadyH.nil
      go_wp2_with (go_at_call 49; refine hcp.mono ?_; rintro e y1 ⟨rfl, hb1⟩)
      have hyb := below_drewN_out' hb1
      have b1 := hbel.trans (hyb.mono hs)
      have r1 := hrow.below hyb hrow.lt
      have q0 := (Row.at_8 r1).2.1
      have ck := (hyb.cell (p := ⟨b, o + k, none⟩) (show b < wr.heap.size by omega)).trans ck
      have c0 := (hyb.cell (p := ⟨b, o, none⟩) (show b < wr.heap.size by omega)).trans c0
      rw [hA] at q0
      refine hK.out _ _ (⟨q0, ck, c0⟩) (fun hHeld => ?_)
      cases hpb : pathB p with
      | false =>
        rw [show pathE p = 30 from by unfold pathE; rw [hpb]; rfl]
        have Hz := Lib.hid (hseat.out (by rw [H0.out, hpb]; rfl))
        refine wpAnyH_take (i := 6) (oi := ⟨some 57, _, _, _, _, _⟩) (v := ?tkvb6) rfl (by kernel_rfl) (by kernel_rfl) (by kernel_rfl) (fun _ _ _ h => h) (Or.inl ⟨by rfl, ?tkyb6⟩) (by assumption) ?tkrb6
        case tkyb6 => (intro x hx; obtain ⟨hx0, hx1, hx2⟩ := hx; go_simp; try with_reducible rfl)
        case tkrb6 =>
        simp only [Act.put, List.setIfInBounds_toArray, List.set_cons_zero, List.set_cons_succ]
        refine wpAnyH_take (i := 7) (oi := ⟨some 58, _, _, _, _, _⟩) (v := ?tkvb7) rfl (by kernel_rfl) (by kernel_rfl) (by kernel_rfl) (fun _ _ _ h => h) (Or.inl ⟨by rfl, ?tkyb7⟩) (by assumption) ?tkrb7
        case tkyb7 => (intro x hx; obtain ⟨hx0, hx1, hx2⟩ := hx; go_simp; try with_reducible rfl)
        case tkrb7 =>
        simp only [Act.put, List.setIfInBounds_toArray, List.set_cons_zero, List.set_cons_succ]
        refine wpAnyH_take (i := 8) (oi := ⟨some 59, _, _, _, _, _⟩) (v := undef) rfl (by kernel_rfl) (by kernel_rfl) (by kernel_rfl) (fun _ _ _ h => h) (Or.inr ⟨by rfl, rfl⟩) (by assumption) ?_
        simp only [Act.put, List.setIfInBounds_toArray, List.set_cons_zero, List.set_cons_succ]
        refine wpAnyH_take (i := 9) (oi := ⟨some 60, _, _, _, _, _⟩) (v := undef) rfl (by kernel_rfl) (by kernel_rfl) (by kernel_rfl) (fun _ _ _ h => h) (Or.inr ⟨by rfl, rfl⟩) (by assumption) ?_
        simp only [Act.put, List.setIfInBounds_toArray, List.set_cons_zero, List.set_cons_succ]
        refine wpAnyH_take (i := 10) (oi := ⟨some 61, _, _, _, _, _⟩) (v := undef) rfl (by kernel_rfl) (by kernel_rfl) (by kernel_rfl) (fun _ _ _ h => h) (Or.inr ⟨by rfl, rfl⟩) (by assumption) ?_
        simp only [Act.put, List.setIfInBounds_toArray, List.set_cons_zero, List.set_cons_succ]
        refine wpAnyH_take (i := 11) (oi := ⟨some 62, _, _, _, _, _⟩) (v := undef) rfl (by kernel_rfl) (by kernel_rfl) (by kernel_rfl) (fun _ _ _ h => h) (Or.inr ⟨by rfl, rfl⟩) (by assumption) ?_
        simp only [Act.put, List.setIfInBounds_toArray, List.set_cons_zero, List.set_cons_succ]
        refine wpAnyH_take (i := 12) (oi := ⟨some 63, _, _, _, _, _⟩) (v := undef) rfl (by kernel_rfl) (by kernel_rfl) (by kernel_rfl) (fun _ _ _ h => h) (Or.inr ⟨by rfl, rfl⟩) (by assumption) ?_
        simp only [Act.put, List.setIfInBounds_toArray, List.set_cons_zero, List.set_cons_succ]
        refine wpAnyH_take (i := 13) (oi := ⟨some 64, _, _, _, _, _⟩) (v := undef) rfl (by kernel_rfl) (by kernel_rfl) (by kernel_rfl) (fun _ _ _ h => h) (Or.inr ⟨by rfl, rfl⟩) (by assumption) ?_
        simp only [Act.put, List.setIfInBounds_toArray, List.set_cons_zero, List.set_cons_succ]
        refine wpAnyH_take (i := 14) (oi := ⟨some 65, _, _, _, _, _⟩) (v := undef) rfl (by kernel_rfl) (by kernel_rfl) (by kernel_rfl) (fun _ _ _ h => h) (Or.inr ⟨by rfl, rfl⟩) (by assumption) ?_
        simp only [Act.put, List.setIfInBounds_toArray, List.set_cons_zero, List.set_cons_succ]
        refine wpAnyH_take (i := 15) (oi := ⟨some 66, _, _, _, _, _⟩) (v := undef) rfl (by kernel_rfl) (by kernel_rfl) (by kernel_rfl) (fun _ _ _ h => h) (Or.inr ⟨by rfl, rfl⟩) (by assumption) ?_
        simp only [Act.put, List.setIfInBounds_toArray, List.set_cons_zero, List.set_cons_succ]
        refine wpAnyH_take (i := 16) (oi := ⟨some 67, _, _, _, _, _⟩) (v := undef) rfl (by kernel_rfl) (by kernel_rfl) (by kernel_rfl) (fun _ _ _ h => h) (Or.inr ⟨by rfl, rfl⟩) (by assumption) ?_
        simp only [Act.put, List.setIfInBounds_toArray, List.set_cons_zero, List.set_cons_succ]
        refine wpAnyH_take (i := 17) (oi := ⟨some 68, _, _, _, _, _⟩) (v := undef) rfl (by kernel_rfl) (by kernel_rfl) (by kernel_rfl) (fun _ _ _ h => h) (Or.inr ⟨by rfl, rfl⟩) (by assumption) ?_
        simp only [Act.put, List.setIfInBounds_toArray, List.set_cons_zero, List.set_cons_succ]
        refine wpAnyH_take (i := 18) (oi := ⟨some 69, _, _, _, _, _⟩) (v := undef) rfl (by kernel_rfl) (by kernel_rfl) (by kernel_rfl) (fun _ _ _ h => h) (Or.inr ⟨by rfl, rfl⟩) (by assumption) ?_
        simp only [Act.put, List.setIfInBounds_toArray, List.set_cons_zero, List.set_cons_succ]
        refine wpAnyH_take (i := 19) (oi := ⟨some 70, _, _, _, _, _⟩) (v := undef) rfl (by kernel_rfl) (by kernel_rfl) (by kernel_rfl) (fun _ _ _ h => h) (Or.inr ⟨by rfl, rfl⟩) (by assumption) ?_
        simp only [Act.put, List.setIfInBounds_toArray, List.set_cons_zero, List.set_cons_succ]
        refine wpAnyH_take (i := 20) (oi := ⟨some 71, _, _, _, _, _⟩) (v := ?tkvb20) rfl (by kernel_rfl) (by kernel_rfl) (by kernel_rfl) (fun _ _ _ h => h) (Or.inl ⟨by rfl, ?tkyb20⟩) (by assumption) ?tkrb20
        case tkyb20 => (intro x hx; obtain ⟨hx0, hx1, hx2⟩ := hx; go_simp; try with_reducible rfl)
        case tkrb20 =>
        simp only [Act.put, List.setIfInBounds_toArray, List.set_cons_zero, List.set_cons_succ]
        refine wpAnyH_done (by kernel_rfl) ?_ _
        go_wp2_with fail
        go_ret
        exact ⟨ret_int (by rw [hno.out Hz.out]), b1⟩
      | true =>
        rw [show pathE p = 0 from by unfold pathE; rw [hpb]; rfl]
        by_cases hm : N = m0
        · subst hm
          have Hy : Hid (seatB r.seats (r.seats[k]?.getD []) = true) := by show _ = _; rw [H0.out, hpb]; simp
          refine wpAnyH_take (i := 6) (oi := ⟨some 57, _, _, _, _, _⟩) (v := ?tkvc6) rfl (by kernel_rfl) (by kernel_rfl) (by kernel_rfl) (fun _ _ _ h => h) (Or.inl ⟨by rfl, ?tkyc6⟩) (by assumption) ?tkrc6
          case tkyc6 => (intro x hx; obtain ⟨hx0, hx1, hx2⟩ := hx; go_simp; try with_reducible rfl)
          case tkrc6 =>
          simp only [Act.put, List.setIfInBounds_toArray, List.set_cons_zero, List.set_cons_succ]
          refine wpAnyH_take (i := 7) (oi := ⟨some 58, _, _, _, _, _⟩) (v := ?tkvc7) rfl (by kernel_rfl) (by kernel_rfl) (by kernel_rfl) (fun _ _ _ h => h) (Or.inl ⟨by rfl, ?tkyc7⟩) (by assumption) ?tkrc7
          case tkyc7 => (intro x hx; obtain ⟨hx0, hx1, hx2⟩ := hx; go_simp; try with_reducible rfl)
          case tkrc7 =>
          simp only [Act.put, List.setIfInBounds_toArray, List.set_cons_zero, List.set_cons_succ]
          refine wpAnyH_take (i := 8) (oi := ⟨some 59, _, _, _, _, _⟩) (v := ?tkvc8) rfl (by kernel_rfl) (by kernel_rfl) (by kernel_rfl) (fun _ _ _ h => h) (Or.inl ⟨by rfl, ?tkyc8⟩) (by assumption) ?tkrc8
          case tkyc8 => (intro x hx; obtain ⟨hx0, hx1, hx2⟩ := hx; go_simp; try with_reducible rfl)
          case tkrc8 =>
          simp only [Act.put, List.setIfInBounds_toArray, List.set_cons_zero, List.set_cons_succ]
          refine wpAnyH_take (i := 9) (oi := ⟨some 60, _, _, _, _, _⟩) (v := ?tkvc9) rfl (by kernel_rfl) (by kernel_rfl) (by kernel_rfl) (fun _ _ _ h => h) (Or.inl ⟨by rfl, ?tkyc9⟩) (by assumption) ?tkrc9
          case tkyc9 => (intro x hx; obtain ⟨hx0, hx1, hx2⟩ := hx; go_simp; try with_reducible rfl)
          case tkrc9 =>
          simp only [Act.put, List.setIfInBounds_toArray, List.set_cons_zero, List.set_cons_succ]
          refine wpAnyH_take (i := 10) (oi := ⟨some 61, _, _, _, _, _⟩) (v := ?tkvc10) rfl (by kernel_rfl) (by kernel_rfl) (by kernel_rfl) (fun _ _ _ h => h) (Or.inl ⟨by rfl, ?tkyc10⟩) (by assumption) ?tkrc10
          case tkyc10 => (intro x hx; obtain ⟨hx0, hx1, hx2⟩ := hx; go_simp; try with_reducible rfl)
          case tkrc10 =>
          simp only [Act.put, List.setIfInBounds_toArray, List.set_cons_zero, List.set_cons_succ]
          refine wpAnyH_take (i := 11) (oi := ⟨some 62, _, _, _, _, _⟩) (v := ?tkvc11) rfl (by kernel_rfl) (by kernel_rfl) (by kernel_rfl) (fun _ _ _ h => h) (Or.inl ⟨by rfl, ?tkyc11⟩) (by assumption) ?tkrc11
          case tkyc11 => (intro x hx; obtain ⟨hx0, hx1, hx2⟩ := hx; go_simp; try with_reducible rfl)
          case tkrc11 =>
          simp only [Act.put, List.setIfInBounds_toArray, List.set_cons_zero, List.set_cons_succ]
          refine wpAnyH_take (i := 12) (oi := ⟨some 63, _, _, _, _, _⟩) (v := ?tkvc12) rfl (by kernel_rfl) (by kernel_rfl) (by kernel_rfl) (fun _ _ _ h => h) (Or.inl ⟨by rfl, ?tkyc12⟩) (by assumption) ?tkrc12
          case tkyc12 => (intro x hx; obtain ⟨hx0, hx1, hx2⟩ := hx; go_simp; try with_reducible rfl)
          case tkrc12 =>
          simp only [Act.put, List.setIfInBounds_toArray, List.set_cons_zero, List.set_cons_succ]
          refine wpAnyH_take (i := 13) (oi := ⟨some 64, _, _, _, _, _⟩) (v := ?tkvc13) rfl (by kernel_rfl) (by kernel_rfl) (by kernel_rfl) (fun _ _ _ h => h) (Or.inl ⟨by rfl, ?tkyc13⟩) (by assumption) ?tkrc13
          case tkyc13 => (intro x hx; obtain ⟨hx0, hx1, hx2⟩ := hx; go_simp; try with_reducible rfl)
          case tkrc13 =>
          simp only [Act.put, List.setIfInBounds_toArray, List.set_cons_zero, List.set_cons_succ]
          refine wpAnyH_take (i := 14) (oi := ⟨some 65, _, _, _, _, _⟩) (v := ?tkvc14) rfl (by kernel_rfl) (by kernel_rfl) (by kernel_rfl) (fun _ _ _ h => h) (Or.inl ⟨by rfl, ?tkyc14⟩) (by assumption) ?tkrc14
          case tkyc14 => (intro x hx; obtain ⟨hx0, hx1, hx2⟩ := hx; go_simp; try with_reducible rfl)
          case tkrc14 =>
          simp only [Act.put, List.setIfInBounds_toArray, List.set_cons_zero, List.set_cons_succ]
          refine wpAnyH_take (i := 15) (oi := ⟨some 66, _, _, _, _, _⟩) (v := ?tkvc15) rfl (by kernel_rfl) (by kernel_rfl) (by kernel_rfl) (fun _ _ _ h => h) (Or.inl ⟨by rfl, ?tkyc15⟩) (by assumption) ?tkrc15
          case tkyc15 => (intro x hx; obtain ⟨hx0, hx1, hx2⟩ := hx; go_simp; try with_reducible rfl)
          case tkrc15 =>
          simp only [Act.put, List.setIfInBounds_toArray, List.set_cons_zero, List.set_cons_succ]
          refine wpAnyH_take (i := 16) (oi := ⟨some 67, _, _, _, _, _⟩) (v := ?tkvc16) rfl (by kernel_rfl) (by kernel_rfl) (by kernel_rfl) (fun _ _ _ h => h) (Or.inl ⟨by rfl, ?tkyc16⟩) (by assumption) ?tkrc16
          case tkyc16 => (intro x hx; obtain ⟨hx0, hx1, hx2⟩ := hx; go_simp; try with_reducible rfl)
          case tkrc16 =>
          simp only [Act.put, List.setIfInBounds_toArray, List.set_cons_zero, List.set_cons_succ]
          refine wpAnyH_take (i := 17) (oi := ⟨some 68, _, _, _, _, _⟩) (v := ?tkvc17) rfl (by kernel_rfl) (by kernel_rfl) (by kernel_rfl) (fun _ _ _ h => h) (Or.inl ⟨by rfl, ?tkyc17⟩) (by assumption) ?tkrc17
          case tkyc17 => (intro x hx; obtain ⟨hx0, hx1, hx2⟩ := hx; go_simp; try with_reducible rfl)
          case tkrc17 =>
          simp only [Act.put, List.setIfInBounds_toArray, List.set_cons_zero, List.set_cons_succ]
          refine wpAnyH_take (i := 18) (oi := ⟨some 69, _, _, _, _, _⟩) (v := ?tkvc18) rfl (by kernel_rfl) (by kernel_rfl) (by kernel_rfl) (fun _ _ _ h => h) (Or.inl ⟨by rfl, ?tkyc18⟩) (by assumption) ?tkrc18
          case tkyc18 => (intro x hx; obtain ⟨hx0, hx1, hx2⟩ := hx; go_simp; try with_reducible rfl)
          case tkrc18 =>
          simp only [Act.put, List.setIfInBounds_toArray, List.set_cons_zero, List.set_cons_succ]
          refine wpAnyH_take (i := 19) (oi := ⟨some 70, _, _, _, _, _⟩) (v := ?tkvc19) rfl (by kernel_rfl) (by kernel_rfl) (by kernel_rfl) (fun _ _ _ h => h) (Or.inl ⟨by rfl, ?tkyc19⟩) (by assumption) ?tkrc19
          case tkyc19 => (intro x hx; obtain ⟨hx0, hx1, hx2⟩ := hx; go_simp; try with_reducible rfl)
          case tkrc19 =>
          simp only [Act.put, List.setIfInBounds_toArray, List.set_cons_zero, List.set_cons_succ]
          refine wpAnyH_take (i := 20) (oi := ⟨some 71, _, _, _, _, _⟩) (v := ?tkvc20) rfl (by kernel_rfl) (by kernel_rfl) (by kernel_rfl) (fun _ _ _ h => h) (Or.inl ⟨by rfl, ?tkyc20⟩) (by assumption) ?tkrc20
          case tkyc20 => (intro x hx; obtain ⟨hx0, hx1, hx2⟩ := hx; go_simp; try with_reducible rfl)
          case tkrc20 =>
          simp only [Act.put, List.setIfInBounds_toArray, List.set_cons_zero, List.set_cons_succ]
          refine wpAnyH_done (by kernel_rfl) ?_ _
          go_wp2_with fail
          go_roundw
          case rel =>
            have HH : (r.seats.take (k + 1)).all (seatB r.seats) = true := by rw [Hsn.out, Hall.out, Hy.out]; rfl
            refine ⟨k + 1, by omega, by go_num, ?_⟩
            first | exact ⟨b1, r1, HH⟩ | exact ⟨r1, List.all_eq_true.1 HH⟩ | exact ⟨b1, r1, List.all_eq_true.1 HH⟩
          case measure => simp [intOf]; omega
        · have hm' : ((N : Int) != (m0 : Int)) = true := by rw [bne_iff_ne]; omega
          have Hz := Lib.hid (hseat.out (by rw [H0.out, hpb]; simpa using hm))
          refine wpAnyH_take (i := 6) (oi := ⟨some 57, _, _, _, _, _⟩) (v := ?tkvd6) rfl (by kernel_rfl) (by kernel_rfl) (by kernel_rfl) (fun _ _ _ h => h) (Or.inl ⟨by rfl, ?tkyd6⟩) (by assumption) ?tkrd6
          case tkyd6 => (intro x hx; obtain ⟨hx0, hx1, hx2⟩ := hx; go_simp; try with_reducible rfl)
          case tkrd6 =>
          simp only [Act.put, List.setIfInBounds_toArray, List.set_cons_zero, List.set_cons_succ]
          refine wpAnyH_take (i := 7) (oi := ⟨some 58, _, _, _, _, _⟩) (v := ?tkvd7) rfl (by kernel_rfl) (by kernel_rfl) (by kernel_rfl) (fun _ _ _ h => h) (Or.inl ⟨by rfl, ?tkyd7⟩) (by assumption) ?tkrd7
          case tkyd7 => (intro x hx; obtain ⟨hx0, hx1, hx2⟩ := hx; go_simp; try with_reducible rfl)
          case tkrd7 =>
          simp only [Act.put, List.setIfInBounds_toArray, List.set_cons_zero, List.set_cons_succ]
          refine wpAnyH_take (i := 8) (oi := ⟨some 59, _, _, _, _, _⟩) (v := ?tkvd8) rfl (by kernel_rfl) (by kernel_rfl) (by kernel_rfl) (fun _ _ _ h => h) (Or.inl ⟨by rfl, ?tkyd8⟩) (by assumption) ?tkrd8
          case tkyd8 => (intro x hx; obtain ⟨hx0, hx1, hx2⟩ := hx; go_simp; try with_reducible rfl)
          case tkrd8 =>
          simp only [Act.put, List.setIfInBounds_toArray, List.set_cons_zero, List.set_cons_succ]
          refine wpAnyH_take (i := 9) (oi := ⟨some 60, _, _, _, _, _⟩) (v := ?tkvd9) rfl (by kernel_rfl) (by kernel_rfl) (by kernel_rfl) (fun _ _ _ h => h) (Or.inl ⟨by rfl, ?tkyd9⟩) (by assumption) ?tkrd9
          case tkyd9 => (intro x hx; obtain ⟨hx0, hx1, hx2⟩ := hx; go_simp; try with_reducible rfl)
          case tkrd9 =>
          simp only [Act.put, List.setIfInBounds_toArray, List.set_cons_zero, List.set_cons_succ]
          refine wpAnyH_take (i := 10) (oi := ⟨some 61, _, _, _, _, _⟩) (v := ?tkvd10) rfl (by kernel_rfl) (by kernel_rfl) (by kernel_rfl) (fun _ _ _ h => h) (Or.inl ⟨by rfl, ?tkyd10⟩) (by assumption) ?tkrd10
          case tkyd10 => (intro x hx; obtain ⟨hx0, hx1, hx2⟩ := hx; go_simp; try with_reducible rfl)
          case tkrd10 =>
          simp only [Act.put, List.setIfInBounds_toArray, List.set_cons_zero, List.set_cons_succ]
          refine wpAnyH_take (i := 11) (oi := ⟨some 62, _, _, _, _, _⟩) (v := ?tkvd11) rfl (by kernel_rfl) (by kernel_rfl) (by kernel_rfl) (fun _ _ _ h => h) (Or.inl ⟨by rfl, ?tkyd11⟩) (by assumption) ?tkrd11
          case tkyd11 => (intro x hx; obtain ⟨hx0, hx1, hx2⟩ := hx; go_simp; try with_reducible rfl)
          case tkrd11 =>
          simp only [Act.put, List.setIfInBounds_toArray, List.set_cons_zero, List.set_cons_succ]
          refine wpAnyH_take (i := 12) (oi := ⟨some 63, _, _, _, _, _⟩) (v := ?tkvd12) rfl (by kernel_rfl) (by kernel_rfl) (by kernel_rfl) (fun _ _ _ h => h) (Or.inl ⟨by rfl, ?tkyd12⟩) (by assumption) ?tkrd12
          case tkyd12 => (intro x hx; obtain ⟨hx0, hx1, hx2⟩ := hx; go_simp; try with_reducible rfl)
          case tkrd12 =>
          simp only [Act.put, List.setIfInBounds_toArray, List.set_cons_zero, List.set_cons_succ]
          refine wpAnyH_take (i := 13) (oi := ⟨some 64, _, _, _, _, _⟩) (v := ?tkvd13) rfl (by kernel_rfl) (by kernel_rfl) (by kernel_rfl) (fun _ _ _ h => h) (Or.inl ⟨by rfl, ?tkyd13⟩) (by assumption) ?tkrd13
          case tkyd13 => (intro x hx; obtain ⟨hx0, hx1, hx2⟩ := hx; go_simp; try with_reducible rfl)
          case tkrd13 =>
          simp only [Act.put, List.setIfInBounds_toArray, List.set_cons_zero, List.set_cons_succ]
          refine wpAnyH_take (i := 14) (oi := ⟨some 65, _, _, _, _, _⟩) (v := ?tkvd14) rfl (by kernel_rfl) (by kernel_rfl) (by kernel_rfl) (fun _ _ _ h => h) (Or.inl ⟨by rfl, ?tkyd14⟩) (by assumption) ?tkrd14
          case tkyd14 => (intro x hx; obtain ⟨hx0, hx1, hx2⟩ := hx; go_simp; try with_reducible rfl)
          case tkrd14 =>
          simp only [Act.put, List.setIfInBounds_toArray, List.set_cons_zero, List.set_cons_succ]
          refine wpAnyH_take (i := 15) (oi := ⟨some 66, _, _, _, _, _⟩) (v := ?tkvd15) rfl (by kernel_rfl) (by kernel_rfl) (by kernel_rfl) (fun _ _ _ h => h) (Or.inl ⟨by rfl, ?tkyd15⟩) (by assumption) ?tkrd15
          case tkyd15 => (intro x hx; obtain ⟨hx0, hx1, hx2⟩ := hx; go_simp; try with_reducible rfl)
          case tkrd15 =>
          simp only [Act.put, List.setIfInBounds_toArray, List.set_cons_zero, List.set_cons_succ]
          refine wpAnyH_take (i := 16) (oi := ⟨some 67, _, _, _, _, _⟩) (v := ?tkvd16) rfl (by kernel_rfl) (by kernel_rfl) (by kernel_rfl) (fun _ _ _ h => h) (Or.inl ⟨by rfl, ?tkyd16⟩) (by assumption) ?tkrd16
          case tkyd16 => (intro x hx; obtain ⟨hx0, hx1, hx2⟩ := hx; go_simp; try with_reducible rfl)
          case tkrd16 =>
          simp only [Act.put, List.setIfInBounds_toArray, List.set_cons_zero, List.set_cons_succ]
          refine wpAnyH_take (i := 17) (oi := ⟨some 68, _, _, _, _, _⟩) (v := ?tkvd17) rfl (by kernel_rfl) (by kernel_rfl) (by kernel_rfl) (fun _ _ _ h => h) (Or.inl ⟨by rfl, ?tkyd17⟩) (by assumption) ?tkrd17
          case tkyd17 => (intro x hx; obtain ⟨hx0, hx1, hx2⟩ := hx; go_simp; try with_reducible rfl)
          case tkrd17 =>
          simp only [Act.put, List.setIfInBounds_toArray, List.set_cons_zero, List.set_cons_succ]
          refine wpAnyH_take (i := 18) (oi := ⟨some 69, _, _, _, _, _⟩) (v := ?tkvd18) rfl (by kernel_rfl) (by kernel_rfl) (by kernel_rfl) (fun _ _ _ h => h) (Or.inl ⟨by rfl, ?tkyd18⟩) (by assumption) ?tkrd18
          case tkyd18 => (intro x hx; obtain ⟨hx0, hx1, hx2⟩ := hx; go_simp; try with_reducible rfl)
          case tkrd18 =>
          simp only [Act.put, List.setIfInBounds_toArray, List.set_cons_zero, List.set_cons_succ]
          refine wpAnyH_take (i := 19) (oi := ⟨some 70, _, _, _, _, _⟩) (v := ?tkvd19) rfl (by kernel_rfl) (by kernel_rfl) (by kernel_rfl) (fun _ _ _ h => h) (Or.inl ⟨by rfl, ?tkyd19⟩) (by assumption) ?tkrd19
          case tkyd19 => (intro x hx; obtain ⟨hx0, hx1, hx2⟩ := hx; go_simp; try with_reducible rfl)
          case tkrd19 =>
          simp only [Act.put, List.setIfInBounds_toArray, List.set_cons_zero, List.set_cons_succ]
          refine wpAnyH_take (i := 20) (oi := ⟨some 71, _, _, _, _, _⟩) (v := ?tkvd20) rfl (by kernel_rfl) (by kernel_rfl) (by kernel_rfl) (fun _ _ _ h => h) (Or.inl ⟨by rfl, ?tkyd20⟩) (by assumption) ?tkrd20
          case tkyd20 => (intro x hx; obtain ⟨hx0, hx1, hx2⟩ := hx; go_simp; try with_reducible rfl)
          case tkrd20 =>
          simp only [Act.put, List.setIfInBounds_toArray, List.set_cons_zero, List.set_cons_succ]
          refine wpAnyH_done (by kernel_rfl) ?_ _
          go_wp2_with fail
          go_ret
          exact ⟨ret_int (by rw [hno.out Hz.out]), b1⟩
    · obtain rfl : k = r.seats.length := by omega
      have hss : Hid (seatsB r.seats = true) := by
        have h := Hall.out
        rw [List.take_length] at h
        exact h
      clear Hall
      go_wp2_with fail
      go_loopw [5] (fun i wr => ∃ k : Nat, k ≤ r.feet.length ∧ i = .int .i64 k ∧ Below w.heap.size w wr ∧ Row wr w.heap.size 57 (rigCells r R) ∧ (r.feet.take k).all (fun p => spanB p && decide (p.z = 0)) = true) (fun i _ => r.feet.length - (intOf i).toNat)
      case atStart => exact ⟨0, Nat.zero_le _, rfl, hbel, hrow, rfl⟩
      case round =>
        clear hrow q0 q1 q2 q3 q4 q5 q6 q7
        obtain ⟨k, hk, rfl, hbel, hrow, hall⟩ := hrel
        have Hall := Lib.hid hall
        clear hall
        have hs := hbel.size
        unfold rigCells at hrow
        obtain ⟨_, q0, q1, q2, q3, q4, q5, q6, q7⟩ := Row.at_8 hrow
        by_cases hlt : k < r.feet.length
        · obtain ⟨b, o, hA, hb, c0, c1, c2⟩ := (hR.f.below (hbel.mono hB)).atp hlt
          rw [hA] at q1
          have HA := Lib.hid hA
          clear hA
          have Hsn := Lib.hid (all_snoc (fun p : Pt => spanB p && decide (p.z = 0)) ⟨0, 0, 0⟩ r.feet k hlt)
          have hfoot : Hid ((fun p : Pt => spanB p && decide (p.z = 0)) (r.feet[k]?.getD ⟨0, 0, 0⟩) = false → rigB r = true → False) := fun h1 h2 => by
            have h3 := (hpa.out h2).2.2.1
            have h4 := all_no (fun p : Pt => spanB p && decide (p.z = 0)) ⟨0, 0, 0⟩ r.feet k hlt h1
            rw [all_two spanB (fun p : Pt => decide (p.z = 0))] at h4
            have h5 := h3.2.2.1
            have h6 := h3.2.2.2.1
            unfold groundB at h6
            rw [h5, h6] at h4
            cases h4
          obtain ⟨p, hp⟩ : ∃ p, p = ptAt r.feet k := ⟨_, rfl⟩
          have hfoot : Hid ((spanB p && decide (p.z = 0)) = false → rigB r = true → False) := by rw [hp]; exact hfoot
          have Hsn : Hid ((r.feet.take (k + 1)).all (fun p : Pt => spanB p && decide (p.z = 0)) = ((r.feet.take k).all (fun p : Pt => spanB p && decide (p.z = 0)) && (spanB p && decide (p.z = 0)))) := by rw [hp]; exact Hsn
          rw [← hp] at c0 c1 c2
          clear hp
          have hkl : (k : Int) < (r.feet.length : Int) := by omega
          have e3 : IntKind.i64.wrap ((k : Int) + 1) = (k : Int) + 1 := IntWalk.i64_in _ (by omega)
          have hpt := pointed_any p wr
          unfold ptV at hpt
          go_wp2_with fail
          refine hpt.mono ?_
          rintro e y1 ⟨rfl, hb1⟩
          have b1 := hbel.trans (hb1.mono hs)
          have r1 := hrow.below hb1 hrow.lt
          have q1 := (Row.at_8 r1).2.2.1
          rw [HA.out] at q1
          have c2 := (hb1.cell (p := ⟨b, o + k * 3 + 2, none⟩) (show b < wr.heap.size by omega)).trans c2
          cases hsp : spanB p with
          | false =>
            have Hz := Lib.hid (hfoot.out (by rw [hsp]; rfl))
            go_wp2_with fail
            go_ret
            exact ⟨ret_int (by rw [hno.out Hz.out]), b1⟩
          | true =>
            by_cases hz : p.z = 0
            · have Hy : Hid ((spanB p && decide (p.z = 0)) = true) := by show _ = _; rw [hsp]; simpa using hz
              rw [hz] at c2
              go_wp2_with fail
              go_roundw
              case rel =>
                have HH : (r.feet.take (k + 1)).all (fun p : Pt => spanB p && decide (p.z = 0)) = true := by rw [Hsn.out, Hall.out, Hy.out]; rfl
                refine ⟨k + 1, by omega, by go_num, ?_⟩
                first | exact ⟨b1, r1, HH⟩ | exact ⟨r1, List.all_eq_true.1 HH⟩ | exact ⟨b1, r1, List.all_eq_true.1 HH⟩
              case measure => simp [intOf]; omega
            · have hm' : (p.z != 0) = true := by rw [bne_iff_ne]; exact hz
              have Hz := Lib.hid (hfoot.out (by rw [hsp]; simpa using hz))
              go_wp2_with fail
              go_ret
              exact ⟨ret_int (by rw [hno.out Hz.out]), b1⟩
        · obtain rfl : k = r.feet.length := by omega
          have hff : Hid (r.feet.all spanB = true ∧ groundB r.feet = true) := by
            have h := Hall.out
            rw [List.take_length, all_two spanB (fun p : Pt => decide (p.z = 0)), Bool.and_eq_true] at h
            exact h
          clear Hall
          have H3 : Hid (∀ i, i < r.feet.length → ∀ j, j < r.feet.length → j ≠ i → j ≠ (i + 1) % r.feet.length → armZ r.feet i (ptAt r.feet j) ≤ 0 → rigB r = true → False) := fun i hi j hj h1 h2 hz h => feet_no hi hj h1 h2 hz h
          have H4 : Hid ((∀ i, i < r.feet.length → ∀ j, j < r.feet.length → j ≠ i → j ≠ (i + 1) % r.feet.length → 0 < armZ r.feet i (ptAt r.feet j)) → rigE r = 0) := fun h => rig_yes (by omega) hss.out h2 hff.out h h6 i3 i4 (by omega)
          have Hsp := Lib.hid hff.out.1
          clear hss hff hpa
          go_wp2_with fail
          go_loopw [6] (fun i wr => ∃ k : Nat, k ≤ r.feet.length ∧ i = .int .i64 k ∧ Below w.heap.size w wr ∧ Row wr w.heap.size 57 (rigCells r R) ∧ ∀ i, i < k → ∀ j, j < r.feet.length → j ≠ i → j ≠ (i + 1) % r.feet.length → 0 < armZ r.feet i (ptAt r.feet j)) (fun i _ => r.feet.length - (intOf i).toNat)
          case atStart => exact ⟨0, Nat.zero_le _, rfl, hbel, hrow, fun i hi => absurd hi (by omega)⟩
          case round =>
            clear hrow q0 q1 q2 q3 q4 q5 q6 q7
            obtain ⟨k, hk, rfl, hbel, hrow, hall⟩ := hrel
            have Hall := Lib.hid hall
            clear hall
            have hs := hbel.size
            by_cases hlt : k < r.feet.length
            · have hkl : (k : Int) < (r.feet.length : Int) := by omega
              have e3 : IntKind.i64.wrap ((k : Int) + 1) = (k : Int) + 1 := IntWalk.i64_in _ (by omega)
              go_wp2_with fail
              go_loopw [7] (fun i wr => ∃ j : Nat, j ≤ r.feet.length ∧ i = .int .i64 j ∧ Below w.heap.size w wr ∧ Row wr w.heap.size 57 (rigCells r R) ∧ ∀ j', j' < j → j' ≠ k → j' ≠ (k + 1) % r.feet.length → 0 < armZ r.feet k (ptAt r.feet j')) (fun i _ => r.feet.length - (intOf i).toNat)
              case atStart => exact ⟨0, Nat.zero_le _, rfl, hbel, hrow, fun i hi => absurd hi (by omega)⟩
              case round =>
                clear hrow hs hbel
                obtain ⟨j, hj, rfl, hbel, hrow, hin⟩ := hrel
                have Hin := Lib.hid hin
                clear hin
                have hs := hbel.size
                unfold rigCells at hrow
                obtain ⟨_, q0, q1, q2, q3, q4, q5, q6, q7⟩ := Row.at_8 hrow
                by_cases hlj : j < r.feet.length
                · have hjl : (j : Int) < (r.feet.length : Int) := by omega
                  have e4 : IntKind.i64.wrap ((j : Int) + 1) = (j : Int) + 1 := IntWalk.i64_in _ (by omega)
                  obtain ⟨q, hq⟩ : ∃ q, q = (k + 1) % r.feet.length := ⟨_, rfl⟩
                  have hql : q < r.feet.length := by rw [hq]; exact Nat.mod_lt _ (by omega)
                  have e2 : ((k : Int) + 1).tmod (r.feet.length : Int) = (q : Int) := by
                    rw [hq, Int.tmod_eq_emod_of_nonneg (by omega), Int.natCast_emod]
                    rfl
                  have hq0 : (0 : Int) ≤ (q : Int) := by omega
                  have hql' : (q : Int) < (r.feet.length : Int) := by omega
                  have hnil : ¬ r.feet = [] := by intro e; rw [e] at hlt; simp at hlt
                  obtain ⟨b, o, hA, hb, a0, a1, a2⟩ := (hR.f.below (hbel.mono hB)).atp hlt
                  obtain ⟨b2, o2, hA2, _, m0, m1, m2⟩ := (hR.f.below (hbel.mono hB)).atp hql
                  obtain ⟨b3, o3, hA3, _, p0, p1, p2⟩ := (hR.f.below (hbel.mono hB)).atp hlj
                  rw [hA] at hA2 hA3
                  injection hA2 with hA2
                  injection hA2 with g2 g3
                  injection hA3 with hA3
                  injection hA3 with g4 g5'
                  subst g2 g3 g4 g5'
                  rw [hA] at q1
                  have ha := ptAt_span Hsp.out k hlt
                  have hm := ptAt_span Hsp.out q hql
                  have hp := ptAt_span Hsp.out j hlj
                  have HA := Lib.hid hA
                  clear hA
                  have Harm : Hid (armZ r.feet k (ptAt r.feet j) = turnZ (ptAt r.feet k) (ptAt r.feet q) (ptAt r.feet j)) := by show _ = _; rw [hq]; rfl
                  have Hno : Hid (j ≠ k → j ≠ q → armZ r.feet k (ptAt r.feet j) ≤ 0 → rigB r = true → False) := fun h1 h2 h3 => H3.out k hlt j hlj h1 (by rw [← hq]; exact h2) h3
                  have Hst : Hid ((j ≠ k → j ≠ q → 0 < armZ r.feet k (ptAt r.feet j)) → ∀ j', j' < j + 1 → j' ≠ k → j' ≠ (k + 1) % r.feet.length → 0 < armZ r.feet k (ptAt r.feet j')) := fun h j' h1 h2 h3 => by
                    rcases Nat.lt_or_ge j' j with h7 | h7
                    · exact Hin.out j' h7 h2 h3
                    · obtain rfl : j' = j := by omega
                      exact h h2 (by rw [hq]; exact h3)
                  obtain ⟨zz, hzz⟩ : ∃ zz, zz = armZ r.feet k (ptAt r.feet j) := ⟨_, rfl⟩
                  rw [← hzz] at Harm Hno Hst
                  have Hz := Lib.hid hzz
                  clear hzz hq
                  generalize ptAt r.feet k = a at *
                  generalize ptAt r.feet q = m at *
                  generalize ptAt r.feet j = p at *
                  have zb : b < wr.heap.size := by omega
                  by_cases hjk : j = k
                  · have eA : ((j : Int) != (k : Int)) = false := by rw [hjk]; simp
                    have HJ := Lib.hid hjk
                    clear hjk
                    clear a0 a1 a2 m0 m1 m2 p0 p1 p2
                    go_upto_region 20 with (fail)
                    have S0 : (fun y : World => y.cell? ⟨w.heap.size, 1, none⟩ = some (.slice (some ⟨b, o, none⟩) r.feet.length R.c2)) wr.drew := q1
                    refine wp_region_held_drew (S := fun y : World => y.cell? ⟨w.heap.size, 1, none⟩ = some (.slice (some ⟨b, o, none⟩) r.feet.length R.c2)) (by kernel_rfl) S0 (fun hS => ?_)
                    refine wpAnyH_take (i := 0) (oi := ⟨some 106, _, _, _, _, _⟩) (v := ?tkvf0) rfl (by kernel_rfl) (by kernel_rfl) (by kernel_rfl) (fun _ _ _ h => h) (Or.inl ⟨by rfl, ?tkyf0⟩) (by assumption) ?tkrf0
                    case tkyf0 => (intro x hx; have hx0 := hx; go_simp; try with_reducible rfl)
                    case tkrf0 =>
                    simp only [Act.put, List.setIfInBounds_toArray, List.set_cons_zero, List.set_cons_succ]
                    refine wpAnyH_take (i := 1) (oi := ⟨some 107, _, _, _, _, _⟩) (v := ?tkvf1) rfl (by kernel_rfl) (by kernel_rfl) (by kernel_rfl) (fun _ _ _ h => h) (Or.inl ⟨by rfl, ?tkyf1⟩) (by assumption) ?tkrf1
                    case tkyf1 => (intro x hx; have hx0 := hx; go_simp; try with_reducible rfl)
                    case tkrf1 =>
                    simp only [Act.put, List.setIfInBounds_toArray, List.set_cons_zero, List.set_cons_succ]
                    refine wpAnyH_take (i := 2) (oi := ⟨some 108, _, _, _, _, _⟩) (v := ?tkvf2) rfl (by kernel_rfl) (by kernel_rfl) (by kernel_rfl) (fun _ _ _ h => h) (Or.inl ⟨by rfl, ?tkyf2⟩) (by assumption) ?tkrf2
                    case tkyf2 => (intro x hx; have hx0 := hx; go_simp; try with_reducible rfl)
                    case tkrf2 =>
                    simp only [Act.put, List.setIfInBounds_toArray, List.set_cons_zero, List.set_cons_succ]
                    refine wpAnyH_take (i := 3) (oi := ⟨some 109, _, _, _, _, _⟩) (v := ?tkvf3) rfl (by kernel_rfl) (by kernel_rfl) (by kernel_rfl) (fun _ _ _ h => h) (Or.inl ⟨by rfl, ?tkyf3⟩) (by assumption) ?tkrf3
                    case tkyf3 => (intro x hx; have hx0 := hx; go_simp; try with_reducible rfl)
                    case tkrf3 =>
                    simp only [Act.put, List.setIfInBounds_toArray, List.set_cons_zero, List.set_cons_succ]
                    refine wpAnyH_take (i := 4) (oi := ⟨some 110, _, _, _, _, _⟩) (v := undef) rfl (by kernel_rfl) (by kernel_rfl) (by kernel_rfl) (fun _ _ _ h => h) (Or.inr ⟨by rfl, rfl⟩) (by assumption) ?_
                    simp only [Act.put, List.setIfInBounds_toArray, List.set_cons_zero, List.set_cons_succ]
                    refine wpAnyH_take (i := 5) (oi := ⟨some 111, _, _, _, _, _⟩) (v := undef) rfl (by kernel_rfl) (by kernel_rfl) (by kernel_rfl) (fun _ _ _ h => h) (Or.inr ⟨by rfl, rfl⟩) (by assumption) ?_
                    simp only [Act.put, List.setIfInBounds_toArray, List.set_cons_zero, List.set_cons_succ]
                    refine wpAnyH_take (i := 6) (oi := ⟨some 112, _, _, _, _, _⟩) (v := undef) rfl (by kernel_rfl) (by kernel_rfl) (by kernel_rfl) (fun _ _ _ h => h) (Or.inr ⟨by rfl, rfl⟩) (by assumption) ?_
                    simp only [Act.put, List.setIfInBounds_toArray, List.set_cons_zero, List.set_cons_succ]
                    refine wpAnyH_take (i := 7) (oi := ⟨some 113, _, _, _, _, _⟩) (v := undef) rfl (by kernel_rfl) (by kernel_rfl) (by kernel_rfl) (fun _ _ _ h => h) (Or.inr ⟨by rfl, rfl⟩) (by assumption) ?_
                    simp only [Act.put, List.setIfInBounds_toArray, List.set_cons_zero, List.set_cons_succ]
                    refine wpAnyH_take (i := 8) (oi := ⟨some 114, _, _, _, _, _⟩) (v := undef) rfl (by kernel_rfl) (by kernel_rfl) (by kernel_rfl) (fun _ _ _ h => h) (Or.inr ⟨by rfl, rfl⟩) (by assumption) ?_
                    simp only [Act.put, List.setIfInBounds_toArray, List.set_cons_zero, List.set_cons_succ]
                    refine wpAnyH_take (i := 9) (oi := ⟨some 115, _, _, _, _, _⟩) (v := undef) rfl (by kernel_rfl) (by kernel_rfl) (by kernel_rfl) (fun _ _ _ h => h) (Or.inr ⟨by rfl, rfl⟩) (by assumption) ?_
                    simp only [Act.put, List.setIfInBounds_toArray, List.set_cons_zero, List.set_cons_succ]
                    refine wpAnyH_take (i := 10) (oi := ⟨some 116, _, _, _, _, _⟩) (v := ?tkvf10) rfl (by kernel_rfl) (by kernel_rfl) (by kernel_rfl) (fun _ _ _ h => h) (Or.inl ⟨by rfl, ?tkyf10⟩) (by assumption) ?tkrf10
                    case tkyf10 => (intro x hx; have hx0 := hx; go_simp; try with_reducible rfl)
                    case tkrf10 =>
                    simp only [Act.put, List.setIfInBounds_toArray, List.set_cons_zero, List.set_cons_succ]
                    refine wpAnyH_take (i := 11) (oi := ⟨some 117, _, _, _, _, _⟩) (v := ?tkvf11) rfl (by kernel_rfl) (by kernel_rfl) (by kernel_rfl) (fun _ _ _ h => h) (Or.inl ⟨by rfl, ?tkyf11⟩) (by assumption) ?tkrf11
                    case tkyf11 => (intro x hx; have hx0 := hx; go_simp; try with_reducible rfl)
                    case tkrf11 =>
                    simp only [Act.put, List.setIfInBounds_toArray, List.set_cons_zero, List.set_cons_succ]
                    refine wpAnyH_take (i := 12) (oi := ⟨some 118, _, _, _, _, _⟩) (v := undef) rfl (by kernel_rfl) (by kernel_rfl) (by kernel_rfl) (fun _ _ _ h => h) (Or.inr ⟨by rfl, rfl⟩) (by assumption) ?_
                    simp only [Act.put, List.setIfInBounds_toArray, List.set_cons_zero, List.set_cons_succ]
                    refine wpAnyH_take (i := 13) (oi := ⟨some 119, _, _, _, _, _⟩) (v := undef) rfl (by kernel_rfl) (by kernel_rfl) (by kernel_rfl) (fun _ _ _ h => h) (Or.inr ⟨by rfl, rfl⟩) (by assumption) ?_
                    simp only [Act.put, List.setIfInBounds_toArray, List.set_cons_zero, List.set_cons_succ]
                    refine wpAnyH_take (i := 14) (oi := ⟨some 120, _, _, _, _, _⟩) (v := undef) rfl (by kernel_rfl) (by kernel_rfl) (by kernel_rfl) (fun _ _ _ h => h) (Or.inr ⟨by rfl, rfl⟩) (by assumption) ?_
                    simp only [Act.put, List.setIfInBounds_toArray, List.set_cons_zero, List.set_cons_succ]
                    refine wpAnyH_take (i := 15) (oi := ⟨some 121, _, _, _, _, _⟩) (v := undef) rfl (by kernel_rfl) (by kernel_rfl) (by kernel_rfl) (fun _ _ _ h => h) (Or.inr ⟨by rfl, rfl⟩) (by assumption) ?_
                    simp only [Act.put, List.setIfInBounds_toArray, List.set_cons_zero, List.set_cons_succ]
                    refine wpAnyH_take (i := 16) (oi := ⟨some 122, _, _, _, _, _⟩) (v := undef) rfl (by kernel_rfl) (by kernel_rfl) (by kernel_rfl) (fun _ _ _ h => h) (Or.inr ⟨by rfl, rfl⟩) (by assumption) ?_
                    simp only [Act.put, List.setIfInBounds_toArray, List.set_cons_zero, List.set_cons_succ]
                    refine wpAnyH_take (i := 17) (oi := ⟨some 123, _, _, _, _, _⟩) (v := undef) rfl (by kernel_rfl) (by kernel_rfl) (by kernel_rfl) (fun _ _ _ h => h) (Or.inr ⟨by rfl, rfl⟩) (by assumption) ?_
                    simp only [Act.put, List.setIfInBounds_toArray, List.set_cons_zero, List.set_cons_succ]
                    refine wpAnyH_take (i := 18) (oi := ⟨some 124, _, _, _, _, _⟩) (v := undef) rfl (by kernel_rfl) (by kernel_rfl) (by kernel_rfl) (fun _ _ _ h => h) (Or.inr ⟨by rfl, rfl⟩) (by assumption) ?_
                    simp only [Act.put, List.setIfInBounds_toArray, List.set_cons_zero, List.set_cons_succ]
                    refine wpAnyH_take (i := 19) (oi := ⟨some 125, _, _, _, _, _⟩) (v := undef) rfl (by kernel_rfl) (by kernel_rfl) (by kernel_rfl) (fun _ _ _ h => h) (Or.inr ⟨by rfl, rfl⟩) (by assumption) ?_
                    simp only [Act.put, List.setIfInBounds_toArray, List.set_cons_zero, List.set_cons_succ]
                    refine wpAnyH_take (i := 20) (oi := ⟨some 126, _, _, _, _, _⟩) (v := undef) rfl (by kernel_rfl) (by kernel_rfl) (by kernel_rfl) (fun _ _ _ h => h) (Or.inr ⟨by rfl, rfl⟩) (by assumption) ?_
                    simp only [Act.put, List.setIfInBounds_toArray, List.set_cons_zero, List.set_cons_succ]
                    refine wpAnyH_take (i := 21) (oi := ⟨some 127, _, _, _, _, _⟩) (v := undef) rfl (by kernel_rfl) (by kernel_rfl) (by kernel_rfl) (fun _ _ _ h => h) (Or.inr ⟨by rfl, rfl⟩) (by assumption) ?_
                    simp only [Act.put, List.setIfInBounds_toArray, List.set_cons_zero, List.set_cons_succ]
                    refine wpAnyH_take (i := 22) (oi := ⟨some 128, _, _, _, _, _⟩) (v := undef) rfl (by kernel_rfl) (by kernel_rfl) (by kernel_rfl) (fun _ _ _ h => h) (Or.inr ⟨by rfl, rfl⟩) (by assumption) ?_
                    simp only [Act.put, List.setIfInBounds_toArray, List.set_cons_zero, List.set_cons_succ]
                    refine wpAnyH_take (i := 23) (oi := ⟨some 129, _, _, _, _, _⟩) (v := undef) rfl (by kernel_rfl) (by kernel_rfl) (by kernel_rfl) (fun _ _ _ h => h) (Or.inr ⟨by rfl, rfl⟩) (by assumption) ?_
                    simp only [Act.put, List.setIfInBounds_toArray, List.set_cons_zero, List.set_cons_succ]
                    refine wpAnyH_take (i := 24) (oi := ⟨some 130, _, _, _, _, _⟩) (v := undef) rfl (by kernel_rfl) (by kernel_rfl) (by kernel_rfl) (fun _ _ _ h => h) (Or.inr ⟨by rfl, rfl⟩) (by assumption) ?_
                    simp only [Act.put, List.setIfInBounds_toArray, List.set_cons_zero, List.set_cons_succ]
                    refine wpAnyH_take (i := 25) (oi := ⟨some 131, _, _, _, _, _⟩) (v := undef) rfl (by kernel_rfl) (by kernel_rfl) (by kernel_rfl) (fun _ _ _ h => h) (Or.inr ⟨by rfl, rfl⟩) (by assumption) ?_
                    simp only [Act.put, List.setIfInBounds_toArray, List.set_cons_zero, List.set_cons_succ]
                    refine wpAnyH_take (i := 26) (oi := ⟨some 132, _, _, _, _, _⟩) (v := undef) rfl (by kernel_rfl) (by kernel_rfl) (by kernel_rfl) (fun _ _ _ h => h) (Or.inr ⟨by rfl, rfl⟩) (by assumption) ?_
                    simp only [Act.put, List.setIfInBounds_toArray, List.set_cons_zero, List.set_cons_succ]
                    refine wpAnyH_take (i := 27) (oi := ⟨some 133, _, _, _, _, _⟩) (v := undef) rfl (by kernel_rfl) (by kernel_rfl) (by kernel_rfl) (fun _ _ _ h => h) (Or.inr ⟨by rfl, rfl⟩) (by assumption) ?_
                    simp only [Act.put, List.setIfInBounds_toArray, List.set_cons_zero, List.set_cons_succ]
                    refine wpAnyH_take (i := 28) (oi := ⟨some 134, _, _, _, _, _⟩) (v := undef) rfl (by kernel_rfl) (by kernel_rfl) (by kernel_rfl) (fun _ _ _ h => h) (Or.inr ⟨by rfl, rfl⟩) (by assumption) ?_
                    simp only [Act.put, List.setIfInBounds_toArray, List.set_cons_zero, List.set_cons_succ]
                    refine wpAnyH_take (i := 29) (oi := ⟨some 135, _, _, _, _, _⟩) (v := undef) rfl (by kernel_rfl) (by kernel_rfl) (by kernel_rfl) (fun _ _ _ h => h) (Or.inr ⟨by rfl, rfl⟩) (by assumption) ?_
                    simp only [Act.put, List.setIfInBounds_toArray, List.set_cons_zero, List.set_cons_succ]
                    refine wpAnyH_take (i := 30) (oi := ⟨some 136, _, _, _, _, _⟩) (v := undef) rfl (by kernel_rfl) (by kernel_rfl) (by kernel_rfl) (fun _ _ _ h => h) (Or.inr ⟨by rfl, rfl⟩) (by assumption) ?_
                    simp only [Act.put, List.setIfInBounds_toArray, List.set_cons_zero, List.set_cons_succ]
                    refine wpAnyH_take (i := 31) (oi := ⟨some 137, _, _, _, _, _⟩) (v := undef) rfl (by kernel_rfl) (by kernel_rfl) (by kernel_rfl) (fun _ _ _ h => h) (Or.inr ⟨by rfl, rfl⟩) (by assumption) ?_
                    simp only [Act.put, List.setIfInBounds_toArray, List.set_cons_zero, List.set_cons_succ]
                    refine wpAnyH_take (i := 32) (oi := ⟨some 138, _, _, _, _, _⟩) (v := ?tkvf32) rfl (by kernel_rfl) (by kernel_rfl) (by kernel_rfl) (fun _ _ _ h => h) (Or.inl ⟨by rfl, ?tkyf32⟩) (by assumption) ?tkrf32
                    case tkyf32 => (intro x hx; have hx0 := hx; go_simp; try with_reducible rfl)
                    case tkrf32 =>
                    simp only [Act.put, List.setIfInBounds_toArray, List.set_cons_zero, List.set_cons_succ]
                    refine wpAnyH_done (by kernel_rfl) ?_ _
                    go_wp2_with fail
                    go_roundw
                    case rel =>
                      have HH := Hst.out (fun h => absurd HJ.out h)
                      refine ⟨j + 1, by omega, by go_num, ?_⟩
                      first | exact ⟨Below.drew hbel, hrow.drew, HH⟩ | exact ⟨hrow.drew, HH⟩
                    case measure => simp [intOf]; omega
                  · have n1 : ((j : Int) != (k : Int)) = true := by rw [bne_iff_ne]; omega
                    by_cases hjq : j = q
                    · have eB : ((j : Int) != (q : Int)) = false := by rw [hjq]; simp
                      have HJ := Lib.hid hjq
                      clear hjq
                      clear a0 a1 a2 m0 m1 m2 p0 p1 p2
                      go_upto_region 20 with (fail)
                      have S0 : (fun y : World => y.cell? ⟨w.heap.size, 1, none⟩ = some (.slice (some ⟨b, o, none⟩) r.feet.length R.c2)) wr.drew := q1
                      refine wp_region_held_drew (S := fun y : World => y.cell? ⟨w.heap.size, 1, none⟩ = some (.slice (some ⟨b, o, none⟩) r.feet.length R.c2)) (by kernel_rfl) S0 (fun hS => ?_)
                      refine wpAnyH_take (i := 0) (oi := ⟨some 106, _, _, _, _, _⟩) (v := ?tkvg0) rfl (by kernel_rfl) (by kernel_rfl) (by kernel_rfl) (fun _ _ _ h => h) (Or.inl ⟨by rfl, ?tkyg0⟩) (by assumption) ?tkrg0
                      case tkyg0 => (intro x hx; have hx0 := hx; go_simp; try with_reducible rfl)
                      case tkrg0 =>
                      simp only [Act.put, List.setIfInBounds_toArray, List.set_cons_zero, List.set_cons_succ]
                      refine wpAnyH_take (i := 1) (oi := ⟨some 107, _, _, _, _, _⟩) (v := ?tkvg1) rfl (by kernel_rfl) (by kernel_rfl) (by kernel_rfl) (fun _ _ _ h => h) (Or.inl ⟨by rfl, ?tkyg1⟩) (by assumption) ?tkrg1
                      case tkyg1 => (intro x hx; have hx0 := hx; go_simp; try with_reducible rfl)
                      case tkrg1 =>
                      simp only [Act.put, List.setIfInBounds_toArray, List.set_cons_zero, List.set_cons_succ]
                      refine wpAnyH_take (i := 2) (oi := ⟨some 108, _, _, _, _, _⟩) (v := ?tkvg2) rfl (by kernel_rfl) (by kernel_rfl) (by kernel_rfl) (fun _ _ _ h => h) (Or.inl ⟨by rfl, ?tkyg2⟩) (by assumption) ?tkrg2
                      case tkyg2 => (intro x hx; have hx0 := hx; go_simp; try with_reducible rfl)
                      case tkrg2 =>
                      simp only [Act.put, List.setIfInBounds_toArray, List.set_cons_zero, List.set_cons_succ]
                      refine wpAnyH_take (i := 3) (oi := ⟨some 109, _, _, _, _, _⟩) (v := ?tkvg3) rfl (by kernel_rfl) (by kernel_rfl) (by kernel_rfl) (fun _ _ _ h => h) (Or.inl ⟨by rfl, ?tkyg3⟩) (by assumption) ?tkrg3
                      case tkyg3 => (intro x hx; have hx0 := hx; go_simp; try with_reducible rfl)
                      case tkrg3 =>
                      simp only [Act.put, List.setIfInBounds_toArray, List.set_cons_zero, List.set_cons_succ]
                      refine wpAnyH_take (i := 4) (oi := ⟨some 110, _, _, _, _, _⟩) (v := ?tkvg4) rfl (by kernel_rfl) (by kernel_rfl) (by kernel_rfl) (fun _ _ _ h => h) (Or.inl ⟨by rfl, ?tkyg4⟩) (by assumption) ?tkrg4
                      case tkyg4 => (intro x hx; have hx0 := hx; go_simp; try with_reducible rfl)
                      case tkrg4 =>
                      simp only [Act.put, List.setIfInBounds_toArray, List.set_cons_zero, List.set_cons_succ]
                      refine wpAnyH_take (i := 5) (oi := ⟨some 111, _, _, _, _, _⟩) (v := ?tkvg5) rfl (by kernel_rfl) (by kernel_rfl) (by kernel_rfl) (fun _ _ _ h => h) (Or.inl ⟨by rfl, ?tkyg5⟩) (by assumption) ?tkrg5
                      case tkyg5 => (intro x hx; have hx0 := hx; go_simp; try with_reducible rfl)
                      case tkrg5 =>
                      simp only [Act.put, List.setIfInBounds_toArray, List.set_cons_zero, List.set_cons_succ]
                      refine wpAnyH_take (i := 6) (oi := ⟨some 112, _, _, _, _, _⟩) (v := ?tkvg6) rfl (by kernel_rfl) (by kernel_rfl) (by kernel_rfl) (fun _ _ _ h => h) (Or.inl ⟨by rfl, ?tkyg6⟩) (by assumption) ?tkrg6
                      case tkyg6 => (intro x hx; have hx0 := hx; go_simp; try with_reducible rfl)
                      case tkrg6 =>
                      simp only [Act.put, List.setIfInBounds_toArray, List.set_cons_zero, List.set_cons_succ]
                      refine wpAnyH_take (i := 7) (oi := ⟨some 113, _, _, _, _, _⟩) (v := ?tkvg7) rfl (by kernel_rfl) (by kernel_rfl) (by kernel_rfl) (fun _ _ _ h => h) (Or.inl ⟨by rfl, ?tkyg7⟩) (by assumption) ?tkrg7
                      case tkyg7 => (intro x hx; have hx0 := hx; go_simp; try with_reducible rfl)
                      case tkrg7 =>
                      simp only [Act.put, List.setIfInBounds_toArray, List.set_cons_zero, List.set_cons_succ]
                      refine wpAnyH_take (i := 8) (oi := ⟨some 114, _, _, _, _, _⟩) (v := ?tkvg8) rfl (by kernel_rfl) (by kernel_rfl) (by kernel_rfl) (fun _ _ _ h => h) (Or.inl ⟨by rfl, ?tkyg8⟩) (by assumption) ?tkrg8
                      case tkyg8 => (intro x hx; have hx0 := hx; go_simp; try with_reducible rfl)
                      case tkrg8 =>
                      simp only [Act.put, List.setIfInBounds_toArray, List.set_cons_zero, List.set_cons_succ]
                      refine wpAnyH_take (i := 9) (oi := ⟨some 115, _, _, _, _, _⟩) (v := ?tkvg9) rfl (by kernel_rfl) (by kernel_rfl) (by kernel_rfl) (fun _ _ _ h => h) (Or.inl ⟨by rfl, ?tkyg9⟩) (by assumption) ?tkrg9
                      case tkyg9 => (intro x hx; have hx0 := hx; go_simp; try with_reducible rfl)
                      case tkrg9 =>
                      simp only [Act.put, List.setIfInBounds_toArray, List.set_cons_zero, List.set_cons_succ]
                      refine wpAnyH_take (i := 10) (oi := ⟨some 116, _, _, _, _, _⟩) (v := ?tkvg10) rfl (by kernel_rfl) (by kernel_rfl) (by kernel_rfl) (fun _ _ _ h => h) (Or.inl ⟨by rfl, ?tkyg10⟩) (by assumption) ?tkrg10
                      case tkyg10 => (intro x hx; have hx0 := hx; go_simp; try with_reducible rfl)
                      case tkrg10 =>
                      simp only [Act.put, List.setIfInBounds_toArray, List.set_cons_zero, List.set_cons_succ]
                      refine wpAnyH_take (i := 11) (oi := ⟨some 117, _, _, _, _, _⟩) (v := ?tkvg11) rfl (by kernel_rfl) (by kernel_rfl) (by kernel_rfl) (fun _ _ _ h => h) (Or.inl ⟨by rfl, ?tkyg11⟩) (by assumption) ?tkrg11
                      case tkyg11 => (intro x hx; have hx0 := hx; go_simp; try with_reducible rfl)
                      case tkrg11 =>
                      simp only [Act.put, List.setIfInBounds_toArray, List.set_cons_zero, List.set_cons_succ]
                      refine wpAnyH_take (i := 12) (oi := ⟨some 118, _, _, _, _, _⟩) (v := undef) rfl (by kernel_rfl) (by kernel_rfl) (by kernel_rfl) (fun _ _ _ h => h) (Or.inr ⟨by rfl, rfl⟩) (by assumption) ?_
                      simp only [Act.put, List.setIfInBounds_toArray, List.set_cons_zero, List.set_cons_succ]
                      refine wpAnyH_take (i := 13) (oi := ⟨some 119, _, _, _, _, _⟩) (v := undef) rfl (by kernel_rfl) (by kernel_rfl) (by kernel_rfl) (fun _ _ _ h => h) (Or.inr ⟨by rfl, rfl⟩) (by assumption) ?_
                      simp only [Act.put, List.setIfInBounds_toArray, List.set_cons_zero, List.set_cons_succ]
                      refine wpAnyH_take (i := 14) (oi := ⟨some 120, _, _, _, _, _⟩) (v := undef) rfl (by kernel_rfl) (by kernel_rfl) (by kernel_rfl) (fun _ _ _ h => h) (Or.inr ⟨by rfl, rfl⟩) (by assumption) ?_
                      simp only [Act.put, List.setIfInBounds_toArray, List.set_cons_zero, List.set_cons_succ]
                      refine wpAnyH_take (i := 15) (oi := ⟨some 121, _, _, _, _, _⟩) (v := undef) rfl (by kernel_rfl) (by kernel_rfl) (by kernel_rfl) (fun _ _ _ h => h) (Or.inr ⟨by rfl, rfl⟩) (by assumption) ?_
                      simp only [Act.put, List.setIfInBounds_toArray, List.set_cons_zero, List.set_cons_succ]
                      refine wpAnyH_take (i := 16) (oi := ⟨some 122, _, _, _, _, _⟩) (v := undef) rfl (by kernel_rfl) (by kernel_rfl) (by kernel_rfl) (fun _ _ _ h => h) (Or.inr ⟨by rfl, rfl⟩) (by assumption) ?_
                      simp only [Act.put, List.setIfInBounds_toArray, List.set_cons_zero, List.set_cons_succ]
                      refine wpAnyH_take (i := 17) (oi := ⟨some 123, _, _, _, _, _⟩) (v := undef) rfl (by kernel_rfl) (by kernel_rfl) (by kernel_rfl) (fun _ _ _ h => h) (Or.inr ⟨by rfl, rfl⟩) (by assumption) ?_
                      simp only [Act.put, List.setIfInBounds_toArray, List.set_cons_zero, List.set_cons_succ]
                      refine wpAnyH_take (i := 18) (oi := ⟨some 124, _, _, _, _, _⟩) (v := undef) rfl (by kernel_rfl) (by kernel_rfl) (by kernel_rfl) (fun _ _ _ h => h) (Or.inr ⟨by rfl, rfl⟩) (by assumption) ?_
                      simp only [Act.put, List.setIfInBounds_toArray, List.set_cons_zero, List.set_cons_succ]
                      refine wpAnyH_take (i := 19) (oi := ⟨some 125, _, _, _, _, _⟩) (v := undef) rfl (by kernel_rfl) (by kernel_rfl) (by kernel_rfl) (fun _ _ _ h => h) (Or.inr ⟨by rfl, rfl⟩) (by assumption) ?_
                      simp only [Act.put, List.setIfInBounds_toArray, List.set_cons_zero, List.set_cons_succ]
                      refine wpAnyH_take (i := 20) (oi := ⟨some 126, _, _, _, _, _⟩) (v := undef) rfl (by kernel_rfl) (by kernel_rfl) (by kernel_rfl) (fun _ _ _ h => h) (Or.inr ⟨by rfl, rfl⟩) (by assumption) ?_
                      simp only [Act.put, List.setIfInBounds_toArray, List.set_cons_zero, List.set_cons_succ]
                      refine wpAnyH_take (i := 21) (oi := ⟨some 127, _, _, _, _, _⟩) (v := undef) rfl (by kernel_rfl) (by kernel_rfl) (by kernel_rfl) (fun _ _ _ h => h) (Or.inr ⟨by rfl, rfl⟩) (by assumption) ?_
                      simp only [Act.put, List.setIfInBounds_toArray, List.set_cons_zero, List.set_cons_succ]
                      refine wpAnyH_take (i := 22) (oi := ⟨some 128, _, _, _, _, _⟩) (v := undef) rfl (by kernel_rfl) (by kernel_rfl) (by kernel_rfl) (fun _ _ _ h => h) (Or.inr ⟨by rfl, rfl⟩) (by assumption) ?_
                      simp only [Act.put, List.setIfInBounds_toArray, List.set_cons_zero, List.set_cons_succ]
                      refine wpAnyH_take (i := 23) (oi := ⟨some 129, _, _, _, _, _⟩) (v := undef) rfl (by kernel_rfl) (by kernel_rfl) (by kernel_rfl) (fun _ _ _ h => h) (Or.inr ⟨by rfl, rfl⟩) (by assumption) ?_
                      simp only [Act.put, List.setIfInBounds_toArray, List.set_cons_zero, List.set_cons_succ]
                      refine wpAnyH_take (i := 24) (oi := ⟨some 130, _, _, _, _, _⟩) (v := undef) rfl (by kernel_rfl) (by kernel_rfl) (by kernel_rfl) (fun _ _ _ h => h) (Or.inr ⟨by rfl, rfl⟩) (by assumption) ?_
                      simp only [Act.put, List.setIfInBounds_toArray, List.set_cons_zero, List.set_cons_succ]
                      refine wpAnyH_take (i := 25) (oi := ⟨some 131, _, _, _, _, _⟩) (v := undef) rfl (by kernel_rfl) (by kernel_rfl) (by kernel_rfl) (fun _ _ _ h => h) (Or.inr ⟨by rfl, rfl⟩) (by assumption) ?_
                      simp only [Act.put, List.setIfInBounds_toArray, List.set_cons_zero, List.set_cons_succ]
                      refine wpAnyH_take (i := 26) (oi := ⟨some 132, _, _, _, _, _⟩) (v := undef) rfl (by kernel_rfl) (by kernel_rfl) (by kernel_rfl) (fun _ _ _ h => h) (Or.inr ⟨by rfl, rfl⟩) (by assumption) ?_
                      simp only [Act.put, List.setIfInBounds_toArray, List.set_cons_zero, List.set_cons_succ]
                      refine wpAnyH_take (i := 27) (oi := ⟨some 133, _, _, _, _, _⟩) (v := undef) rfl (by kernel_rfl) (by kernel_rfl) (by kernel_rfl) (fun _ _ _ h => h) (Or.inr ⟨by rfl, rfl⟩) (by assumption) ?_
                      simp only [Act.put, List.setIfInBounds_toArray, List.set_cons_zero, List.set_cons_succ]
                      refine wpAnyH_take (i := 28) (oi := ⟨some 134, _, _, _, _, _⟩) (v := undef) rfl (by kernel_rfl) (by kernel_rfl) (by kernel_rfl) (fun _ _ _ h => h) (Or.inr ⟨by rfl, rfl⟩) (by assumption) ?_
                      simp only [Act.put, List.setIfInBounds_toArray, List.set_cons_zero, List.set_cons_succ]
                      refine wpAnyH_take (i := 29) (oi := ⟨some 135, _, _, _, _, _⟩) (v := undef) rfl (by kernel_rfl) (by kernel_rfl) (by kernel_rfl) (fun _ _ _ h => h) (Or.inr ⟨by rfl, rfl⟩) (by assumption) ?_
                      simp only [Act.put, List.setIfInBounds_toArray, List.set_cons_zero, List.set_cons_succ]
                      refine wpAnyH_take (i := 30) (oi := ⟨some 136, _, _, _, _, _⟩) (v := undef) rfl (by kernel_rfl) (by kernel_rfl) (by kernel_rfl) (fun _ _ _ h => h) (Or.inr ⟨by rfl, rfl⟩) (by assumption) ?_
                      simp only [Act.put, List.setIfInBounds_toArray, List.set_cons_zero, List.set_cons_succ]
                      refine wpAnyH_take (i := 31) (oi := ⟨some 137, _, _, _, _, _⟩) (v := undef) rfl (by kernel_rfl) (by kernel_rfl) (by kernel_rfl) (fun _ _ _ h => h) (Or.inr ⟨by rfl, rfl⟩) (by assumption) ?_
                      simp only [Act.put, List.setIfInBounds_toArray, List.set_cons_zero, List.set_cons_succ]
                      refine wpAnyH_take (i := 32) (oi := ⟨some 138, _, _, _, _, _⟩) (v := ?tkvg32) rfl (by kernel_rfl) (by kernel_rfl) (by kernel_rfl) (fun _ _ _ h => h) (Or.inl ⟨by rfl, ?tkyg32⟩) (by assumption) ?tkrg32
                      case tkyg32 => (intro x hx; have hx0 := hx; go_simp; try with_reducible rfl)
                      case tkrg32 =>
                      simp only [Act.put, List.setIfInBounds_toArray, List.set_cons_zero, List.set_cons_succ]
                      refine wpAnyH_done (by kernel_rfl) ?_ _
                      go_wp2_with fail
                      go_roundw
                      case rel =>
                        have HH := Hst.out (fun _ h => absurd HJ.out h)
                        refine ⟨j + 1, by omega, by go_num, ?_⟩
                        first | exact ⟨Below.drew hbel, hrow.drew, HH⟩ | exact ⟨hrow.drew, HH⟩
                      case measure => simp [intOf]; omega
                    · have n2 : ((j : Int) != (q : Int)) = true := by rw [bne_iff_ne]; omega
                      go_upto_region 20 with (fail)
                      have S0 : (fun y : World => y.cell? ⟨w.heap.size, 1, none⟩ = some (.slice (some ⟨b, o, none⟩) r.feet.length R.c2) ∧ y.cell? ⟨b, o + k * 3, none⟩ = some (.int .i64 a.x) ∧ y.cell? ⟨b, o + k * 3 + 1, none⟩ = some (.int .i64 a.y) ∧ y.cell? ⟨b, o + k * 3 + 2, none⟩ = some (.int .i64 a.z) ∧ y.cell? ⟨b, o + q * 3, none⟩ = some (.int .i64 m.x) ∧ y.cell? ⟨b, o + q * 3 + 1, none⟩ = some (.int .i64 m.y) ∧ y.cell? ⟨b, o + q * 3 + 2, none⟩ = some (.int .i64 m.z) ∧ y.cell? ⟨b, o + j * 3, none⟩ = some (.int .i64 p.x) ∧ y.cell? ⟨b, o + j * 3 + 1, none⟩ = some (.int .i64 p.y) ∧ y.cell? ⟨b, o + j * 3 + 2, none⟩ = some (.int .i64 p.z)) wr.drew := ⟨q1, a0, a1, a2, m0, m1, m2, p0, p1, p2⟩
                      refine wp_region_held_drew (S := fun y : World => y.cell? ⟨w.heap.size, 1, none⟩ = some (.slice (some ⟨b, o, none⟩) r.feet.length R.c2) ∧ y.cell? ⟨b, o + k * 3, none⟩ = some (.int .i64 a.x) ∧ y.cell? ⟨b, o + k * 3 + 1, none⟩ = some (.int .i64 a.y) ∧ y.cell? ⟨b, o + k * 3 + 2, none⟩ = some (.int .i64 a.z) ∧ y.cell? ⟨b, o + q * 3, none⟩ = some (.int .i64 m.x) ∧ y.cell? ⟨b, o + q * 3 + 1, none⟩ = some (.int .i64 m.y) ∧ y.cell? ⟨b, o + q * 3 + 2, none⟩ = some (.int .i64 m.z) ∧ y.cell? ⟨b, o + j * 3, none⟩ = some (.int .i64 p.x) ∧ y.cell? ⟨b, o + j * 3 + 1, none⟩ = some (.int .i64 p.y) ∧ y.cell? ⟨b, o + j * 3 + 2, none⟩ = some (.int .i64 p.z)) (by kernel_rfl) S0 (fun hS => ?_)
                      refine wpAnyH_take (i := 0) (oi := ⟨some 106, _, _, _, _, _⟩) (v := ?tkvh0) rfl (by kernel_rfl) (by kernel_rfl) (by kernel_rfl) (fun _ _ _ h => h) (Or.inl ⟨by rfl, ?tkyh0⟩) (by assumption) ?tkrh0
                      case tkyh0 => (intro x hx; obtain ⟨hx0, hx1, hx2, hx3, hx4, hx5, hx6, hx7, hx8, hx9⟩ := hx; go_simp; try with_reducible rfl)
                      case tkrh0 =>
                      simp only [Act.put, List.setIfInBounds_toArray, List.set_cons_zero, List.set_cons_succ]
                      refine wpAnyH_take (i := 1) (oi := ⟨some 107, _, _, _, _, _⟩) (v := ?tkvh1) rfl (by kernel_rfl) (by kernel_rfl) (by kernel_rfl) (fun _ _ _ h => h) (Or.inl ⟨by rfl, ?tkyh1⟩) (by assumption) ?tkrh1
                      case tkyh1 => (intro x hx; obtain ⟨hx0, hx1, hx2, hx3, hx4, hx5, hx6, hx7, hx8, hx9⟩ := hx; go_simp; try with_reducible rfl)
                      case tkrh1 =>
                      simp only [Act.put, List.setIfInBounds_toArray, List.set_cons_zero, List.set_cons_succ]
                      refine wpAnyH_take (i := 2) (oi := ⟨some 108, _, _, _, _, _⟩) (v := ?tkvh2) rfl (by kernel_rfl) (by kernel_rfl) (by kernel_rfl) (fun _ _ _ h => h) (Or.inl ⟨by rfl, ?tkyh2⟩) (by assumption) ?tkrh2
                      case tkyh2 => (intro x hx; obtain ⟨hx0, hx1, hx2, hx3, hx4, hx5, hx6, hx7, hx8, hx9⟩ := hx; go_simp; try with_reducible rfl)
                      case tkrh2 =>
                      simp only [Act.put, List.setIfInBounds_toArray, List.set_cons_zero, List.set_cons_succ]
                      refine wpAnyH_take (i := 3) (oi := ⟨some 109, _, _, _, _, _⟩) (v := ?tkvh3) rfl (by kernel_rfl) (by kernel_rfl) (by kernel_rfl) (fun _ _ _ h => h) (Or.inl ⟨by rfl, ?tkyh3⟩) (by assumption) ?tkrh3
                      case tkyh3 => (intro x hx; obtain ⟨hx0, hx1, hx2, hx3, hx4, hx5, hx6, hx7, hx8, hx9⟩ := hx; go_simp; try with_reducible rfl)
                      case tkrh3 =>
                      simp only [Act.put, List.setIfInBounds_toArray, List.set_cons_zero, List.set_cons_succ]
                      refine wpAnyH_take (i := 4) (oi := ⟨some 110, _, _, _, _, _⟩) (v := ?tkvh4) rfl (by kernel_rfl) (by kernel_rfl) (by kernel_rfl) (fun _ _ _ h => h) (Or.inl ⟨by rfl, ?tkyh4⟩) (by assumption) ?tkrh4
                      case tkyh4 => (intro x hx; obtain ⟨hx0, hx1, hx2, hx3, hx4, hx5, hx6, hx7, hx8, hx9⟩ := hx; go_simp; try with_reducible rfl)
                      case tkrh4 =>
                      simp only [Act.put, List.setIfInBounds_toArray, List.set_cons_zero, List.set_cons_succ]
                      refine wpAnyH_take (i := 5) (oi := ⟨some 111, _, _, _, _, _⟩) (v := ?tkvh5) rfl (by kernel_rfl) (by kernel_rfl) (by kernel_rfl) (fun _ _ _ h => h) (Or.inl ⟨by rfl, ?tkyh5⟩) (by assumption) ?tkrh5
                      case tkyh5 => (intro x hx; obtain ⟨hx0, hx1, hx2, hx3, hx4, hx5, hx6, hx7, hx8, hx9⟩ := hx; go_simp; try with_reducible rfl)
                      case tkrh5 =>
                      simp only [Act.put, List.setIfInBounds_toArray, List.set_cons_zero, List.set_cons_succ]
                      refine wpAnyH_take (i := 6) (oi := ⟨some 112, _, _, _, _, _⟩) (v := ?tkvh6) rfl (by kernel_rfl) (by kernel_rfl) (by kernel_rfl) (fun _ _ _ h => h) (Or.inl ⟨by rfl, ?tkyh6⟩) (by assumption) ?tkrh6
                      case tkyh6 => (intro x hx; obtain ⟨hx0, hx1, hx2, hx3, hx4, hx5, hx6, hx7, hx8, hx9⟩ := hx; go_simp; try with_reducible rfl)
                      case tkrh6 =>
                      simp only [Act.put, List.setIfInBounds_toArray, List.set_cons_zero, List.set_cons_succ]
                      refine wpAnyH_take (i := 7) (oi := ⟨some 113, _, _, _, _, _⟩) (v := ?tkvh7) rfl (by kernel_rfl) (by kernel_rfl) (by kernel_rfl) (fun _ _ _ h => h) (Or.inl ⟨by rfl, ?tkyh7⟩) (by assumption) ?tkrh7
                      case tkyh7 => (intro x hx; obtain ⟨hx0, hx1, hx2, hx3, hx4, hx5, hx6, hx7, hx8, hx9⟩ := hx; go_simp; try with_reducible rfl)
                      case tkrh7 =>
                      simp only [Act.put, List.setIfInBounds_toArray, List.set_cons_zero, List.set_cons_succ]
                      refine wpAnyH_take (i := 8) (oi := ⟨some 114, _, _, _, _, _⟩) (v := ?tkvh8) rfl (by kernel_rfl) (by kernel_rfl) (by kernel_rfl) (fun _ _ _ h => h) (Or.inl ⟨by rfl, ?tkyh8⟩) (by assumption) ?tkrh8
                      case tkyh8 => (intro x hx; obtain ⟨hx0, hx1, hx2, hx3, hx4, hx5, hx6, hx7, hx8, hx9⟩ := hx; go_simp; try with_reducible rfl)
                      case tkrh8 =>
                      simp only [Act.put, List.setIfInBounds_toArray, List.set_cons_zero, List.set_cons_succ]
                      refine wpAnyH_take (i := 9) (oi := ⟨some 115, _, _, _, _, _⟩) (v := ?tkvh9) rfl (by kernel_rfl) (by kernel_rfl) (by kernel_rfl) (fun _ _ _ h => h) (Or.inl ⟨by rfl, ?tkyh9⟩) (by assumption) ?tkrh9
                      case tkyh9 => (intro x hx; obtain ⟨hx0, hx1, hx2, hx3, hx4, hx5, hx6, hx7, hx8, hx9⟩ := hx; go_simp; try with_reducible rfl)
                      case tkrh9 =>
                      simp only [Act.put, List.setIfInBounds_toArray, List.set_cons_zero, List.set_cons_succ]
                      refine wpAnyH_take (i := 10) (oi := ⟨some 116, _, _, _, _, _⟩) (v := ?tkvh10) rfl (by kernel_rfl) (by kernel_rfl) (by kernel_rfl) (fun _ _ _ h => h) (Or.inl ⟨by rfl, ?tkyh10⟩) (by assumption) ?tkrh10
                      case tkyh10 => (intro x hx; obtain ⟨hx0, hx1, hx2, hx3, hx4, hx5, hx6, hx7, hx8, hx9⟩ := hx; go_simp; try with_reducible rfl)
                      case tkrh10 =>
                      simp only [Act.put, List.setIfInBounds_toArray, List.set_cons_zero, List.set_cons_succ]
                      refine wpAnyH_take (i := 11) (oi := ⟨some 117, _, _, _, _, _⟩) (v := ?tkvh11) rfl (by kernel_rfl) (by kernel_rfl) (by kernel_rfl) (fun _ _ _ h => h) (Or.inl ⟨by rfl, ?tkyh11⟩) (by assumption) ?tkrh11
                      case tkyh11 => (intro x hx; obtain ⟨hx0, hx1, hx2, hx3, hx4, hx5, hx6, hx7, hx8, hx9⟩ := hx; go_simp; try with_reducible rfl)
                      case tkrh11 =>
                      simp only [Act.put, List.setIfInBounds_toArray, List.set_cons_zero, List.set_cons_succ]
                      refine wpAnyH_take (i := 12) (oi := ⟨some 118, _, _, _, _, _⟩) (v := ?tkvh12) rfl (by kernel_rfl) (by kernel_rfl) (by kernel_rfl) (fun _ _ _ h => h) (Or.inl ⟨by rfl, ?tkyh12⟩) (by assumption) ?tkrh12
                      case tkyh12 => (intro x hx; obtain ⟨hx0, hx1, hx2, hx3, hx4, hx5, hx6, hx7, hx8, hx9⟩ := hx; go_simp; try with_reducible rfl)
                      case tkrh12 =>
                      simp only [Act.put, List.setIfInBounds_toArray, List.set_cons_zero, List.set_cons_succ]
                      refine wpAnyH_take (i := 13) (oi := ⟨some 119, _, _, _, _, _⟩) (v := ?tkvh13) rfl (by kernel_rfl) (by kernel_rfl) (by kernel_rfl) (fun _ _ _ h => h) (Or.inl ⟨by rfl, ?tkyh13⟩) (by assumption) ?tkrh13
                      case tkyh13 => (intro x hx; obtain ⟨hx0, hx1, hx2, hx3, hx4, hx5, hx6, hx7, hx8, hx9⟩ := hx; go_simp; try with_reducible rfl)
                      case tkrh13 =>
                      simp only [Act.put, List.setIfInBounds_toArray, List.set_cons_zero, List.set_cons_succ]
                      refine wpAnyH_take (i := 14) (oi := ⟨some 120, _, _, _, _, _⟩) (v := ?tkvh14) rfl (by kernel_rfl) (by kernel_rfl) (by kernel_rfl) (fun _ _ _ h => h) (Or.inl ⟨by rfl, ?tkyh14⟩) (by assumption) ?tkrh14
                      case tkyh14 => (intro x hx; obtain ⟨hx0, hx1, hx2, hx3, hx4, hx5, hx6, hx7, hx8, hx9⟩ := hx; go_simp; try with_reducible rfl)
                      case tkrh14 =>
                      simp only [Act.put, List.setIfInBounds_toArray, List.set_cons_zero, List.set_cons_succ]
                      refine wpAnyH_take (i := 15) (oi := ⟨some 121, _, _, _, _, _⟩) (v := ?tkvh15) rfl (by kernel_rfl) (by kernel_rfl) (by kernel_rfl) (fun _ _ _ h => h) (Or.inl ⟨by rfl, ?tkyh15⟩) (by assumption) ?tkrh15
                      case tkyh15 => (intro x hx; obtain ⟨hx0, hx1, hx2, hx3, hx4, hx5, hx6, hx7, hx8, hx9⟩ := hx; go_simp; try with_reducible rfl)
                      case tkrh15 =>
                      simp only [Act.put, List.setIfInBounds_toArray, List.set_cons_zero, List.set_cons_succ]
                      refine wpAnyH_take (i := 16) (oi := ⟨some 122, _, _, _, _, _⟩) (v := ?tkvh16) rfl (by kernel_rfl) (by kernel_rfl) (by kernel_rfl) (fun _ _ _ h => h) (Or.inl ⟨by rfl, ?tkyh16⟩) (by assumption) ?tkrh16
                      case tkyh16 => (intro x hx; obtain ⟨hx0, hx1, hx2, hx3, hx4, hx5, hx6, hx7, hx8, hx9⟩ := hx; go_simp; try with_reducible rfl)
                      case tkrh16 =>
                      simp only [Act.put, List.setIfInBounds_toArray, List.set_cons_zero, List.set_cons_succ]
                      refine wpAnyH_take (i := 17) (oi := ⟨some 123, _, _, _, _, _⟩) (v := ?tkvh17) rfl (by kernel_rfl) (by kernel_rfl) (by kernel_rfl) (fun _ _ _ h => h) (Or.inl ⟨by rfl, ?tkyh17⟩) (by assumption) ?tkrh17
                      case tkyh17 => (intro x hx; obtain ⟨hx0, hx1, hx2, hx3, hx4, hx5, hx6, hx7, hx8, hx9⟩ := hx; go_simp; try with_reducible rfl)
                      case tkrh17 =>
                      simp only [Act.put, List.setIfInBounds_toArray, List.set_cons_zero, List.set_cons_succ]
                      refine wpAnyH_take (i := 18) (oi := ⟨some 124, _, _, _, _, _⟩) (v := ?tkvh18) rfl (by kernel_rfl) (by kernel_rfl) (by kernel_rfl) (fun _ _ _ h => h) (Or.inl ⟨by rfl, ?tkyh18⟩) (by assumption) ?tkrh18
                      case tkyh18 => (intro x hx; obtain ⟨hx0, hx1, hx2, hx3, hx4, hx5, hx6, hx7, hx8, hx9⟩ := hx; go_simp; try with_reducible rfl)
                      case tkrh18 =>
                      simp only [Act.put, List.setIfInBounds_toArray, List.set_cons_zero, List.set_cons_succ]
                      refine wpAnyH_take (i := 19) (oi := ⟨some 125, _, _, _, _, _⟩) (v := ?tkvh19) rfl (by kernel_rfl) (by kernel_rfl) (by kernel_rfl) (fun _ _ _ h => h) (Or.inl ⟨by rfl, ?tkyh19⟩) (by assumption) ?tkrh19
                      case tkyh19 => (intro x hx; obtain ⟨hx0, hx1, hx2, hx3, hx4, hx5, hx6, hx7, hx8, hx9⟩ := hx; go_simp; try with_reducible rfl)
                      case tkrh19 =>
                      simp only [Act.put, List.setIfInBounds_toArray, List.set_cons_zero, List.set_cons_succ]
                      refine wpAnyH_take (i := 20) (oi := ⟨some 126, _, _, _, _, _⟩) (v := ?tkvh20) rfl (by kernel_rfl) (by kernel_rfl) (by kernel_rfl) (fun _ _ _ h => h) (Or.inl ⟨by rfl, ?tkyh20⟩) (by assumption) ?tkrh20
                      case tkyh20 => (intro x hx; obtain ⟨hx0, hx1, hx2, hx3, hx4, hx5, hx6, hx7, hx8, hx9⟩ := hx; go_simp; try with_reducible rfl)
                      case tkrh20 =>
                      simp only [Act.put, List.setIfInBounds_toArray, List.set_cons_zero, List.set_cons_succ]
                      refine wpAnyH_take (i := 21) (oi := ⟨some 127, _, _, _, _, _⟩) (v := ?tkvh21) rfl (by kernel_rfl) (by kernel_rfl) (by kernel_rfl) (fun _ _ _ h => h) (Or.inl ⟨by rfl, ?tkyh21⟩) (by assumption) ?tkrh21
                      case tkyh21 => (intro x hx; obtain ⟨hx0, hx1, hx2, hx3, hx4, hx5, hx6, hx7, hx8, hx9⟩ := hx; go_simp; try with_reducible rfl)
                      case tkrh21 =>
                      simp only [Act.put, List.setIfInBounds_toArray, List.set_cons_zero, List.set_cons_succ]
                      refine wpAnyH_take (i := 22) (oi := ⟨some 128, _, _, _, _, _⟩) (v := ?tkvh22) rfl (by kernel_rfl) (by kernel_rfl) (by kernel_rfl) (fun _ _ _ h => h) (Or.inl ⟨by rfl, ?tkyh22⟩) (by assumption) ?tkrh22
                      case tkyh22 => (intro x hx; obtain ⟨hx0, hx1, hx2, hx3, hx4, hx5, hx6, hx7, hx8, hx9⟩ := hx; go_simp; try with_reducible rfl)
                      case tkrh22 =>
                      simp only [Act.put, List.setIfInBounds_toArray, List.set_cons_zero, List.set_cons_succ]
                      refine wpAnyH_take (i := 23) (oi := ⟨some 129, _, _, _, _, _⟩) (v := ?tkvh23) rfl (by kernel_rfl) (by kernel_rfl) (by kernel_rfl) (fun _ _ _ h => h) (Or.inl ⟨by rfl, ?tkyh23⟩) (by assumption) ?tkrh23
                      case tkyh23 => (intro x hx; obtain ⟨hx0, hx1, hx2, hx3, hx4, hx5, hx6, hx7, hx8, hx9⟩ := hx; go_simp; try with_reducible rfl)
                      case tkrh23 =>
                      simp only [Act.put, List.setIfInBounds_toArray, List.set_cons_zero, List.set_cons_succ]
                      refine wpAnyH_take (i := 24) (oi := ⟨some 130, _, _, _, _, _⟩) (v := ?tkvh24) rfl (by kernel_rfl) (by kernel_rfl) (by kernel_rfl) (fun _ _ _ h => h) (Or.inl ⟨by rfl, ?tkyh24⟩) (by assumption) ?tkrh24
                      case tkyh24 => (intro x hx; obtain ⟨hx0, hx1, hx2, hx3, hx4, hx5, hx6, hx7, hx8, hx9⟩ := hx; go_simp; try with_reducible rfl)
                      case tkrh24 =>
                      simp only [Act.put, List.setIfInBounds_toArray, List.set_cons_zero, List.set_cons_succ]
                      refine wpAnyH_take (i := 25) (oi := ⟨some 131, _, _, _, _, _⟩) (v := ?tkvh25) rfl (by kernel_rfl) (by kernel_rfl) (by kernel_rfl) (fun _ _ _ h => h) (Or.inl ⟨by rfl, ?tkyh25⟩) (by assumption) ?tkrh25
                      case tkyh25 => (intro x hx; obtain ⟨hx0, hx1, hx2, hx3, hx4, hx5, hx6, hx7, hx8, hx9⟩ := hx; go_simp; try with_reducible rfl)
                      case tkrh25 =>
                      simp only [Act.put, List.setIfInBounds_toArray, List.set_cons_zero, List.set_cons_succ]
                      refine wpAnyH_take (i := 26) (oi := ⟨some 132, _, _, _, _, _⟩) (v := ?tkvh26) rfl (by kernel_rfl) (by kernel_rfl) (by kernel_rfl) (fun _ _ _ h => h) (Or.inl ⟨by rfl, ?tkyh26⟩) (by assumption) ?tkrh26
                      case tkyh26 => (intro x hx; obtain ⟨hx0, hx1, hx2, hx3, hx4, hx5, hx6, hx7, hx8, hx9⟩ := hx; go_simp; try with_reducible rfl)
                      case tkrh26 =>
                      simp only [Act.put, List.setIfInBounds_toArray, List.set_cons_zero, List.set_cons_succ]
                      refine wpAnyH_take (i := 27) (oi := ⟨some 133, _, _, _, _, _⟩) (v := ?tkvh27) rfl (by kernel_rfl) (by kernel_rfl) (by kernel_rfl) (fun _ _ _ h => h) (Or.inl ⟨by rfl, ?tkyh27⟩) (by assumption) ?tkrh27
                      case tkyh27 => (intro x hx; obtain ⟨hx0, hx1, hx2, hx3, hx4, hx5, hx6, hx7, hx8, hx9⟩ := hx; go_simp; try with_reducible rfl)
                      case tkrh27 =>
                      simp only [Act.put, List.setIfInBounds_toArray, List.set_cons_zero, List.set_cons_succ]
                      refine wpAnyH_take (i := 28) (oi := ⟨some 134, _, _, _, _, _⟩) (v := ?tkvh28) rfl (by kernel_rfl) (by kernel_rfl) (by kernel_rfl) (fun _ _ _ h => h) (Or.inl ⟨by rfl, ?tkyh28⟩) (by assumption) ?tkrh28
                      case tkyh28 => (intro x hx; obtain ⟨hx0, hx1, hx2, hx3, hx4, hx5, hx6, hx7, hx8, hx9⟩ := hx; go_simp; try with_reducible rfl)
                      case tkrh28 =>
                      simp only [Act.put, List.setIfInBounds_toArray, List.set_cons_zero, List.set_cons_succ]
                      refine wpAnyH_take (i := 29) (oi := ⟨some 135, _, _, _, _, _⟩) (v := ?tkvh29) rfl (by kernel_rfl) (by kernel_rfl) (by kernel_rfl) (fun _ _ _ h => h) (Or.inl ⟨by rfl, ?tkyh29⟩) (by assumption) ?tkrh29
                      case tkyh29 => (intro x hx; obtain ⟨hx0, hx1, hx2, hx3, hx4, hx5, hx6, hx7, hx8, hx9⟩ := hx; go_simp; try with_reducible rfl)
                      case tkrh29 =>
                      simp only [Act.put, List.setIfInBounds_toArray, List.set_cons_zero, List.set_cons_succ]
                      refine wpAnyH_ready (rs := [30]) (by kernel_rfl) (by simp) ?_
                      refine AllReadyH.cons (o := ⟨some 136, _, _, _, _, _⟩) rfl (fun K hK => ?_) AllReadyH.nil
                      rw [if_pos (show Region.wanted _ _ = true from by kernel_rfl)]
                      go_wp2_with (go_at_call 70; refine (rturn_at zz a m p Harm.out ha hm hp _).mono ?_; rintro e y1 ⟨rfl, hb1⟩)
                      have hyb := below_drewN_out' hb1
                      have b1 := hbel.trans (hyb.mono hs)
                      have r1 := hrow.below hyb hrow.lt
                      have q1 := (Row.at_8 r1).2.2.1
                      rw [HA.out] at q1
                      have a0 := (hyb.cell (p := ⟨b, o + k * 3, none⟩) zb).trans a0
                      have a1 := (hyb.cell (p := ⟨b, o + k * 3 + 1, none⟩) zb).trans a1
                      have a2 := (hyb.cell (p := ⟨b, o + k * 3 + 2, none⟩) zb).trans a2
                      have m0 := (hyb.cell (p := ⟨b, o + q * 3, none⟩) zb).trans m0
                      have m1 := (hyb.cell (p := ⟨b, o + q * 3 + 1, none⟩) zb).trans m1
                      have m2 := (hyb.cell (p := ⟨b, o + q * 3 + 2, none⟩) zb).trans m2
                      have p0 := (hyb.cell (p := ⟨b, o + j * 3, none⟩) zb).trans p0
                      have p1 := (hyb.cell (p := ⟨b, o + j * 3 + 1, none⟩) zb).trans p1
                      have p2 := (hyb.cell (p := ⟨b, o + j * 3 + 2, none⟩) zb).trans p2
                      refine hK.out _ _ (⟨q1, a0, a1, a2, m0, m1, m2, p0, p1, p2⟩) (fun hHeld => ?_)
                      by_cases hz0 : zz ≤ 0
                      · have hd : decide (zz ≤ 0) = true := by simpa using hz0
                        refine wpAnyH_take (i := 31) (oi := ⟨some 137, _, _, _, _, _⟩) (v := ?tkvl31) rfl (by kernel_rfl) (by kernel_rfl) (by kernel_rfl) (fun _ _ _ h => h) (Or.inl ⟨by rfl, ?tkyl31⟩) (by assumption) ?tkrl31
                        case tkyl31 => (intro x hx; obtain ⟨hx0, hx1, hx2, hx3, hx4, hx5, hx6, hx7, hx8, hx9⟩ := hx; go_simp; try with_reducible rfl)
                        case tkrl31 =>
                        simp only [Act.put, List.setIfInBounds_toArray, List.set_cons_zero, List.set_cons_succ]
                        refine wpAnyH_take (i := 32) (oi := ⟨some 138, _, _, _, _, _⟩) (v := ?tkvl32) rfl (by kernel_rfl) (by kernel_rfl) (by kernel_rfl) (fun _ _ _ h => h) (Or.inl ⟨by rfl, ?tkyl32⟩) (by assumption) ?tkrl32
                        case tkyl32 => (intro x hx; obtain ⟨hx0, hx1, hx2, hx3, hx4, hx5, hx6, hx7, hx8, hx9⟩ := hx; go_simp; try with_reducible rfl)
                        case tkrl32 =>
                        simp only [Act.put, List.setIfInBounds_toArray, List.set_cons_zero, List.set_cons_succ]
                        refine wpAnyH_done (by kernel_rfl) ?_ _
                        go_wp2_with fail
                        go_ret
                        exact ⟨ret_int (by rw [hno.out (Hno.out hjk hjq hz0)]), b1⟩
                      · have hd : decide (zz ≤ 0) = false := by simpa using hz0
                        refine wpAnyH_take (i := 31) (oi := ⟨some 137, _, _, _, _, _⟩) (v := ?tkvn31) rfl (by kernel_rfl) (by kernel_rfl) (by kernel_rfl) (fun _ _ _ h => h) (Or.inl ⟨by rfl, ?tkyn31⟩) (by assumption) ?tkrn31
                        case tkyn31 => (intro x hx; obtain ⟨hx0, hx1, hx2, hx3, hx4, hx5, hx6, hx7, hx8, hx9⟩ := hx; go_simp; try with_reducible rfl)
                        case tkrn31 =>
                        simp only [Act.put, List.setIfInBounds_toArray, List.set_cons_zero, List.set_cons_succ]
                        refine wpAnyH_take (i := 32) (oi := ⟨some 138, _, _, _, _, _⟩) (v := ?tkvn32) rfl (by kernel_rfl) (by kernel_rfl) (by kernel_rfl) (fun _ _ _ h => h) (Or.inl ⟨by rfl, ?tkyn32⟩) (by assumption) ?tkrn32
                        case tkyn32 => (intro x hx; obtain ⟨hx0, hx1, hx2, hx3, hx4, hx5, hx6, hx7, hx8, hx9⟩ := hx; go_simp; try with_reducible rfl)
                        case tkrn32 =>
                        simp only [Act.put, List.setIfInBounds_toArray, List.set_cons_zero, List.set_cons_succ]
                        refine wpAnyH_done (by kernel_rfl) ?_ _
                        go_wp2_with fail
                        go_roundw
                        case rel =>
                          have HH := Hst.out (fun _ _ => Int.not_le.1 hz0)
                          refine ⟨j + 1, by omega, by go_num, ?_⟩
                          first | exact ⟨b1, r1, HH⟩ | exact ⟨r1, HH⟩
                        case measure => simp [intOf]; omega
                · obtain rfl : j = r.feet.length := by omega
                  go_wp2_with fail
                  go_roundw
                  case rel =>
                    have HH : ∀ i, i < k + 1 → ∀ j, j < r.feet.length → j ≠ i → j ≠ (i + 1) % r.feet.length → 0 < armZ r.feet i (ptAt r.feet j) := fun i hi j hj h1 h2 => by
                      rcases Nat.lt_or_ge i k with h7 | h7
                      · exact Hall.out i h7 j hj h1 h2
                      · obtain rfl : i = k := by omega
                        exact Hin.out j hj h1 h2
                    refine ⟨k + 1, by omega, by go_num, ?_⟩
                    first | exact ⟨hbel, hrow, HH⟩ | exact ⟨hrow, HH⟩
                  case measure => simp [intOf]; omega
            · obtain rfl : k = r.feet.length := by omega
              go_wp2_with fail
              go_ret
              exact ⟨ret_int (by rw [H4.out Hall.out]), hbel⟩
end Go.Proofs.Ytkmiapfkebdpbaa
