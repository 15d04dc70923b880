/- Contracts of sideways and firstBeyond. Conditions: points that are felt, a valid limit. -/
import Derived.Test.YtkmiapfkebdpbaaKg
import Derived.Deep.RegionHeld3
import Derived.Test.YtkmiapfkebdpbaaKj
import Derived.Deep.DeepCutAuto
namespace Go.Proofs.Ytkmiapfkebdpbaa
open Go.RowKit

def feltB (p : Pt) : Bool := inB p.x (-40000) 40000 && inB p.y (-40000) 40000
theorem feltB_iff (p : Pt) : feltB p = true ↔ (-40000 ≤ p.x ∧ p.x ≤ 40000) ∧ (-40000 ≤ p.y ∧ p.y ≤ 40000) := by simp [feltB, inB]
/-- The number of the first point that does not keep the limit; -1: all keep it. -/
def beyondI (x : Lim) (l : List Pt) : Int := match l.findIdx? (fun p => !keptB x p) with | none => -1 | some k => k
theorem beyond_none {x : Lim} {l : List Pt} (h : l.all (keptB x) = true) : beyondI x l = -1 := by
  have e : l.findIdx? (fun p => !keptB x p) = none := by
    rw [List.findIdx?_eq_none_iff]
    intro p hp
    have := List.all_eq_true.1 h p hp
    simp [this]
  unfold beyondI
  rw [e]
theorem beyond_some {x : Lim} {l : List Pt} {k : Nat} (hk : k < l.length) (h : (l.take k).all (keptB x) = true) (hn : keptB x (ptAt l k) = false) : beyondI x l = k := by
  have e : l.findIdx? (fun p => !keptB x p) = some k := by
    rw [List.findIdx?_eq_some_iff_getElem]
    refine ⟨hk, ?_, fun j hj => ?_⟩
    · simp only [ptAt, List.getElem?_eq_getElem hk, Option.getD_some] at hn
      simp [hn]
    · have h1 := List.all_eq_true.1 h l[j] (by rw [List.mem_take_iff_getElem]; exact ⟨j, by omega, rfl⟩)
      simp [h1]
  unfold beyondI
  rw [e]

set_option maxHeartbeats 1000000 in
theorem sideways_any (p : Pt) (hp : feltB p = true) (w : World) :
    Calls Try.prog 58 #[ptV p] w fun e w' => e = .returned (.int .i64 (sideZ p)) ∧ Below w.heap.size w w' := by
  have hb := (feltB_iff p).1 hp
  have a := sq_bd (b := 40000) hb.1.1 hb.1.2
  have b := sq_bd (b := 40000) hb.2.1 hb.2.2
  obtain ⟨px, py, pz⟩ := p
  dsimp only at *
  obtain ⟨xx, hx⟩ : ∃ xx, xx = px * px := ⟨_, rfl⟩
  obtain ⟨yy, hy⟩ : ∃ yy, yy = py * py := ⟨_, rfl⟩
  have Hs : Hid (sideZ ⟨px, py, pz⟩ = xx + yy) := by show _ = _; rw [hx, hy]; rfl
  rw [← hx] at a
  rw [← hy] at b
  have e1 : IntKind.i64.wrap (px * px) = xx := by rw [← hx]; exact IntWalk.i64_in _ (by omega)
  have e2 : IntKind.i64.wrap (py * py) = yy := by rw [← hy]; exact IntWalk.i64_in _ (by omega)
  have e3 : IntKind.i64.wrap (xx + yy) = xx + yy := IntWalk.i64_in _ (by omega)
  clear hx hy a b hb hp
  unfold ptV
  go_enter Try.func58, Try.ntmps58
  go_wp2_with fail
  go_ret
  exact ⟨ret_int (by rw [Hs.out]), (Below.refl _ _).alloc (Nat.le_refl _) _⟩

theorem below_drewN_out {w w' : World} (h : Below w.drew.heap.size w.drew w') : Below w.heap.size w w' := ⟨h.os, h.tape, h.output, h.size, h.block⟩
theorem sideways_at (p : Pt) (s : Int) (hs : s = sideZ p) (hp : feltB p = true) (w : World) :
    Calls Try.prog 58 #[ptV p] w fun e w' => e = .returned (.int .i64 s) ∧ Below w.heap.size w w' := by
  subst hs
  exact sideways_any p hp w

set_option maxHeartbeats 4000000 in
set_option maxRecDepth 100000 in
theorem firstBeyond_any (x : Lim) (l : List Pt) (A : Option Addr) (n c B : Nat) (w : World) (hB : B ≤ w.heap.size) (hr : Reads w B 3 A n (ptCells l)) (hn : n ≤ maxLen) (hx : limB x = true) (hl : l.all feltB = true) :
    Calls Try.prog 54 #[limV x, .slice A n c] w fun e w' => e = .returned (.int .i64 (beyondI x l)) ∧ Below w.heap.size w w' := by
  unfold maxLen at hn
  have hx' := (limB_iff x).1 hx
  have a := sq_bd (b := 200000) (a := x.side) (by omega) (by omega)
  obtain ⟨ss, hs⟩ : ∃ ss, ss = x.side * x.side := ⟨_, rfl⟩
  rw [← hs] at a
  have e1 : IntKind.i64.wrap (x.side * x.side) = ss := by rw [← hs]; exact IntWalk.i64_in _ (by omega)
  have Hs := Lib.hid hs
  clear hs a hx hx'
  have b0 : Below w.heap.size w (w.alloc (.cells #[.int .i64 x.side, .int .i64 x.low, .int .i64 x.high] 37)) := (Below.refl _ _).alloc (Nat.le_refl _) _
  have r0 : Row (w.alloc (.cells #[.int .i64 x.side, .int .i64 x.low, .int .i64 x.high] 37)) w.heap.size 37 [.int .i64 x.side, .int .i64 x.low, .int .i64 x.high] := Row.new w _ _
  unfold limV
  go_enter Try.func54, Try.ntmps54
  go_wp2_with fail
  go_loopw [9] (fun i wr => ∃ k : Nat, k ≤ n ∧ i = .int .i64 k ∧ Below w.heap.size w wr ∧ Row wr w.heap.size 37 [.int .i64 x.side, .int .i64 x.low, .int .i64 x.high] ∧ (l.take k).all (keptB x) = true) (fun i _ => n - (intOf i).toNat)
  case atStart => exact ⟨0, Nat.zero_le _, rfl, b0, r0, rfl⟩
  case round =>
    obtain ⟨k, hk, rfl, hbel, hrow, hall⟩ := hrel
    have Hall := Lib.hid hall
    clear hall b0 r0
    have hs := hbel.size
    have hz := Lib.hid hr.len_pt
    by_cases hlt : k < n
    · obtain ⟨b, o, rfl, hb, q0, q1, q2⟩ := (hr.below (hbel.mono hB)).atp hlt
      have Hsn := Lib.hid (all_snoc (keptB x) ⟨0, 0, 0⟩ l k (by have := hz.out; omega))
      have Hfound := Lib.hid (fun h => beyond_some (x := x) (l := l) (k := k) (by have := hz.out; omega) Hall.out h)
      have hfe : feltB (ptAt l k) = true := List.all_eq_true.1 hl _ (by
        have hkl : k < l.length := by have := hz.out; omega
        simp only [ptAt, List.getElem?_eq_getElem hkl, Option.getD_some]
        exact List.getElem_mem hkl)
      have Hk : Hid (keptB x (ptAt l k) = (decide (sideZ (ptAt l k) ≤ ss) && allB [(ptAt l k).z] x.low x.high)) := by
        show _ = _
        rw [Hs.out]
        simp [keptB, allB, inB, Bool.and_assoc]
      have Hsn : Hid ((l.take (k + 1)).all (keptB x) = ((l.take k).all (keptB x) && keptB x (ptAt l k))) := Hsn
      generalize ptAt l k = p at *
      obtain ⟨sv, hsv⟩ : ∃ sv, sv = sideZ p := ⟨_, rfl⟩
      rw [← hsv] at Hk
      have Hsv := Lib.hid hsv
      clear hsv
      go_upto_region 4 with (fail)
      obtain ⟨W, hW⟩ : ∃ W, W = wr.alloc (.cells #[.int .i64 p.x, .int .i64 p.y, .int .i64 p.z] 28) := ⟨_, rfl⟩
      rw [← hW]
      have rP : Row W wr.heap.size 28 [.int .i64 p.x, .int .i64 p.y, .int .i64 p.z] := by subst hW; exact Row.new wr _ _
      have rL : Row W w.heap.size 37 [.int .i64 x.side, .int .i64 x.low, .int .i64 x.high] := by subst hW; exact hrow.alloc _
      have bW : Below w.heap.size w W := by subst hW; exact hbel.alloc hs _
      clear hW q0 q1 q2
      have rP' := rP.drew
      have rL' := rL.drew
      obtain ⟨_, p0, p1, p2⟩ := Row.at_3 rP'
      obtain ⟨_, l0, l1, l2⟩ := Row.at_3 rL'
      go_cut [32] (fun s32 wx => s32 = .bool (!keptB x p) ∧ Below W.heap.size W wx)
      case first =>
        refine wp_region_held_drew (S := fun y => y.cell? ⟨wr.heap.size, 0, none⟩ = some (.int .i64 p.x) ∧ y.cell? ⟨wr.heap.size, 1, none⟩ = some (.int .i64 p.y) ∧ y.cell? ⟨wr.heap.size, 2, none⟩ = some (.int .i64 p.z) ∧ y.cell? ⟨w.heap.size, 0, none⟩ = some (.int .i64 x.side) ∧ y.cell? ⟨w.heap.size, 1, none⟩ = some (.int .i64 x.low) ∧ y.cell? ⟨w.heap.size, 2, none⟩ = some (.int .i64 x.high)) (by kernel_rfl) ⟨p0, p1, p2, l0, l1, l2⟩ (fun hS => ?_)
        refine wpAnyH_take (i := 0) (oi := ⟨some 14, _, _, _, _, _⟩) (v := ?tkva0) rfl (by kernel_rfl) (by kernel_rfl) (by kernel_rfl) (fun _ _ _ h => h) (Or.inl ⟨by rfl, ?tkya0⟩) (by assumption) ?tkra0
        case tkya0 => (intro x hx; obtain ⟨hx0, hx1, hx2, hx3, hx4, hx5⟩ := hx; go_simp; try with_reducible rfl)
        case tkra0 =>
        simp only [Act.put, List.setIfInBounds_toArray, List.set_cons_zero, List.set_cons_succ]
        refine wpAnyH_take (i := 2) (oi := ⟨some 16, _, _, _, _, _⟩) (v := ?tkva2) rfl (by kernel_rfl) (by kernel_rfl) (by kernel_rfl) (fun _ _ _ h => h) (Or.inl ⟨by rfl, ?tkya2⟩) (by assumption) ?tkra2
        case tkya2 => (intro x hx; obtain ⟨hx0, hx1, hx2, hx3, hx4, hx5⟩ := hx; go_simp; try with_reducible rfl)
        case tkra2 =>
        simp only [Act.put, List.setIfInBounds_toArray, List.set_cons_zero, List.set_cons_succ]
        refine wpAnyH_take (i := 3) (oi := ⟨some 17, _, _, _, _, _⟩) (v := ?tkva3) rfl (by kernel_rfl) (by kernel_rfl) (by kernel_rfl) (fun _ _ _ h => h) (Or.inl ⟨by rfl, ?tkya3⟩) (by assumption) ?tkra3
        case tkya3 => (intro x hx; obtain ⟨hx0, hx1, hx2, hx3, hx4, hx5⟩ := hx; go_simp; try with_reducible rfl)
        case tkra3 =>
        simp only [Act.put, List.setIfInBounds_toArray, List.set_cons_zero, List.set_cons_succ]
        refine wpAnyH_take (i := 4) (oi := ⟨some 18, _, _, _, _, _⟩) (v := ?tkva4) rfl (by kernel_rfl) (by kernel_rfl) (by kernel_rfl) (fun _ _ _ h => h) (Or.inl ⟨by rfl, ?tkya4⟩) (by assumption) ?tkra4
        case tkya4 => (intro x hx; obtain ⟨hx0, hx1, hx2, hx3, hx4, hx5⟩ := hx; go_simp; try with_reducible rfl)
        case tkra4 =>
        simp only [Act.put, List.setIfInBounds_toArray, List.set_cons_zero, List.set_cons_succ]
        refine wpAnyH_take (i := 5) (oi := ⟨some 19, _, _, _, _, _⟩) (v := ?tkva5) rfl (by kernel_rfl) (by kernel_rfl) (by kernel_rfl) (fun _ _ _ h => h) (Or.inl ⟨by rfl, ?tkya5⟩) (by assumption) ?tkra5
        case tkya5 => (intro x hx; obtain ⟨hx0, hx1, hx2, hx3, hx4, hx5⟩ := hx; go_simp; try with_reducible rfl)
        case tkra5 =>
        simp only [Act.put, List.setIfInBounds_toArray, List.set_cons_zero, List.set_cons_succ]
        refine wpAnyH_take (i := 6) (oi := ⟨some 20, _, _, _, _, _⟩) (v := ?tkva6) rfl (by kernel_rfl) (by kernel_rfl) (by kernel_rfl) (fun _ _ _ h => h) (Or.inl ⟨by rfl, ?tkya6⟩) (by assumption) ?tkra6
        case tkya6 => (intro x hx; obtain ⟨hx0, hx1, hx2, hx3, hx4, hx5⟩ := hx; go_simp; try with_reducible rfl)
        case tkra6 =>
        simp only [Act.put, List.setIfInBounds_toArray, List.set_cons_zero, List.set_cons_succ]
        refine wpAnyH_ready (rs := [1]) (by kernel_rfl) (by simp) ?_
        refine AllReadyH.cons (o := ⟨some 15, _, _, _, _, _⟩) rfl (fun K hK => ?_) AllReadyH.nil
        go_wp2_with (go_at_call 58; refine (sideways_at p sv Hsv.out hfe _).mono ?_; rintro e y1 ⟨rfl, hb1⟩)
        have rP1 := rP'.below hb1 rP'.lt
        have rL1 := rL'.below hb1 rL'.lt
        obtain ⟨_, p0, p1, p2⟩ := Row.at_3 rP1
        obtain ⟨_, l0, l1, l2⟩ := Row.at_3 rL1
        refine hK.out _ _ (⟨p0, p1, p2, l0, l1, l2⟩) (fun hHeld => ?_)
        refine wpAnyH_take (i := 7) (oi := ⟨some 21, _, _, _, _, _⟩) (v := ?tkva7) rfl (by kernel_rfl) (by kernel_rfl) (by kernel_rfl) (fun _ _ _ h => h) (Or.inl ⟨by rfl, ?tkya7⟩) (by assumption) ?tkra7
        case tkya7 => (intro x hx; obtain ⟨hx0, hx1, hx2, hx3, hx4, hx5⟩ := hx; go_simp; try with_reducible rfl)
        case tkra7 =>
        simp only [Act.put, List.setIfInBounds_toArray, List.set_cons_zero, List.set_cons_succ]
        by_cases hside : ss < sv
        · have hd : decide (ss < sv) = true := by simpa using hside
          simp only [hd]
          refine wpAnyH_take (i := 8) (oi := ⟨some 22, _, _, _, _, _⟩) (v := ?tkvb8) rfl (by kernel_rfl) (by kernel_rfl) (by kernel_rfl) (fun _ _ _ h => h) (Or.inl ⟨by rfl, ?tkyb8⟩) (by assumption) ?tkrb8
          case tkyb8 => (intro x hx; obtain ⟨hx0, hx1, hx2, hx3, hx4, hx5⟩ := hx; go_simp; try with_reducible rfl)
          case tkrb8 =>
          simp only [Act.put, List.setIfInBounds_toArray, List.set_cons_zero, List.set_cons_succ]
          refine wpAnyH_take (i := 9) (oi := ⟨some 23, _, _, _, _, _⟩) (v := undef) rfl (by kernel_rfl) (by kernel_rfl) (by kernel_rfl) (fun _ _ _ h => h) (Or.inr ⟨by rfl, rfl⟩) (by assumption) ?_
          simp only [Act.put, List.setIfInBounds_toArray, List.set_cons_zero, List.set_cons_succ]
          refine wpAnyH_take (i := 10) (oi := ⟨some 24, _, _, _, _, _⟩) (v := undef) rfl (by kernel_rfl) (by kernel_rfl) (by kernel_rfl) (fun _ _ _ h => h) (Or.inr ⟨by rfl, rfl⟩) (by assumption) ?_
          simp only [Act.put, List.setIfInBounds_toArray, List.set_cons_zero, List.set_cons_succ]
          refine wpAnyH_take (i := 11) (oi := ⟨some 25, _, _, _, _, _⟩) (v := undef) rfl (by kernel_rfl) (by kernel_rfl) (by kernel_rfl) (fun _ _ _ h => h) (Or.inr ⟨by rfl, rfl⟩) (by assumption) ?_
          simp only [Act.put, List.setIfInBounds_toArray, List.set_cons_zero, List.set_cons_succ]
          refine wpAnyH_take (i := 12) (oi := ⟨some 26, _, _, _, _, _⟩) (v := undef) rfl (by kernel_rfl) (by kernel_rfl) (by kernel_rfl) (fun _ _ _ h => h) (Or.inr ⟨by rfl, rfl⟩) (by assumption) ?_
          simp only [Act.put, List.setIfInBounds_toArray, List.set_cons_zero, List.set_cons_succ]
          refine wpAnyH_take (i := 13) (oi := ⟨some 27, _, _, _, _, _⟩) (v := undef) rfl (by kernel_rfl) (by kernel_rfl) (by kernel_rfl) (fun _ _ _ h => h) (Or.inr ⟨by rfl, rfl⟩) (by assumption) ?_
          simp only [Act.put, List.setIfInBounds_toArray, List.set_cons_zero, List.set_cons_succ]
          refine wpAnyH_take (i := 14) (oi := ⟨some 28, _, _, _, _, _⟩) (v := undef) rfl (by kernel_rfl) (by kernel_rfl) (by kernel_rfl) (fun _ _ _ h => h) (Or.inr ⟨by rfl, rfl⟩) (by assumption) ?_
          simp only [Act.put, List.setIfInBounds_toArray, List.set_cons_zero, List.set_cons_succ]
          refine wpAnyH_take (i := 15) (oi := ⟨some 29, _, _, _, _, _⟩) (v := undef) rfl (by kernel_rfl) (by kernel_rfl) (by kernel_rfl) (fun _ _ _ h => h) (Or.inr ⟨by rfl, rfl⟩) (by assumption) ?_
          simp only [Act.put, List.setIfInBounds_toArray, List.set_cons_zero, List.set_cons_succ]
          refine wpAnyH_take (i := 16) (oi := ⟨some 30, _, _, _, _, _⟩) (v := undef) rfl (by kernel_rfl) (by kernel_rfl) (by kernel_rfl) (fun _ _ _ h => h) (Or.inr ⟨by rfl, rfl⟩) (by assumption) ?_
          simp only [Act.put, List.setIfInBounds_toArray, List.set_cons_zero, List.set_cons_succ]
          refine wpAnyH_take (i := 17) (oi := ⟨some 31, _, _, _, _, _⟩) (v := undef) rfl (by kernel_rfl) (by kernel_rfl) (by kernel_rfl) (fun _ _ _ h => h) (Or.inr ⟨by rfl, rfl⟩) (by assumption) ?_
          simp only [Act.put, List.setIfInBounds_toArray, List.set_cons_zero, List.set_cons_succ]
          refine wpAnyH_take (i := 18) (oi := ⟨some 32, _, _, _, _, _⟩) (v := ?tkvb18) rfl (by kernel_rfl) (by kernel_rfl) (by kernel_rfl) (fun _ _ _ h => h) (Or.inl ⟨by rfl, ?tkyb18⟩) (by assumption) ?tkrb18
          case tkyb18 => (intro x hx; obtain ⟨hx0, hx1, hx2, hx3, hx4, hx5⟩ := hx; go_simp; try with_reducible rfl)
          case tkrb18 =>
          simp only [Act.put, List.setIfInBounds_toArray, List.set_cons_zero, List.set_cons_succ]
          refine wpAnyH_done (by kernel_rfl) ?_ _
          go_wp2_with fail
          go_meet
          refine ⟨?_, below_drewN_out hb1⟩
          have h := Hk.out
          simp [h]
          omega
        · have hd : decide (ss < sv) = false := by simpa using hside
          simp only [hd]
          refine wpAnyH_take (i := 8) (oi := ⟨some 22, _, _, _, _, _⟩) (v := ?tkvc8) rfl (by kernel_rfl) (by kernel_rfl) (by kernel_rfl) (fun _ _ _ h => h) (Or.inl ⟨by rfl, ?tkyc8⟩) (by assumption) ?tkrc8
          case tkyc8 => (intro x hx; obtain ⟨hx0, hx1, hx2, hx3, hx4, hx5⟩ := hx; go_simp; try with_reducible rfl)
          case tkrc8 =>
          simp only [Act.put, List.setIfInBounds_toArray, List.set_cons_zero, List.set_cons_succ]
          refine wpAnyH_take (i := 9) (oi := ⟨some 23, _, _, _, _, _⟩) (v := ?tkvc9) rfl (by kernel_rfl) (by kernel_rfl) (by kernel_rfl) (fun _ _ _ h => h) (Or.inl ⟨by rfl, ?tkyc9⟩) (by assumption) ?tkrc9
          case tkyc9 => (intro x hx; obtain ⟨hx0, hx1, hx2, hx3, hx4, hx5⟩ := hx; go_simp; try with_reducible rfl)
          case tkrc9 =>
          simp only [Act.put, List.setIfInBounds_toArray, List.set_cons_zero, List.set_cons_succ]
          refine wpAnyH_take (i := 10) (oi := ⟨some 24, _, _, _, _, _⟩) (v := ?tkvc10) rfl (by kernel_rfl) (by kernel_rfl) (by kernel_rfl) (fun _ _ _ h => h) (Or.inl ⟨by rfl, ?tkyc10⟩) (by assumption) ?tkrc10
          case tkyc10 => (intro x hx; obtain ⟨hx0, hx1, hx2, hx3, hx4, hx5⟩ := hx; go_simp; try with_reducible rfl)
          case tkrc10 =>
          simp only [Act.put, List.setIfInBounds_toArray, List.set_cons_zero, List.set_cons_succ]
          refine wpAnyH_take (i := 11) (oi := ⟨some 25, _, _, _, _, _⟩) (v := ?tkvc11) rfl (by kernel_rfl) (by kernel_rfl) (by kernel_rfl) (fun _ _ _ h => h) (Or.inl ⟨by rfl, ?tkyc11⟩) (by assumption) ?tkrc11
          case tkyc11 => (intro x hx; obtain ⟨hx0, hx1, hx2, hx3, hx4, hx5⟩ := hx; go_simp; try with_reducible rfl)
          case tkrc11 =>
          simp only [Act.put, List.setIfInBounds_toArray, List.set_cons_zero, List.set_cons_succ]
          refine wpAnyH_take (i := 12) (oi := ⟨some 26, _, _, _, _, _⟩) (v := ?tkvc12) rfl (by kernel_rfl) (by kernel_rfl) (by kernel_rfl) (fun _ _ _ h => h) (Or.inl ⟨by rfl, ?tkyc12⟩) (by assumption) ?tkrc12
          case tkyc12 => (intro x hx; obtain ⟨hx0, hx1, hx2, hx3, hx4, hx5⟩ := hx; go_simp; try with_reducible rfl)
          case tkrc12 =>
          simp only [Act.put, List.setIfInBounds_toArray, List.set_cons_zero, List.set_cons_succ]
          refine wpAnyH_take (i := 13) (oi := ⟨some 27, _, _, _, _, _⟩) (v := ?tkvc13) rfl (by kernel_rfl) (by kernel_rfl) (by kernel_rfl) (fun _ _ _ h => h) (Or.inl ⟨by rfl, ?tkyc13⟩) (by assumption) ?tkrc13
          case tkyc13 => (intro x hx; obtain ⟨hx0, hx1, hx2, hx3, hx4, hx5⟩ := hx; go_simp; try with_reducible rfl)
          case tkrc13 =>
          simp only [Act.put, List.setIfInBounds_toArray, List.set_cons_zero, List.set_cons_succ]
          refine wpAnyH_take (i := 14) (oi := ⟨some 28, _, _, _, _, _⟩) (v := ?tkvc14) rfl (by kernel_rfl) (by kernel_rfl) (by kernel_rfl) (fun _ _ _ h => h) (Or.inl ⟨by rfl, ?tkyc14⟩) (by assumption) ?tkrc14
          case tkyc14 => (intro x hx; obtain ⟨hx0, hx1, hx2, hx3, hx4, hx5⟩ := hx; go_simp; try with_reducible rfl)
          case tkrc14 =>
          simp only [Act.put, List.setIfInBounds_toArray, List.set_cons_zero, List.set_cons_succ]
          refine wpAnyH_ready (rs := [15]) (by kernel_rfl) (by simp) ?_
          refine AllReadyH.cons (o := ⟨some 29, _, _, _, _, _⟩) rfl (fun K hK => ?_) AllReadyH.nil
          refine step_bs1 (by kernel_rfl) (.tmp 28) rfl p.z rfl _ rfl ?_
          simp only [Act.put, List.setIfInBounds_toArray, List.set_cons_zero, List.set_cons_succ]
          refine hK.out _ _ (⟨by simp [World.cell?_alloc_some, *], by simp [World.cell?_alloc_some, *], by simp [World.cell?_alloc_some, *], by simp [World.cell?_alloc_some, *], by simp [World.cell?_alloc_some, *], by simp [World.cell?_alloc_some, *]⟩) (fun hHeld => ?_)
          refine wpAnyH_ready (rs := [16]) (by kernel_rfl) (by simp) ?_
          refine AllReadyH.cons (o := ⟨some 30, _, _, _, _, _⟩) rfl (fun K hK => ?_) AllReadyH.nil
          rw [if_pos (show Region.wanted _ _ = true from by kernel_rfl)]
          go_wp2_with (go_at_call 47; refine (allWithin_new [p.z] _ (by rfl) _ _ rfl (by simp) _ _ _ _ _ (by simp)).mono ?_; rintro e y2 ⟨rfl, rfl⟩)
          refine hK.out _ _ (by assumption) (fun hHeld => ?_)
          refine wpAnyH_take (i := 17) (oi := ⟨some 31, _, _, _, _, _⟩) (v := ?tkvc17) rfl (by kernel_rfl) (by kernel_rfl) (by kernel_rfl) (fun _ _ _ h => h) (Or.inl ⟨by rfl, ?tkyc17⟩) (by assumption) ?tkrc17
          case tkyc17 => (intro x hx; obtain ⟨hx0, hx1, hx2, hx3, hx4, hx5⟩ := hx; go_simp; try with_reducible rfl)
          case tkrc17 =>
          simp only [Act.put, List.setIfInBounds_toArray, List.set_cons_zero, List.set_cons_succ]
          refine wpAnyH_take (i := 18) (oi := ⟨some 32, _, _, _, _, _⟩) (v := ?tkvc18) rfl (by kernel_rfl) (by kernel_rfl) (by kernel_rfl) (fun _ _ _ h => h) (Or.inl ⟨by rfl, ?tkyc18⟩) (by assumption) ?tkrc18
          case tkyc18 => (intro x hx; obtain ⟨hx0, hx1, hx2, hx3, hx4, hx5⟩ := hx; go_simp; try with_reducible rfl)
          case tkrc18 =>
          simp only [Act.put, List.setIfInBounds_toArray, List.set_cons_zero, List.set_cons_succ]
          refine wpAnyH_done (by kernel_rfl) ?_ _
          go_wp2_with fail
          go_meet
          refine ⟨?_, (below_drewN_out hb1).alloc (below_drewN_out hb1).size _⟩
          have h := Hk.out
          simp [h]
          omega
      case rest =>
        obtain ⟨rfl, hb⟩ := hcut
        have b' := bW.trans (hb.mono bW.size)
        have rL2 := rL.below hb rL.lt
        cases hkp : keptB x p with
        | true =>
          rw [hkp] at Hsn
          go_wp2_with fail
          go_roundw
          case rel => exact ⟨k + 1, by omega, by go_num, b', rL2, by have h := Hsn.out; rw [Hall.out] at h; exact h⟩
          case measure => simp [intOf]; omega
        | false =>
          go_wp2_with fail
          go_ret
          exact ⟨ret_int (Hfound.out hkp).symm, b'⟩
    · have : k = n := by omega
      subst this
      go_wp2
      go_ret
      refine ⟨ret_int ?_, hbel⟩
      have h := Hall.out
      rw [List.take_of_length_le (by have := hz.out; omega)] at h
      exact (beyond_none h).symm
end Go.Proofs.Ytkmiapfkebdpbaa
