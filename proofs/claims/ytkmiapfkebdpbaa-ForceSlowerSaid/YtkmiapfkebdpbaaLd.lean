/- Contract of the specification's felt. Conditions: a valid path that reads as points; a change of its phases with speeds up to 10. -/
import Derived.Test.YtkmiapfkebdpbaaLb
namespace Go.Proofs.Ytkmiapfkebdpbaa
open Go.RowKit

set_option maxHeartbeats 4000000 in
set_option maxRecDepth 100000 in
theorem rfelt_any (t : List Pt) (x : Chg) (A : Option Addr) (c B : Nat) (w : World) (hB : B ≤ w.heap.size) (hr : Reads w B 3 A t.length (ptCells t)) (ht : pathB t = true) (hp : x.ph < t.length) (hbf : x.bf ≤ 10) (haf : x.af ≤ 10) :
    Calls Try.prog 51 #[.slice A t.length c, chgV x.ph x.bf x.af] w fun e w' => e = .returned (ptV (feltZ t x)) ∧ Below w.heap.size w w' := by
  obtain ⟨n1, n2, hsp⟩ := (pathB_iff t).1 ht
  obtain ⟨ph, bf, af⟩ := x
  dsimp only at *
  obtain ⟨W, hW⟩ : ∃ W, W = (w.alloc (.cells #[.int .i64 (ph : Int), .int .i64 (bf : Int), .int .i64 (af : Int)] 24)).alloc (.cells #[.int .i64 0, .int .i64 0, .int .i64 0] 28) := ⟨_, rfl⟩
  have sW : W.heap.size = w.heap.size + 2 := by subst hW; simp
  have bW : Below w.heap.size w W := by subst hW; exact ((Below.refl _ _).alloc (Nat.le_refl _) _).alloc (by simp) _
  have rC : Row W w.heap.size 24 [.int .i64 (ph : Int), .int .i64 (bf : Int), .int .i64 (af : Int)] := by subst hW; exact (Row.new w _ _).alloc _
  have rR : Row W (w.heap.size + 1) 28 [.int .i64 0, .int .i64 0, .int .i64 0] := by
    subst hW
    have h := Row.new (w.alloc (.cells #[.int .i64 (ph : Int), .int .i64 (bf : Int), .int .i64 (af : Int)] 24)) 28 #[.int .i64 0, .int .i64 0, .int .i64 0]
    simpa using h
  obtain ⟨N, hN⟩ : ∃ N, N = t.length := ⟨_, rfl⟩
  have hrW := hr.below (bW.mono hB)
  obtain ⟨k1, hk1⟩ : ∃ k1, k1 = (ph + af) % t.length := ⟨_, rfl⟩
  obtain ⟨k3, hk3⟩ : ∃ k3, k3 = (((ph : Int) - (bf : Int)) % (t.length : Int)).toNat := ⟨_, rfl⟩
  have l1 : k1 < t.length := by rw [hk1]; exact Nat.mod_lt _ (by omega)
  have m1 := Int.emod_nonneg ((ph : Int) - (bf : Int)) (show (t.length : Int) ≠ 0 by omega)
  have m2 := Int.emod_lt_of_pos ((ph : Int) - (bf : Int)) (show (0 : Int) < t.length by omega)
  have l3 : k3 < t.length := by omega
  obtain ⟨b, o, rfl, hb, p0, p1, p2⟩ := hrW.atp l1
  obtain ⟨_, _, hA, _, u0, u1, u2⟩ := hrW.atp hp
  injection hA with hA; injection hA with hA1 hA2; subst hA1 hA2
  obtain ⟨_, _, hA, _, v0, v1, v2⟩ := hrW.atp l3
  injection hA with hA; injection hA with hA1 hA2; subst hA1 hA2
  have e1 : IntKind.i64.wrap ((ph : Int) + (af : Int)) = (ph : Int) + (af : Int) := IntWalk.i64_in _ (by omega)
  have e2 : ((ph : Int) + (af : Int)).tmod (N : Int) = (k1 : Int) := by rw [hN, hk1, Int.tmod_eq_emod_of_nonneg (by omega), Int.natCast_emod]; rfl
  have e3 : IntKind.i64.wrap ((ph : Int) - (bf : Int)) = (ph : Int) - (bf : Int) := IntWalk.i64_in _ (by omega)
  have e4 := tmod_wrap ((ph : Int) - (bf : Int)) (t.length : Int) (by omega)
  have e5 := Int.lt_tmod_of_pos ((ph : Int) - (bf : Int)) (show (0 : Int) < t.length by omega)
  have e6 := Int.tmod_lt_of_pos ((ph : Int) - (bf : Int)) (show (0 : Int) < t.length by omega)
  obtain ⟨y, hy⟩ : ∃ y, y = ((ph : Int) - (bf : Int)).tmod (t.length : Int) := ⟨_, rfl⟩
  rw [← hy] at e4 e5 e6
  obtain ⟨z, hz⟩ : ∃ z, z = y + (t.length : Int) := ⟨_, rfl⟩
  have e7 : IntKind.i64.wrap (y + (N : Int)) = z := by rw [hN, hz]; exact IntWalk.i64_in _ (by omega)
  rw [← hz] at e4
  have e8 : z.tmod (N : Int) = (k3 : Int) := by rw [hN, e4]; omega
  rw [← hN] at hy
  have hy' := hy.symm
  have Hf : Hid (feltZ t ⟨ph, bf, af⟩ = ⟨(ptAt t k1).x - 2 * (ptAt t ph).x + (ptAt t k3).x, (ptAt t k1).y - 2 * (ptAt t ph).y + (ptAt t k3).y, (ptAt t k1).z - 2 * (ptAt t ph).z + (ptAt t k3).z + 1000⟩) := by show _ = _; rw [hk1, hk3]; rfl
  have c1 := pathB_at hsp k1
  have c2 := pathB_at hsp ph
  have c3 := pathB_at hsp k3
  have i1 : (k1 : Int) < (N : Int) := by omega
  have i2 : (ph : Int) < (N : Int) := by omega
  have i3 : (k3 : Int) < (N : Int) := by omega
  have i1' : k1 < N := by omega
  have i2' : ph < N := by omega
  have i3' : k3 < N := by omega
  have j1 : (0 : Int) ≤ (k1 : Int) := by omega
  have j2 : (0 : Int) ≤ (ph : Int) := by omega
  have j3 : (0 : Int) ≤ (k3 : Int) := by omega
  have hne : (N : Int) ≠ 0 := by omega
  have hne' : ¬ N = 0 := by omega
  have zb : b < W.heap.size := by omega
  rw [← hN]
  clear hk1 hk3 e4 e5 e6 hy hz m1 m2 hr hrW hp l1 l3 hN
  generalize ptAt t k1 = u at *
  generalize ptAt t ph = v at *
  generalize ptAt t k3 = q at *
  obtain ⟨q0, q1, q2⟩ := (Row.at_3 rC).2
  unfold chgV
  go_enter Try.func51, Try.ntmps51
  go_upto_region 1 with (fail)
  rw [← hW]
  clear hW
  go_upto_region 2 with (fail)
  go_cut [6, 7, 8] (fun s6 s7 s8 wx => ∃ g6 g7 g8, s6 = .pointer (some ⟨g6, 0, none⟩) ∧ s7 = .pointer (some ⟨g7, 0, none⟩) ∧ s8 = .pointer (some ⟨g8, 0, none⟩) ∧ Below W.heap.size W wx ∧
    Row wx g6 28 [.int .i64 u.x, .int .i64 u.y, .int .i64 u.z] ∧ Row wx g7 28 [.int .i64 v.x, .int .i64 v.y, .int .i64 v.z] ∧
    Row wx g8 28 [.int .i64 q.x, .int .i64 q.y, .int .i64 q.z] ∧ W.heap.size ≤ g6 ∧ W.heap.size ≤ g7 ∧ W.heap.size ≤ g8)
  case first =>
    have S0 : (fun x : World => x.cell? ⟨w.heap.size, 0, none⟩ = some (.int .i64 (ph : Int)) ∧ x.cell? ⟨w.heap.size, 1, none⟩ = some (.int .i64 (bf : Int)) ∧ x.cell? ⟨w.heap.size, 2, none⟩ = some (.int .i64 (af : Int)) ∧ x.cell? ⟨b, o + k1 * 3, none⟩ = some (.int .i64 u.x) ∧ x.cell? ⟨b, o + k1 * 3 + 1, none⟩ = some (.int .i64 u.y) ∧ x.cell? ⟨b, o + k1 * 3 + 2, none⟩ = some (.int .i64 u.z) ∧ x.cell? ⟨b, o + ph * 3, none⟩ = some (.int .i64 v.x) ∧ x.cell? ⟨b, o + ph * 3 + 1, none⟩ = some (.int .i64 v.y) ∧ x.cell? ⟨b, o + ph * 3 + 2, none⟩ = some (.int .i64 v.z) ∧ x.cell? ⟨b, o + k3 * 3, none⟩ = some (.int .i64 q.x) ∧ x.cell? ⟨b, o + k3 * 3 + 1, none⟩ = some (.int .i64 q.y) ∧ x.cell? ⟨b, o + k3 * 3 + 2, none⟩ = some (.int .i64 q.z)) W.drew := ⟨q0, q1, q2, p0, p1, p2, u0, u1, u2, v0, v1, v2⟩
    refine wp_region_held_drew (S := fun x : World => x.cell? ⟨w.heap.size, 0, none⟩ = some (.int .i64 (ph : Int)) ∧ x.cell? ⟨w.heap.size, 1, none⟩ = some (.int .i64 (bf : Int)) ∧ x.cell? ⟨w.heap.size, 2, none⟩ = some (.int .i64 (af : Int)) ∧ x.cell? ⟨b, o + k1 * 3, none⟩ = some (.int .i64 u.x) ∧ x.cell? ⟨b, o + k1 * 3 + 1, none⟩ = some (.int .i64 u.y) ∧ x.cell? ⟨b, o + k1 * 3 + 2, none⟩ = some (.int .i64 u.z) ∧ x.cell? ⟨b, o + ph * 3, none⟩ = some (.int .i64 v.x) ∧ x.cell? ⟨b, o + ph * 3 + 1, none⟩ = some (.int .i64 v.y) ∧ x.cell? ⟨b, o + ph * 3 + 2, none⟩ = some (.int .i64 v.z) ∧ x.cell? ⟨b, o + k3 * 3, none⟩ = some (.int .i64 q.x) ∧ x.cell? ⟨b, o + k3 * 3 + 1, none⟩ = some (.int .i64 q.y) ∧ x.cell? ⟨b, o + k3 * 3 + 2, none⟩ = some (.int .i64 q.z)) (by kernel_rfl) S0 (fun hS => ?_)
    refine wpAnyH_take (i := 0) (oi := ⟨some 11, _, _, _, _, _⟩) (v := ?tkv0) rfl (by kernel_rfl) (by kernel_rfl) (by kernel_rfl) (fun _ _ _ h => h) (Or.inl ⟨by rfl, ?tky0⟩) (by assumption) ?tkr0
    case tky0 => (intro x hx; obtain ⟨hx0, hx1, hx2, hx3, hx4, hx5, hx6, hx7, hx8, hx9, hx10, hx11⟩ := hx; go_simp; try with_reducible rfl)
    case tkr0 =>
    simp only [Act.put, List.setIfInBounds_toArray, List.set_cons_zero, List.set_cons_succ]
    refine wpAnyH_take (i := 1) (oi := ⟨some 12, _, _, _, _, _⟩) (v := ?tkv1) rfl (by kernel_rfl) (by kernel_rfl) (by kernel_rfl) (fun _ _ _ h => h) (Or.inl ⟨by rfl, ?tky1⟩) (by assumption) ?tkr1
    case tky1 => (intro x hx; obtain ⟨hx0, hx1, hx2, hx3, hx4, hx5, hx6, hx7, hx8, hx9, hx10, hx11⟩ := hx; go_simp; try with_reducible rfl)
    case tkr1 =>
    simp only [Act.put, List.setIfInBounds_toArray, List.set_cons_zero, List.set_cons_succ]
    refine wpAnyH_take (i := 2) (oi := ⟨some 13, _, _, _, _, _⟩) (v := ?tkv2) rfl (by kernel_rfl) (by kernel_rfl) (by kernel_rfl) (fun _ _ _ h => h) (Or.inl ⟨by rfl, ?tky2⟩) (by assumption) ?tkr2
    case tky2 => (intro x hx; obtain ⟨hx0, hx1, hx2, hx3, hx4, hx5, hx6, hx7, hx8, hx9, hx10, hx11⟩ := hx; go_simp; try with_reducible rfl)
    case tkr2 =>
    simp only [Act.put, List.setIfInBounds_toArray, List.set_cons_zero, List.set_cons_succ]
    refine wpAnyH_take (i := 3) (oi := ⟨some 14, _, _, _, _, _⟩) (v := ?tkv3) rfl (by kernel_rfl) (by kernel_rfl) (by kernel_rfl) (fun _ _ _ h => h) (Or.inl ⟨by rfl, ?tky3⟩) (by assumption) ?tkr3
    case tky3 => (intro x hx; obtain ⟨hx0, hx1, hx2, hx3, hx4, hx5, hx6, hx7, hx8, hx9, hx10, hx11⟩ := hx; go_simp; try with_reducible rfl)
    case tkr3 =>
    simp only [Act.put, List.setIfInBounds_toArray, List.set_cons_zero, List.set_cons_succ]
    refine wpAnyH_take (i := 4) (oi := ⟨some 15, _, _, _, _, _⟩) (v := ?tkv4) rfl (by kernel_rfl) (by kernel_rfl) (by kernel_rfl) (fun _ _ _ h => h) (Or.inl ⟨by rfl, ?tky4⟩) (by assumption) ?tkr4
    case tky4 => (intro x hx; obtain ⟨hx0, hx1, hx2, hx3, hx4, hx5, hx6, hx7, hx8, hx9, hx10, hx11⟩ := hx; go_simp; try with_reducible rfl)
    case tkr4 =>
    simp only [Act.put, List.setIfInBounds_toArray, List.set_cons_zero, List.set_cons_succ]
    refine wpAnyH_take (i := 5) (oi := ⟨some 16, _, _, _, _, _⟩) (v := ?tkv5) rfl (by kernel_rfl) (by kernel_rfl) (by kernel_rfl) (fun _ _ _ h => h) (Or.inl ⟨by rfl, ?tky5⟩) (by assumption) ?tkr5
    case tky5 => (intro x hx; obtain ⟨hx0, hx1, hx2, hx3, hx4, hx5, hx6, hx7, hx8, hx9, hx10, hx11⟩ := hx; go_simp; try with_reducible rfl)
    case tkr5 =>
    simp only [Act.put, List.setIfInBounds_toArray, List.set_cons_zero, List.set_cons_succ]
    refine wpAnyH_take (i := 6) (oi := ⟨some 17, _, _, _, _, _⟩) (v := ?tkv6) rfl (by kernel_rfl) (by kernel_rfl) (by kernel_rfl) (fun _ _ _ h => h) (Or.inl ⟨by rfl, ?tky6⟩) (by assumption) ?tkr6
    case tky6 => (intro x hx; obtain ⟨hx0, hx1, hx2, hx3, hx4, hx5, hx6, hx7, hx8, hx9, hx10, hx11⟩ := hx; go_simp; try with_reducible rfl)
    case tkr6 =>
    simp only [Act.put, List.setIfInBounds_toArray, List.set_cons_zero, List.set_cons_succ]
    refine wpAnyH_take (i := 7) (oi := ⟨some 18, _, _, _, _, _⟩) (v := ?tkv7) rfl (by kernel_rfl) (by kernel_rfl) (by kernel_rfl) (fun _ _ _ h => h) (Or.inl ⟨by rfl, ?tky7⟩) (by assumption) ?tkr7
    case tky7 => (intro x hx; obtain ⟨hx0, hx1, hx2, hx3, hx4, hx5, hx6, hx7, hx8, hx9, hx10, hx11⟩ := hx; go_simp; try with_reducible rfl)
    case tkr7 =>
    simp only [Act.put, List.setIfInBounds_toArray, List.set_cons_zero, List.set_cons_succ]
    refine wpAnyH_take (i := 8) (oi := ⟨some 19, _, _, _, _, _⟩) (v := ?tkv8) rfl (by kernel_rfl) (by kernel_rfl) (by kernel_rfl) (fun _ _ _ h => h) (Or.inl ⟨by rfl, ?tky8⟩) (by assumption) ?tkr8
    case tky8 => (intro x hx; obtain ⟨hx0, hx1, hx2, hx3, hx4, hx5, hx6, hx7, hx8, hx9, hx10, hx11⟩ := hx; go_simp; try with_reducible rfl)
    case tkr8 =>
    simp only [Act.put, List.setIfInBounds_toArray, List.set_cons_zero, List.set_cons_succ]
    refine wpAnyH_take (i := 9) (oi := ⟨some 20, _, _, _, _, _⟩) (v := ?tkv9) rfl (by kernel_rfl) (by kernel_rfl) (by kernel_rfl) (fun _ _ _ h => h) (Or.inl ⟨by rfl, ?tky9⟩) (by assumption) ?tkr9
    case tky9 => (intro x hx; obtain ⟨hx0, hx1, hx2, hx3, hx4, hx5, hx6, hx7, hx8, hx9, hx10, hx11⟩ := hx; go_simp; try with_reducible rfl)
    case tkr9 =>
    simp only [Act.put, List.setIfInBounds_toArray, List.set_cons_zero, List.set_cons_succ]
    refine wpAnyH_take (i := 10) (oi := ⟨some 21, _, _, _, _, _⟩) (v := ?tkv10) rfl (by kernel_rfl) (by kernel_rfl) (by kernel_rfl) (fun _ _ _ h => h) (Or.inl ⟨by rfl, ?tky10⟩) (by assumption) ?tkr10
    case tky10 => (intro x hx; obtain ⟨hx0, hx1, hx2, hx3, hx4, hx5, hx6, hx7, hx8, hx9, hx10, hx11⟩ := hx; go_simp; try with_reducible rfl)
    case tkr10 =>
    simp only [Act.put, List.setIfInBounds_toArray, List.set_cons_zero, List.set_cons_succ]
    refine wpAnyH_take (i := 11) (oi := ⟨some 22, _, _, _, _, _⟩) (v := ?tkv11) rfl (by kernel_rfl) (by kernel_rfl) (by kernel_rfl) (fun _ _ _ h => h) (Or.inl ⟨by rfl, ?tky11⟩) (by assumption) ?tkr11
    case tky11 => (intro x hx; obtain ⟨hx0, hx1, hx2, hx3, hx4, hx5, hx6, hx7, hx8, hx9, hx10, hx11⟩ := hx; go_simp; try with_reducible rfl)
    case tkr11 =>
    simp only [Act.put, List.setIfInBounds_toArray, List.set_cons_zero, List.set_cons_succ]
    refine wpAnyH_take (i := 12) (oi := ⟨some 23, _, _, _, _, _⟩) (v := ?tkv12) rfl (by kernel_rfl) (by kernel_rfl) (by kernel_rfl) (fun _ _ _ h => h) (Or.inl ⟨by rfl, ?tky12⟩) (by assumption) ?tkr12
    case tky12 => (intro x hx; obtain ⟨hx0, hx1, hx2, hx3, hx4, hx5, hx6, hx7, hx8, hx9, hx10, hx11⟩ := hx; go_simp; try with_reducible rfl)
    case tkr12 =>
    simp only [Act.put, List.setIfInBounds_toArray, List.set_cons_zero, List.set_cons_succ]
    refine wpAnyH_take (i := 13) (oi := ⟨some 24, _, _, _, _, _⟩) (v := ?tkv13) rfl (by kernel_rfl) (by kernel_rfl) (by kernel_rfl) (fun _ _ _ h => h) (Or.inl ⟨by rfl, ?tky13⟩) (by assumption) ?tkr13
    case tky13 => (intro x hx; obtain ⟨hx0, hx1, hx2, hx3, hx4, hx5, hx6, hx7, hx8, hx9, hx10, hx11⟩ := hx; go_simp; try with_reducible rfl)
    case tkr13 =>
    simp only [Act.put, List.setIfInBounds_toArray, List.set_cons_zero, List.set_cons_succ]
    refine wpAnyH_take (i := 14) (oi := ⟨some 25, _, _, _, _, _⟩) (v := ?tkv14) rfl (by kernel_rfl) (by kernel_rfl) (by kernel_rfl) (fun _ _ _ h => h) (Or.inl ⟨by rfl, ?tky14⟩) (by assumption) ?tkr14
    case tky14 => (intro x hx; obtain ⟨hx0, hx1, hx2, hx3, hx4, hx5, hx6, hx7, hx8, hx9, hx10, hx11⟩ := hx; go_simp; try with_reducible rfl)
    case tkr14 =>
    simp only [Act.put, List.setIfInBounds_toArray, List.set_cons_zero, List.set_cons_succ]
    refine wpAnyH_take (i := 15) (oi := ⟨some 26, _, _, _, _, _⟩) (v := ?tkv15) rfl (by kernel_rfl) (by kernel_rfl) (by kernel_rfl) (fun _ _ _ h => h) (Or.inl ⟨by rfl, ?tky15⟩) (by assumption) ?tkr15
    case tky15 => (intro x hx; obtain ⟨hx0, hx1, hx2, hx3, hx4, hx5, hx6, hx7, hx8, hx9, hx10, hx11⟩ := hx; go_simp; try with_reducible rfl)
    case tkr15 =>
    simp only [Act.put, List.setIfInBounds_toArray, List.set_cons_zero, List.set_cons_succ]
    refine wpAnyH_take (i := 16) (oi := ⟨some 27, _, _, _, _, _⟩) (v := ?tkv16) rfl (by kernel_rfl) (by kernel_rfl) (by kernel_rfl) (fun _ _ _ h => h) (Or.inl ⟨by rfl, ?tky16⟩) (by assumption) ?tkr16
    case tky16 => (intro x hx; obtain ⟨hx0, hx1, hx2, hx3, hx4, hx5, hx6, hx7, hx8, hx9, hx10, hx11⟩ := hx; go_simp; try with_reducible rfl)
    case tkr16 =>
    simp only [Act.put, List.setIfInBounds_toArray, List.set_cons_zero, List.set_cons_succ]
    refine wpAnyH_take (i := 17) (oi := ⟨some 28, _, _, _, _, _⟩) (v := ?tkv17) rfl (by kernel_rfl) (by kernel_rfl) (by kernel_rfl) (fun _ _ _ h => h) (Or.inl ⟨by rfl, ?tky17⟩) (by assumption) ?tkr17
    case tky17 => (intro x hx; obtain ⟨hx0, hx1, hx2, hx3, hx4, hx5, hx6, hx7, hx8, hx9, hx10, hx11⟩ := hx; go_simp; try with_reducible rfl)
    case tkr17 =>
    simp only [Act.put, List.setIfInBounds_toArray, List.set_cons_zero, List.set_cons_succ]
    refine wpAnyH_take (i := 18) (oi := ⟨some 29, _, _, _, _, _⟩) (v := ?tkv18) rfl (by kernel_rfl) (by kernel_rfl) (by kernel_rfl) (fun _ _ _ h => h) (Or.inl ⟨by rfl, ?tky18⟩) (by assumption) ?tkr18
    case tky18 => (intro x hx; obtain ⟨hx0, hx1, hx2, hx3, hx4, hx5, hx6, hx7, hx8, hx9, hx10, hx11⟩ := hx; go_simp; try with_reducible rfl)
    case tkr18 =>
    simp only [Act.put, List.setIfInBounds_toArray, List.set_cons_zero, List.set_cons_succ]
    refine wpAnyH_take (i := 19) (oi := ⟨some 30, _, _, _, _, _⟩) (v := ?tkv19) rfl (by kernel_rfl) (by kernel_rfl) (by kernel_rfl) (fun _ _ _ h => h) (Or.inl ⟨by rfl, ?tky19⟩) (by assumption) ?tkr19
    case tky19 => (intro x hx; obtain ⟨hx0, hx1, hx2, hx3, hx4, hx5, hx6, hx7, hx8, hx9, hx10, hx11⟩ := hx; go_simp; try with_reducible rfl)
    case tkr19 =>
    simp only [Act.put, List.setIfInBounds_toArray, List.set_cons_zero, List.set_cons_succ]
    refine wpAnyH_take (i := 20) (oi := ⟨some 31, _, _, _, _, _⟩) (v := ?tkv20) rfl (by kernel_rfl) (by kernel_rfl) (by kernel_rfl) (fun _ _ _ h => h) (Or.inl ⟨by rfl, ?tky20⟩) (by assumption) ?tkr20
    case tky20 => (intro x hx; obtain ⟨hx0, hx1, hx2, hx3, hx4, hx5, hx6, hx7, hx8, hx9, hx10, hx11⟩ := hx; go_simp; try with_reducible rfl)
    case tkr20 =>
    simp only [Act.put, List.setIfInBounds_toArray, List.set_cons_zero, List.set_cons_succ]
    refine wpAnyH_take (i := 21) (oi := ⟨some 32, _, _, _, _, _⟩) (v := ?tkv21) rfl (by kernel_rfl) (by kernel_rfl) (by kernel_rfl) (fun _ _ _ h => h) (Or.inl ⟨by rfl, ?tky21⟩) (by assumption) ?tkr21
    case tky21 => (intro x hx; obtain ⟨hx0, hx1, hx2, hx3, hx4, hx5, hx6, hx7, hx8, hx9, hx10, hx11⟩ := hx; go_simp; try with_reducible rfl)
    case tkr21 =>
    simp only [Act.put, List.setIfInBounds_toArray, List.set_cons_zero, List.set_cons_succ]
    refine wpAnyH_take (i := 22) (oi := ⟨some 33, _, _, _, _, _⟩) (v := ?tkv22) rfl (by kernel_rfl) (by kernel_rfl) (by kernel_rfl) (fun _ _ _ h => h) (Or.inl ⟨by rfl, ?tky22⟩) (by assumption) ?tkr22
    case tky22 => (intro x hx; obtain ⟨hx0, hx1, hx2, hx3, hx4, hx5, hx6, hx7, hx8, hx9, hx10, hx11⟩ := hx; go_simp; try with_reducible rfl)
    case tkr22 =>
    simp only [Act.put, List.setIfInBounds_toArray, List.set_cons_zero, List.set_cons_succ]
    refine wpAnyH_take (i := 23) (oi := ⟨some 34, _, _, _, _, _⟩) (v := ?tkv23) rfl (by kernel_rfl) (by kernel_rfl) (by kernel_rfl) (fun _ _ _ h => h) (Or.inl ⟨by rfl, ?tky23⟩) (by assumption) ?tkr23
    case tky23 => (intro x hx; obtain ⟨hx0, hx1, hx2, hx3, hx4, hx5, hx6, hx7, hx8, hx9, hx10, hx11⟩ := hx; go_simp; try with_reducible rfl)
    case tkr23 =>
    simp only [Act.put, List.setIfInBounds_toArray, List.set_cons_zero, List.set_cons_succ]
    refine wpAnyH_take (i := 24) (oi := ⟨some 35, _, _, _, _, _⟩) (v := ?tkv24) rfl (by kernel_rfl) (by kernel_rfl) (by kernel_rfl) (fun _ _ _ h => h) (Or.inl ⟨by rfl, ?tky24⟩) (by assumption) ?tkr24
    case tky24 => (intro x hx; obtain ⟨hx0, hx1, hx2, hx3, hx4, hx5, hx6, hx7, hx8, hx9, hx10, hx11⟩ := hx; go_simp; try with_reducible rfl)
    case tkr24 =>
    simp only [Act.put, List.setIfInBounds_toArray, List.set_cons_zero, List.set_cons_succ]
    refine wpAnyH_take (i := 25) (oi := ⟨some 36, _, _, _, _, _⟩) (v := ?tkv25) rfl (by kernel_rfl) (by kernel_rfl) (by kernel_rfl) (fun _ _ _ h => h) (Or.inl ⟨by rfl, ?tky25⟩) (by assumption) ?tkr25
    case tky25 => (intro x hx; obtain ⟨hx0, hx1, hx2, hx3, hx4, hx5, hx6, hx7, hx8, hx9, hx10, hx11⟩ := hx; go_simp; try with_reducible rfl)
    case tkr25 =>
    simp only [Act.put, List.setIfInBounds_toArray, List.set_cons_zero, List.set_cons_succ]
    refine wpAnyH_take (i := 26) (oi := ⟨some 37, _, _, _, _, _⟩) (v := ?tkv26) rfl (by kernel_rfl) (by kernel_rfl) (by kernel_rfl) (fun _ _ _ h => h) (Or.inl ⟨by rfl, ?tky26⟩) (by assumption) ?tkr26
    case tky26 => (intro x hx; obtain ⟨hx0, hx1, hx2, hx3, hx4, hx5, hx6, hx7, hx8, hx9, hx10, hx11⟩ := hx; go_simp; try with_reducible rfl)
    case tkr26 =>
    simp only [Act.put, List.setIfInBounds_toArray, List.set_cons_zero, List.set_cons_succ]
    refine wpAnyH_take (i := 27) (oi := ⟨some 38, _, _, _, _, _⟩) (v := ?tkv27) rfl (by kernel_rfl) (by kernel_rfl) (by kernel_rfl) (fun _ _ _ h => h) (Or.inl ⟨by rfl, ?tky27⟩) (by assumption) ?tkr27
    case tky27 => (intro x hx; obtain ⟨hx0, hx1, hx2, hx3, hx4, hx5, hx6, hx7, hx8, hx9, hx10, hx11⟩ := hx; go_simp; try with_reducible rfl)
    case tkr27 =>
    simp only [Act.put, List.setIfInBounds_toArray, List.set_cons_zero, List.set_cons_succ]
    refine wpAnyH_take (i := 28) (oi := ⟨some 39, _, _, _, _, _⟩) (v := ?tkv28) rfl (by kernel_rfl) (by kernel_rfl) (by kernel_rfl) (fun _ _ _ h => h) (Or.inl ⟨by rfl, ?tky28⟩) (by assumption) ?tkr28
    case tky28 => (intro x hx; obtain ⟨hx0, hx1, hx2, hx3, hx4, hx5, hx6, hx7, hx8, hx9, hx10, hx11⟩ := hx; go_simp; try with_reducible rfl)
    case tkr28 =>
    simp only [Act.put, List.setIfInBounds_toArray, List.set_cons_zero, List.set_cons_succ]
    have zb' : b < W.heap.size := zb
    refine region_rest [29, 30, 31, 32, 33, 34] (by kernel_rfl) (by kernel_rfl) (by kernel_rfl) (by kernel_rfl)
      (fun a x => ∃ x6 x7 x8, a = { tmps := #[Value.slice (some ⟨b, o, none⟩) N c, Value.agg #[Value.int IntKind.i64 (ph : Int), Value.int IntKind.i64 (bf : Int), Value.int IntKind.i64 (af : Int)], undef, Value.pointer (some ⟨w.heap.size, 0, none⟩), Value.pointer (some ⟨w.heap.size + 1, 0, none⟩), Value.int IntKind.i64 (N : Int), x6, x7, x8, Value.slice (some ⟨b, o, none⟩) N c, Value.int IntKind.i64 (N : Int), Value.slice (some ⟨b, o, none⟩) N c, Value.pointer (some ⟨w.heap.size, 0, none⟩), Value.int IntKind.i64 (ph : Int), Value.pointer (some ⟨w.heap.size, 2, none⟩), Value.int IntKind.i64 (af : Int), Value.int IntKind.i64 ((ph : Int) + (af : Int)), Value.int IntKind.i64 (N : Int), Value.int IntKind.i64 (k1 : Int), Value.pointer (some ⟨b, o + k1 * 3, none⟩), Value.agg #[Value.int IntKind.i64 u.x, Value.int IntKind.i64 u.y, Value.int IntKind.i64 u.z], Value.slice (some ⟨b, o, none⟩) N c, Value.pointer (some ⟨w.heap.size, 0, none⟩), Value.int IntKind.i64 (ph : Int), Value.pointer (some ⟨b, o + ph * 3, none⟩), Value.agg #[Value.int IntKind.i64 v.x, Value.int IntKind.i64 v.y, Value.int IntKind.i64 v.z], Value.slice (some ⟨b, o, none⟩) N c, Value.pointer (some ⟨w.heap.size, 0, none⟩), Value.int IntKind.i64 (ph : Int), Value.pointer (some ⟨w.heap.size, 1, none⟩), Value.int IntKind.i64 (bf : Int), Value.int IntKind.i64 ((ph : Int) - (bf : Int)), Value.int IntKind.i64 (N : Int), Value.int IntKind.i64 y, Value.int IntKind.i64 (N : Int), Value.int IntKind.i64 z, Value.int IntKind.i64 (N : Int), Value.int IntKind.i64 (k3 : Int), Value.pointer (some ⟨b, o + k3 * 3, none⟩), Value.agg #[Value.int IntKind.i64 q.x, Value.int IntKind.i64 q.y, Value.int IntKind.i64 q.z], undef, undef, undef, undef, undef, undef, undef, undef, undef, undef, undef, undef, undef, undef, undef, undef, undef, undef, undef, undef, undef, undef, undef, undef, undef, undef, undef, undef, undef], defers := [] } ∧ Below W.heap.size W x ∧ Tri x.heap.size x6 x7 x8)
      (fun k a x => match k with
        | 29 => BHas W.heap.size a x 6
        | 30 => BHas W.heap.size a x 7
        | 31 => BHas W.heap.size a x 8
        | 32 => VHas W.heap.size a x 6 u
        | 33 => VHas W.heap.size a x 7 v
        | 34 => VHas W.heap.size a x 8 q
        | _ => True)
      ?gs ?steps ?fin _ _ _ (Nat.le_of_ble_eq_true (by kernel_rfl)) ⟨undef, undef, undef, rfl, below_drewN (Below.refl _ _) 1, Tri.start _⟩
    case gs =>
      rintro a x ⟨x6, x7, x8, rfl, hb, ht⟩
      have z0 := rC.lt
      exact ⟨(hb.cell (p := ⟨w.heap.size, 0, none⟩) z0).trans q0, (hb.cell (p := ⟨w.heap.size, 1, none⟩) z0).trans q1, (hb.cell (p := ⟨w.heap.size, 2, none⟩) z0).trans q2, (hb.cell (p := ⟨b, o + k1 * 3, none⟩) zb').trans p0, (hb.cell (p := ⟨b, o + k1 * 3 + 1, none⟩) zb').trans p1, (hb.cell (p := ⟨b, o + k1 * 3 + 2, none⟩) zb').trans p2, (hb.cell (p := ⟨b, o + ph * 3, none⟩) zb').trans u0, (hb.cell (p := ⟨b, o + ph * 3 + 1, none⟩) zb').trans u1, (hb.cell (p := ⟨b, o + ph * 3 + 2, none⟩) zb').trans u2, (hb.cell (p := ⟨b, o + k3 * 3, none⟩) zb').trans v0, (hb.cell (p := ⟨b, o + k3 * 3 + 1, none⟩) zb').trans v1, (hb.cell (p := ⟨b, o + k3 * 3 + 2, none⟩) zb').trans v2⟩
    case fin =>
      rintro a x ⟨x6, x7, x8, rfl, hb, ht⟩ hR
      obtain ⟨g6, h6, n6, r6⟩ := hR 32 (by simp)
      obtain ⟨g7, h7, n7, r7⟩ := hR 33 (by simp)
      obtain ⟨g8, h8, n8, r8⟩ := hR 34 (by simp)
      obtain rfl : x6 = .pointer (some ⟨g6, 0, none⟩) := by simpa using h6
      obtain rfl : x7 = .pointer (some ⟨g7, 0, none⟩) := by simpa using h7
      obtain rfl : x8 = .pointer (some ⟨g8, 0, none⟩) := by simpa using h8
      go_wp2_with fail
      go_meet
      exact ⟨g6, g7, g8, rfl, rfl, rfl, hb, r6, r7, r8, n6, n7, n8⟩
    case steps =>
      intro i hi a x hG hD
      simp only [List.mem_cons, List.not_mem_nil, or_false] at hi
      rcases hi with rfl | rfl | rfl | rfl | rfl | rfl
      · obtain ⟨x6, x7, x8, rfl, hb, htr⟩ := hG
        refine wpOp_step rfl (fun K hK => ?_)
        have HK := Lib.hid hK
        clear hK
        go_wp2_with fail
        refine HK.out _ _ ⟨⟨.pointer (some ⟨x.heap.size, 0, none⟩), x7, x8, rfl, hb.alloc hb.size _, by simpa using htr.new1⟩, ⟨x.heap.size, _, _, _, rfl, hb.size, Row.new x _ _⟩, ?_⟩
        intro k hk hne hnd hR
        simp only [List.mem_cons, List.not_mem_nil, or_false] at hk
        rcases hk with rfl | rfl | rfl | rfl | rfl | rfl
        all_goals first
          | exact absurd rfl hne
          | exact hR
          | (obtain ⟨g, c0, c1, c2, h1, h2, h3⟩ := hR; exact ⟨g, c0, c1, c2, h1, h2, h3.alloc _⟩)
          | (obtain ⟨g, h1, h2, h3⟩ := hR; exact ⟨g, h1, h2, h3.alloc _⟩)
          | exact (Bool.false_ne_true (hnd.symm.trans (by kernel_rfl))).elim
      · obtain ⟨x6, x7, x8, rfl, hb, htr⟩ := hG
        refine wpOp_step rfl (fun K hK => ?_)
        have HK := Lib.hid hK
        clear hK
        go_wp2_with fail
        refine HK.out _ _ ⟨⟨x6, .pointer (some ⟨x.heap.size, 0, none⟩), x8, rfl, hb.alloc hb.size _, by simpa using htr.new2⟩, ⟨x.heap.size, _, _, _, rfl, hb.size, Row.new x _ _⟩, ?_⟩
        intro k hk hne hnd hR
        simp only [List.mem_cons, List.not_mem_nil, or_false] at hk
        rcases hk with rfl | rfl | rfl | rfl | rfl | rfl
        all_goals first
          | exact absurd rfl hne
          | exact hR
          | (obtain ⟨g, c0, c1, c2, h1, h2, h3⟩ := hR; exact ⟨g, c0, c1, c2, h1, h2, h3.alloc _⟩)
          | (obtain ⟨g, h1, h2, h3⟩ := hR; exact ⟨g, h1, h2, h3.alloc _⟩)
          | exact (Bool.false_ne_true (hnd.symm.trans (by kernel_rfl))).elim
      · obtain ⟨x6, x7, x8, rfl, hb, htr⟩ := hG
        refine wpOp_step rfl (fun K hK => ?_)
        have HK := Lib.hid hK
        clear hK
        go_wp2_with fail
        refine HK.out _ _ ⟨⟨x6, x7, .pointer (some ⟨x.heap.size, 0, none⟩), rfl, hb.alloc hb.size _, by simpa using htr.new3⟩, ⟨x.heap.size, _, _, _, rfl, hb.size, Row.new x _ _⟩, ?_⟩
        intro k hk hne hnd hR
        simp only [List.mem_cons, List.not_mem_nil, or_false] at hk
        rcases hk with rfl | rfl | rfl | rfl | rfl | rfl
        all_goals first
          | exact absurd rfl hne
          | exact hR
          | (obtain ⟨g, c0, c1, c2, h1, h2, h3⟩ := hR; exact ⟨g, c0, c1, c2, h1, h2, h3.alloc _⟩)
          | (obtain ⟨g, h1, h2, h3⟩ := hR; exact ⟨g, h1, h2, h3.alloc _⟩)
          | exact (Bool.false_ne_true (hnd.symm.trans (by kernel_rfl))).elim
      · obtain ⟨x6, x7, x8, rfl, hb, htr⟩ := hG
        obtain ⟨g0, c0, c1, c2, h0, n0, r0⟩ := hD 29 (by kernel_rfl)
        obtain rfl : x6 = .pointer (some ⟨g0, 0, none⟩) := by simpa using h0
        obtain ⟨f0, d0, d1, d2⟩ := Row.at_3 r0
        refine wpOp_step rfl (fun K hK => ?_)
        have HK := Lib.hid hK
        clear hK
        go_wp2_with fail
        have row := row_set3 r0 (.int .i64 u.x) (.int .i64 u.y) (.int .i64 u.z)
        refine HK.out _ _ ⟨⟨.pointer (some ⟨g0, 0, none⟩), x7, x8, rfl, below_set3 hb n0 _ _ _, by rw [size_set3]; exact htr⟩, ⟨g0, rfl, n0, row⟩, ?_⟩
        intro k hk hne hnd hR
        simp only [List.mem_cons, List.not_mem_nil, or_false] at hk
        rcases hk with rfl | rfl | rfl | rfl | rfl | rfl
        all_goals first
          | exact absurd rfl hne
          | exact hR
          | exact ⟨g0, _, _, _, rfl, n0, row⟩
          | (obtain ⟨g, c0', c1', c2', h1, h2, h3⟩ := hR; exact ⟨g, c0', c1', c2', h1, h2, row_far3 h3 (fun e => htr.2.2.2.1 g0 rfl (by rw [e] at h1; simpa using h1)) _ _ _⟩)
          | (obtain ⟨g, h1, h2, h3⟩ := hR; exact ⟨g, h1, h2, row_far3 h3 (fun e => htr.2.2.2.1 g0 rfl (by rw [e] at h1; simpa using h1)) _ _ _⟩)
          | (obtain ⟨g, c0', c1', c2', h1, h2, h3⟩ := hR; exact ⟨g, c0', c1', c2', h1, h2, row_far3 h3 (fun e => htr.2.2.2.2.1 g0 rfl (by rw [e] at h1; simpa using h1)) _ _ _⟩)
          | (obtain ⟨g, h1, h2, h3⟩ := hR; exact ⟨g, h1, h2, row_far3 h3 (fun e => htr.2.2.2.2.1 g0 rfl (by rw [e] at h1; simpa using h1)) _ _ _⟩)
          | exact (Bool.false_ne_true (hnd.symm.trans (by kernel_rfl))).elim
      · obtain ⟨x6, x7, x8, rfl, hb, htr⟩ := hG
        obtain ⟨g0, c0, c1, c2, h0, n0, r0⟩ := hD 30 (by kernel_rfl)
        obtain rfl : x7 = .pointer (some ⟨g0, 0, none⟩) := by simpa using h0
        obtain ⟨f0, d0, d1, d2⟩ := Row.at_3 r0
        refine wpOp_step rfl (fun K hK => ?_)
        have HK := Lib.hid hK
        clear hK
        go_wp2_with fail
        have row := row_set3 r0 (.int .i64 v.x) (.int .i64 v.y) (.int .i64 v.z)
        refine HK.out _ _ ⟨⟨x6, .pointer (some ⟨g0, 0, none⟩), x8, rfl, below_set3 hb n0 _ _ _, by rw [size_set3]; exact htr⟩, ⟨g0, rfl, n0, row⟩, ?_⟩
        intro k hk hne hnd hR
        simp only [List.mem_cons, List.not_mem_nil, or_false] at hk
        rcases hk with rfl | rfl | rfl | rfl | rfl | rfl
        all_goals first
          | exact absurd rfl hne
          | exact hR
          | exact ⟨g0, _, _, _, rfl, n0, row⟩
          | (obtain ⟨g, c0', c1', c2', h1, h2, h3⟩ := hR; exact ⟨g, c0', c1', c2', h1, h2, row_far3 h3 (fun e => htr.2.2.2.1 g0 (by rw [e] at h1; simpa using h1) rfl) _ _ _⟩)
          | (obtain ⟨g, h1, h2, h3⟩ := hR; exact ⟨g, h1, h2, row_far3 h3 (fun e => htr.2.2.2.1 g0 (by rw [e] at h1; simpa using h1) rfl) _ _ _⟩)
          | (obtain ⟨g, c0', c1', c2', h1, h2, h3⟩ := hR; exact ⟨g, c0', c1', c2', h1, h2, row_far3 h3 (fun e => htr.2.2.2.2.2 g0 rfl (by rw [e] at h1; simpa using h1)) _ _ _⟩)
          | (obtain ⟨g, h1, h2, h3⟩ := hR; exact ⟨g, h1, h2, row_far3 h3 (fun e => htr.2.2.2.2.2 g0 rfl (by rw [e] at h1; simpa using h1)) _ _ _⟩)
          | exact (Bool.false_ne_true (hnd.symm.trans (by kernel_rfl))).elim
      · obtain ⟨x6, x7, x8, rfl, hb, htr⟩ := hG
        obtain ⟨g0, c0, c1, c2, h0, n0, r0⟩ := hD 31 (by kernel_rfl)
        obtain rfl : x8 = .pointer (some ⟨g0, 0, none⟩) := by simpa using h0
        obtain ⟨f0, d0, d1, d2⟩ := Row.at_3 r0
        refine wpOp_step rfl (fun K hK => ?_)
        have HK := Lib.hid hK
        clear hK
        go_wp2_with fail
        have row := row_set3 r0 (.int .i64 q.x) (.int .i64 q.y) (.int .i64 q.z)
        refine HK.out _ _ ⟨⟨x6, x7, .pointer (some ⟨g0, 0, none⟩), rfl, below_set3 hb n0 _ _ _, by rw [size_set3]; exact htr⟩, ⟨g0, rfl, n0, row⟩, ?_⟩
        intro k hk hne hnd hR
        simp only [List.mem_cons, List.not_mem_nil, or_false] at hk
        rcases hk with rfl | rfl | rfl | rfl | rfl | rfl
        all_goals first
          | exact absurd rfl hne
          | exact hR
          | exact ⟨g0, _, _, _, rfl, n0, row⟩
          | (obtain ⟨g, c0', c1', c2', h1, h2, h3⟩ := hR; exact ⟨g, c0', c1', c2', h1, h2, row_far3 h3 (fun e => htr.2.2.2.2.1 g0 (by rw [e] at h1; simpa using h1) rfl) _ _ _⟩)
          | (obtain ⟨g, h1, h2, h3⟩ := hR; exact ⟨g, h1, h2, row_far3 h3 (fun e => htr.2.2.2.2.1 g0 (by rw [e] at h1; simpa using h1) rfl) _ _ _⟩)
          | (obtain ⟨g, c0', c1', c2', h1, h2, h3⟩ := hR; exact ⟨g, c0', c1', c2', h1, h2, row_far3 h3 (fun e => htr.2.2.2.2.2 g0 (by rw [e] at h1; simpa using h1) rfl) _ _ _⟩)
          | (obtain ⟨g, h1, h2, h3⟩ := hR; exact ⟨g, h1, h2, row_far3 h3 (fun e => htr.2.2.2.2.2 g0 (by rw [e] at h1; simpa using h1) rfl) _ _ _⟩)
          | exact (Bool.false_ne_true (hnd.symm.trans (by kernel_rfl))).elim
  case rest =>
    obtain ⟨g6, g7, g8, rfl, rfl, rfl, hb, r6, r7, r8, n6, n7, n8⟩ := hcut
    have bb := bW.trans (hb.mono bW.size)
    have rRc := rR.below hb rR.lt
    obtain ⟨_, x0, x1, x2⟩ := Row.at_3 r6
    obtain ⟨_, y0, y1, y2⟩ := Row.at_3 r7
    obtain ⟨_, z0, z1, z2⟩ := Row.at_3 r8
    obtain ⟨fR, t0, t1, t2⟩ := Row.at_3 rRc
    clear e1 e2 e3 e7 e8 hy' p0 p1 p2 u0 u1 u2 v0 v1 v2 q0 q1 q2
    obtain ⟨ux, uy, uz⟩ := u
    obtain ⟨vx, vy, vz⟩ := v
    obtain ⟨qx, qy, qz⟩ := q
    dsimp only at *
    have e1 : IntKind.i64.wrap (2 * vx) = 2 * vx := IntWalk.i64_in _ (by omega)
    have e2 : IntKind.i64.wrap (2 * vy) = 2 * vy := IntWalk.i64_in _ (by omega)
    have e3 : IntKind.i64.wrap (2 * vz) = 2 * vz := IntWalk.i64_in _ (by omega)
    have e4 : IntKind.i64.wrap (ux - 2 * vx) = ux - 2 * vx := IntWalk.i64_in _ (by omega)
    have e5 : IntKind.i64.wrap (uy - 2 * vy) = uy - 2 * vy := IntWalk.i64_in _ (by omega)
    have e6 : IntKind.i64.wrap (uz - 2 * vz) = uz - 2 * vz := IntWalk.i64_in _ (by omega)
    have e7 : IntKind.i64.wrap (ux - 2 * vx + qx) = ux - 2 * vx + qx := IntWalk.i64_in _ (by omega)
    have e8 : IntKind.i64.wrap (uy - 2 * vy + qy) = uy - 2 * vy + qy := IntWalk.i64_in _ (by omega)
    have e9 : IntKind.i64.wrap (uz - 2 * vz + qz) = uz - 2 * vz + qz := IntWalk.i64_in _ (by omega)
    have e10 : IntKind.i64.wrap (uz - 2 * vz + qz + 1000) = uz - 2 * vz + qz + 1000 := IntWalk.i64_in _ (by omega)
    clear c1 c2 c3 n1 n2
    go_wp2_with fail
    refine bodyPost_ret (v := .agg #[.int .i64 (ux - 2 * vx + qx), .int .i64 (uy - 2 * vy + qy), .int .i64 (uz - 2 * vz + qz + 1000)]) (by simp [results, Try.results51, go_sem, *]) rfl ?_
    exact ⟨by rw [Hf.out]; rfl, below_set3 bb (by omega) _ _ _⟩
end Go.Proofs.Ytkmiapfkebdpbaa
