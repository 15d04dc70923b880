/- Contract of felt. Conditions: a path reads as points, all near enough; numbers that are not too large. -/
import Derived.Test.YtkmiapfkebdpbaaKe
import Derived.Test.YtkmiapfkebdpbaaKi
import Derived.Deep.RegionHeld3
import Derived.Deep.DeepCutAuto
namespace Go.Proofs.Ytkmiapfkebdpbaa
open Go.RowKit

/-- Three values that, so far as they are pointers to new blocks, point to blocks that are there, each to another one. -/
def PLt (n : Nat) (x : Value) : Prop := ∀ g, x = .pointer (some ⟨g, 0, none⟩) → g < n
def PNe (x y : Value) : Prop := ∀ g, x = .pointer (some ⟨g, 0, none⟩) → y ≠ .pointer (some ⟨g, 0, none⟩)
def Tri (n : Nat) (x y z : Value) : Prop := PLt n x ∧ PLt n y ∧ PLt n z ∧ PNe x y ∧ PNe x z ∧ PNe y z
theorem PLt.mono {n m : Nat} {x : Value} (h : PLt n x) (hm : n ≤ m) : PLt m x := fun g e => Nat.lt_of_lt_of_le (h g e) hm
theorem PLt.new (n : Nat) : PLt (n + 1) (.pointer (some ⟨n, 0, none⟩)) := fun g e => by injection e with e; injection e with e; injection e with e; omega
theorem PNe.newl {n : Nat} {y : Value} (h : PLt n y) : PNe (.pointer (some ⟨n, 0, none⟩)) y := fun g e e' => by injection e with e; injection e with e; injection e with e; have := h g e'; omega
theorem PNe.newr {n : Nat} {y : Value} (h : PLt n y) : PNe y (.pointer (some ⟨n, 0, none⟩)) := fun g e' e => by injection e with e; injection e with e; injection e with e; have := h g e'; omega
theorem Tri.mono {n m : Nat} {x y z : Value} (h : Tri n x y z) (hm : n ≤ m) : Tri m x y z := ⟨h.1.mono hm, h.2.1.mono hm, h.2.2.1.mono hm, h.2.2.2⟩
theorem Tri.new1 {n : Nat} {x y z : Value} (h : Tri n x y z) : Tri (n + 1) (.pointer (some ⟨n, 0, none⟩)) y z := ⟨.new n, h.2.1.mono (Nat.le_succ n), h.2.2.1.mono (Nat.le_succ n), .newl h.2.1, .newl h.2.2.1, h.2.2.2.2.2⟩
theorem Tri.new2 {n : Nat} {x y z : Value} (h : Tri n x y z) : Tri (n + 1) x (.pointer (some ⟨n, 0, none⟩)) z := ⟨h.1.mono (Nat.le_succ n), .new n, h.2.2.1.mono (Nat.le_succ n), .newr h.1, h.2.2.2.2.1, .newl h.2.2.1⟩
theorem Tri.new3 {n : Nat} {x y z : Value} (h : Tri n x y z) : Tri (n + 1) x y (.pointer (some ⟨n, 0, none⟩)) := ⟨h.1.mono (Nat.le_succ n), h.2.1.mono (Nat.le_succ n), .new n, h.2.2.2.1, .newr h.1, .newr h.2.1⟩
theorem Tri.start (n : Nat) : Tri n undef undef undef := by
  refine ⟨?_, ?_, ?_, ?_, ?_, ?_⟩ <;> (intro g e; simp [undef] at e)
def THas (a : Act) (k : Nat) (v : Value) : Prop := a.tmps[k]? = some v
def BHas (n0 : Nat) (a : Act) (w : World) (k : Nat) : Prop := ∃ g c0 c1 c2, a.tmps[k]? = some (.pointer (some ⟨g, 0, none⟩)) ∧ n0 ≤ g ∧ Row w g 28 [c0, c1, c2]
def VHas (n0 : Nat) (a : Act) (w : World) (k : Nat) (p : Pt) : Prop := ∃ g, a.tmps[k]? = some (.pointer (some ⟨g, 0, none⟩)) ∧ n0 ≤ g ∧ Row w g 28 [.int .i64 p.x, .int .i64 p.y, .int .i64 p.z]
theorem row_set3 {w : World} {g : Nat} {t : TypeId} {c0 c1 c2 : Value} (h : Row w g t [c0, c1, c2]) (v0 v1 v2 : Value) : Row (((w.setCell ⟨g, 0, none⟩ v0).setCell ⟨g, 1, none⟩ v1).setCell ⟨g, 2, none⟩ v2) g t [v0, v1, v2] := ((h.set 0 v0).set 1 v1).set 2 v2
theorem row_far3 {w : World} {g g' : Nat} {t : TypeId} {xs : List Value} (h : Row w g' t xs) (hg : g' ≠ g) (v0 v1 v2 : Value) : Row (((w.setCell ⟨g, 0, none⟩ v0).setCell ⟨g, 1, none⟩ v1).setCell ⟨g, 2, none⟩ v2) g' t xs := ((h.far (p := ⟨g, 0, none⟩) hg v0).far (p := ⟨g, 1, none⟩) hg v1).far (p := ⟨g, 2, none⟩) hg v2
theorem below_set3 {n : Nat} {a w : World} {g : Nat} (h : Below n a w) (hg : n ≤ g) (v0 v1 v2 : Value) : Below n a (((w.setCell ⟨g, 0, none⟩ v0).setCell ⟨g, 1, none⟩ v1).setCell ⟨g, 2, none⟩ v2) := ((h.setCell (p := ⟨g, 0, none⟩) hg v0).setCell (p := ⟨g, 1, none⟩) hg v1).setCell (p := ⟨g, 2, none⟩) hg v2
theorem size_set3 (w : World) (g : Nat) (v0 v1 v2 : Value) : (((w.setCell ⟨g, 0, none⟩ v0).setCell ⟨g, 1, none⟩ v1).setCell ⟨g, 2, none⟩ v2).heap.size = w.heap.size := by simp [World.setCell]
theorem Row.at_3 {w : World} {g : Nat} {t : TypeId} {v0 v1 v2 : Value} (h : Row w g t [v0, v1, v2]) : (∀ o, w.frozen? ⟨g, o, none⟩ = false) ∧ w.cell? ⟨g, 0, none⟩ = some v0 ∧ w.cell? ⟨g, 1, none⟩ = some v1 ∧ w.cell? ⟨g, 2, none⟩ = some v2 :=
  ⟨fun o => h.frozen o, h.cell (j := 0) (by simp), h.cell (j := 1) (by simp), h.cell (j := 2) (by simp)⟩

/-- What is felt, by the phases of the three points. -/
def feltD (t : List Pt) (ph d e0 : Int) : Pt := ⟨(atZ t e0).x - 2 * (atZ t ph).x + (atZ t d).x, (atZ t e0).y - 2 * (atZ t ph).y + (atZ t d).y, (atZ t e0).z - 2 * (atZ t ph).z + (atZ t d).z + 1000⟩
theorem feltD_at (t : List Pt) (ph d e0 : Int) : feltD t ph d e0 = ⟨(atZ t e0).x - 2 * (atZ t ph).x + (atZ t d).x, (atZ t e0).y - 2 * (atZ t ph).y + (atZ t d).y, (atZ t e0).z - 2 * (atZ t ph).z + (atZ t d).z + 1000⟩ := rfl
theorem feltD_bd {t : List Pt} (h : ∀ p ∈ t, spanB p = true) (ph d e0 : Int) : (-40000 ≤ (feltD t ph d e0).x ∧ (feltD t ph d e0).x ≤ 40000) ∧ (-40000 ≤ (feltD t ph d e0).y ∧ (feltD t ph d e0).y ≤ 40000) ∧ (-39000 ≤ (feltD t ph d e0).z ∧ (feltD t ph d e0).z ≤ 41000) := by
  unfold feltD
  have h1 := atZ_bd h e0
  have h2 := atZ_bd h ph
  have h3 := atZ_bd h d
  dsimp only
  omega
set_option maxHeartbeats 4000000 in
set_option maxRecDepth 100000 in
theorem felt_any (t : List Pt) (ph bf af d e0 : Int) (A : Option Addr) (c B : Nat) (w : World) (hB : B ≤ w.heap.size) (hr : Reads w B 3 A t.length (ptCells t)) (ht : pathB t = true)
    (w1 : IntKind.i64.wrap (ph - bf) = d) (w2 : IntKind.i64.wrap (ph + af) = e0) :
    Calls Try.prog 48 #[.slice A t.length c, chgV ph bf af] w fun e w' => e = .returned (ptV (feltD t ph d e0)) ∧ Below w.heap.size w w' := by
  obtain ⟨n1, n2, hsp⟩ := (pathB_iff t).1 ht
  obtain ⟨W, hW⟩ : ∃ W, W = (w.alloc (.cells #[.int .i64 ph, .int .i64 bf, .int .i64 af] 24)).alloc (.cells #[.int .i64 0, .int .i64 0, .int .i64 0] 28) := ⟨_, rfl⟩
  have sW : W.heap.size = w.heap.size + 2 := by subst hW; simp
  have bW : Below w.heap.size w W := by subst hW; exact ((Below.refl _ _).alloc (Nat.le_refl _) _).alloc (by simp) _
  have rC : Row W w.heap.size 24 [.int .i64 ph, .int .i64 bf, .int .i64 af] := by subst hW; exact (Row.new w _ _).alloc _
  have rR : Row W (w.heap.size + 1) 28 [.int .i64 0, .int .i64 0, .int .i64 0] := by
    subst hW
    have h := Row.new (w.alloc (.cells #[.int .i64 ph, .int .i64 bf, .int .i64 af] 24)) 28 #[.int .i64 0, .int .i64 0, .int .i64 0]
    simpa using h
  have hrW := hr.below (bW.mono hB)
  unfold chgV
  go_enter Try.func48, Try.ntmps48
  go_upto_region 1 with (fail)
  rw [← hW]
  clear hW
  go_cut [5, 6, 7] (fun s5 s6 s7 wx => ∃ g5 g6 g7, s5 = .pointer (some ⟨g5, 0, none⟩) ∧ s6 = .pointer (some ⟨g6, 0, none⟩) ∧ s7 = .pointer (some ⟨g7, 0, none⟩) ∧ Below W.heap.size W wx ∧
    Row wx g5 28 [.int .i64 (atZ t d).x, .int .i64 (atZ t d).y, .int .i64 (atZ t d).z] ∧ Row wx g6 28 [.int .i64 (atZ t ph).x, .int .i64 (atZ t ph).y, .int .i64 (atZ t ph).z] ∧
    Row wx g7 28 [.int .i64 (atZ t e0).x, .int .i64 (atZ t e0).y, .int .i64 (atZ t e0).z] ∧ W.heap.size ≤ g5 ∧ W.heap.size ≤ g6 ∧ W.heap.size ≤ g7)
  case first =>
    have rCd := rC.drew
    have k0 := rCd.cell (j := 0) (by simp)
    have k1 := rCd.cell (j := 1) (by simp)
    have k2 := rCd.cell (j := 2) (by simp)
    simp only [List.getElem?_cons_zero, List.getElem?_cons_succ] at k0 k1 k2
    have rk0 := hrW
    refine wp_region_held_drew (S := fun x => x.cell? ⟨w.heap.size, 0, none⟩ = some (.int .i64 ph) ∧ x.cell? ⟨w.heap.size, 1, none⟩ = some (.int .i64 bf) ∧ x.cell? ⟨w.heap.size, 2, none⟩ = some (.int .i64 af)) (by kernel_rfl) ⟨k0, k1, k2⟩ (fun hS => ?_)
    refine wpAnyH_take (i := 0) (oi := ⟨some 8, _, _, _, _, _⟩) (v := ?tkv0) rfl (by kernel_rfl) (by kernel_rfl) (by kernel_rfl) (fun _ _ _ h => h) (Or.inl ⟨by rfl, ?tky0⟩) (by assumption) ?tkr0
    case tky0 => (intro x hx; obtain ⟨hx0, hx1, hx2⟩ := hx; go_simp; try with_reducible rfl)
    case tkr0 =>
    simp only [Act.put, List.setIfInBounds_toArray, List.set_cons_zero, List.set_cons_succ]
    refine wpAnyH_take (i := 1) (oi := ⟨some 9, _, _, _, _, _⟩) (v := ?tkv1) rfl (by kernel_rfl) (by kernel_rfl) (by kernel_rfl) (fun _ _ _ h => h) (Or.inl ⟨by rfl, ?tky1⟩) (by assumption) ?tkr1
    case tky1 => (intro x hx; obtain ⟨hx0, hx1, hx2⟩ := hx; go_simp; try with_reducible rfl)
    case tkr1 =>
    simp only [Act.put, List.setIfInBounds_toArray, List.set_cons_zero, List.set_cons_succ]
    refine wpAnyH_take (i := 2) (oi := ⟨some 10, _, _, _, _, _⟩) (v := ?tkv2) rfl (by kernel_rfl) (by kernel_rfl) (by kernel_rfl) (fun _ _ _ h => h) (Or.inl ⟨by rfl, ?tky2⟩) (by assumption) ?tkr2
    case tky2 => (intro x hx; obtain ⟨hx0, hx1, hx2⟩ := hx; go_simp; try with_reducible rfl)
    case tkr2 =>
    simp only [Act.put, List.setIfInBounds_toArray, List.set_cons_zero, List.set_cons_succ]
    refine wpAnyH_take (i := 3) (oi := ⟨some 11, _, _, _, _, _⟩) (v := ?tkv3) rfl (by kernel_rfl) (by kernel_rfl) (by kernel_rfl) (fun _ _ _ h => h) (Or.inl ⟨by rfl, ?tky3⟩) (by assumption) ?tkr3
    case tky3 => (intro x hx; obtain ⟨hx0, hx1, hx2⟩ := hx; go_simp; try with_reducible rfl)
    case tkr3 =>
    simp only [Act.put, List.setIfInBounds_toArray, List.set_cons_zero, List.set_cons_succ]
    refine wpAnyH_take (i := 4) (oi := ⟨some 12, _, _, _, _, _⟩) (v := ?tkv4) rfl (by kernel_rfl) (by kernel_rfl) (by kernel_rfl) (fun _ _ _ h => h) (Or.inl ⟨by rfl, ?tky4⟩) (by assumption) ?tkr4
    case tky4 => (intro x hx; obtain ⟨hx0, hx1, hx2⟩ := hx; go_simp; try with_reducible rfl)
    case tkr4 =>
    simp only [Act.put, List.setIfInBounds_toArray, List.set_cons_zero, List.set_cons_succ]
    refine wpAnyH_take (i := 5) (oi := ⟨some 13, _, _, _, _, _⟩) (v := ?tkv5) rfl (by kernel_rfl) (by kernel_rfl) (by kernel_rfl) (fun _ _ _ h => h) (Or.inl ⟨by rfl, ?tky5⟩) (by assumption) ?tkr5
    case tky5 => (intro x hx; obtain ⟨hx0, hx1, hx2⟩ := hx; go_simp; try with_reducible rfl)
    case tkr5 =>
    simp only [Act.put, List.setIfInBounds_toArray, List.set_cons_zero, List.set_cons_succ]
    refine wpAnyH_take (i := 7) (oi := ⟨some 15, _, _, _, _, _⟩) (v := ?tkv7) rfl (by kernel_rfl) (by kernel_rfl) (by kernel_rfl) (fun _ _ _ h => h) (Or.inl ⟨by rfl, ?tky7⟩) (by assumption) ?tkr7
    case tky7 => (intro x hx; obtain ⟨hx0, hx1, hx2⟩ := hx; go_simp; try with_reducible rfl)
    case tkr7 =>
    simp only [Act.put, List.setIfInBounds_toArray, List.set_cons_zero, List.set_cons_succ]
    refine wpAnyH_take (i := 8) (oi := ⟨some 16, _, _, _, _, _⟩) (v := ?tkv8) rfl (by kernel_rfl) (by kernel_rfl) (by kernel_rfl) (fun _ _ _ h => h) (Or.inl ⟨by rfl, ?tky8⟩) (by assumption) ?tkr8
    case tky8 => (intro x hx; obtain ⟨hx0, hx1, hx2⟩ := hx; go_simp; try with_reducible rfl)
    case tkr8 =>
    simp only [Act.put, List.setIfInBounds_toArray, List.set_cons_zero, List.set_cons_succ]
    refine wpAnyH_take (i := 9) (oi := ⟨some 17, _, _, _, _, _⟩) (v := ?tkv9) rfl (by kernel_rfl) (by kernel_rfl) (by kernel_rfl) (fun _ _ _ h => h) (Or.inl ⟨by rfl, ?tky9⟩) (by assumption) ?tkr9
    case tky9 => (intro x hx; obtain ⟨hx0, hx1, hx2⟩ := hx; go_simp; try with_reducible rfl)
    case tkr9 =>
    simp only [Act.put, List.setIfInBounds_toArray, List.set_cons_zero, List.set_cons_succ]
    refine wpAnyH_take (i := 11) (oi := ⟨some 19, _, _, _, _, _⟩) (v := ?tkv11) rfl (by kernel_rfl) (by kernel_rfl) (by kernel_rfl) (fun _ _ _ h => h) (Or.inl ⟨by rfl, ?tky11⟩) (by assumption) ?tkr11
    case tky11 => (intro x hx; obtain ⟨hx0, hx1, hx2⟩ := hx; go_simp; try with_reducible rfl)
    case tkr11 =>
    simp only [Act.put, List.setIfInBounds_toArray, List.set_cons_zero, List.set_cons_succ]
    refine wpAnyH_take (i := 12) (oi := ⟨some 20, _, _, _, _, _⟩) (v := ?tkv12) rfl (by kernel_rfl) (by kernel_rfl) (by kernel_rfl) (fun _ _ _ h => h) (Or.inl ⟨by rfl, ?tky12⟩) (by assumption) ?tkr12
    case tky12 => (intro x hx; obtain ⟨hx0, hx1, hx2⟩ := hx; go_simp; try with_reducible rfl)
    case tkr12 =>
    simp only [Act.put, List.setIfInBounds_toArray, List.set_cons_zero, List.set_cons_succ]
    refine wpAnyH_take (i := 13) (oi := ⟨some 21, _, _, _, _, _⟩) (v := ?tkv13) rfl (by kernel_rfl) (by kernel_rfl) (by kernel_rfl) (fun _ _ _ h => h) (Or.inl ⟨by rfl, ?tky13⟩) (by assumption) ?tkr13
    case tky13 => (intro x hx; obtain ⟨hx0, hx1, hx2⟩ := hx; go_simp; try with_reducible rfl)
    case tkr13 =>
    simp only [Act.put, List.setIfInBounds_toArray, List.set_cons_zero, List.set_cons_succ]
    refine wpAnyH_take (i := 14) (oi := ⟨some 22, _, _, _, _, _⟩) (v := ?tkv14) rfl (by kernel_rfl) (by kernel_rfl) (by kernel_rfl) (fun _ _ _ h => h) (Or.inl ⟨by rfl, ?tky14⟩) (by assumption) ?tkr14
    case tky14 => (intro x hx; obtain ⟨hx0, hx1, hx2⟩ := hx; go_simp; try with_reducible rfl)
    case tkr14 =>
    simp only [Act.put, List.setIfInBounds_toArray, List.set_cons_zero, List.set_cons_succ]
    refine wpAnyH_take (i := 15) (oi := ⟨some 23, _, _, _, _, _⟩) (v := ?tkv15) rfl (by kernel_rfl) (by kernel_rfl) (by kernel_rfl) (fun _ _ _ h => h) (Or.inl ⟨by rfl, ?tky15⟩) (by assumption) ?tkr15
    case tky15 => (intro x hx; obtain ⟨hx0, hx1, hx2⟩ := hx; go_simp; try with_reducible rfl)
    case tkr15 =>
    simp only [Act.put, List.setIfInBounds_toArray, List.set_cons_zero, List.set_cons_succ]
    refine wpAnyH_take (i := 16) (oi := ⟨some 24, _, _, _, _, _⟩) (v := ?tkv16) rfl (by kernel_rfl) (by kernel_rfl) (by kernel_rfl) (fun _ _ _ h => h) (Or.inl ⟨by rfl, ?tky16⟩) (by assumption) ?tkr16
    case tky16 => (intro x hx; obtain ⟨hx0, hx1, hx2⟩ := hx; go_simp; try with_reducible rfl)
    case tkr16 =>
    simp only [Act.put, List.setIfInBounds_toArray, List.set_cons_zero, List.set_cons_succ]
    refine region_rest [6, 10, 17, 18, 19, 20, 21, 22, 23] (by kernel_rfl) (by kernel_rfl) (by kernel_rfl) (by kernel_rfl)
      (fun a x => ∃ x5 x6 x7 x14 x18 x25, a = { tmps := #[.slice A t.length c, .agg #[.int .i64 ph, .int .i64 bf, .int .i64 af], undef, .pointer (some ⟨w.heap.size, 0, none⟩), .pointer (some ⟨w.heap.size + 1, 0, none⟩), x5, x6, x7, .slice A t.length c, .pointer (some ⟨w.heap.size, 0, none⟩), .int .i64 ph, .pointer (some ⟨w.heap.size, 1, none⟩), .int .i64 bf, .int .i64 d, x14, .slice A t.length c, .pointer (some ⟨w.heap.size, 0, none⟩), .int .i64 ph, x18, .slice A t.length c, .pointer (some ⟨w.heap.size, 0, none⟩), .int .i64 ph, .pointer (some ⟨w.heap.size, 2, none⟩), .int .i64 af, .int .i64 e0, x25, undef, undef, undef, undef, undef, undef, undef, undef, undef, undef, undef, undef, undef, undef, undef, undef, undef, undef, undef, undef, undef, undef, undef, undef, undef, undef, undef, undef, undef], defers := [] } ∧ Below W.heap.size W x ∧ Tri x.heap.size x5 x6 x7)
      (fun k a x => match k with
        | 6 => THas a 14 (ptV (atZ t d))
        | 10 => THas a 18 (ptV (atZ t ph))
        | 17 => THas a 25 (ptV (atZ t e0))
        | 18 => BHas W.heap.size a x 5
        | 19 => BHas W.heap.size a x 6
        | 20 => BHas W.heap.size a x 7
        | 21 => VHas W.heap.size a x 5 (atZ t d)
        | 22 => VHas W.heap.size a x 6 (atZ t ph)
        | 23 => VHas W.heap.size a x 7 (atZ t e0)
        | _ => True)
      ?gs ?steps ?fin _ _ _ (Nat.le_of_ble_eq_true (by kernel_rfl)) ⟨undef, undef, undef, undef, undef, undef, rfl, below_drewN (Below.refl _ _) 1, Tri.start _⟩
    case gs =>
      rintro a x ⟨x5, x6, x7, x14, x18, x25, rfl, hb, ht⟩
      have q := rC.below hb rC.lt
      obtain ⟨_, q0, q1, q2⟩ := Row.at_3 q
      exact ⟨q0, q1, q2⟩
    case fin =>
      rintro a x ⟨x5, x6, x7, x14, x18, x25, rfl, hb, ht⟩ hR
      obtain ⟨g5, h5, n5, r5⟩ := hR 21 (by simp)
      obtain ⟨g6, h6, n6, r6⟩ := hR 22 (by simp)
      obtain ⟨g7, h7, n7, r7⟩ := hR 23 (by simp)
      obtain rfl : x5 = .pointer (some ⟨g5, 0, none⟩) := by simpa using h5
      obtain rfl : x6 = .pointer (some ⟨g6, 0, none⟩) := by simpa using h6
      obtain rfl : x7 = .pointer (some ⟨g7, 0, none⟩) := by simpa using h7
      go_wp2_with fail
      go_meet
      exact ⟨g5, g6, g7, rfl, rfl, rfl, hb, r5, r6, r7, n5, n6, n7⟩
    case steps =>
      intro i hi a x hG hD
      have zB : B ≤ W.heap.size := by omega
      simp only [List.mem_cons, List.not_mem_nil, or_false] at hi
      rcases hi with rfl | rfl | rfl | rfl | rfl | rfl | rfl | rfl | rfl
      · obtain ⟨x5, x6, x7, x14, x18, x25, rfl, hb, htr⟩ := hG
        have hrx := hrW.below (hb.mono zB)
        have zx : B ≤ x.heap.size := Nat.le_trans zB hb.size
        refine wpOp_step rfl (fun K hK => ?_)
        have HK := Lib.hid hK
        clear hK
        go_wp2_with (go_at_call 80; refine (at_any t _ A c B _ zx hrx (by omega) (by omega)).mono ?_; rintro e x' ⟨rfl, hb'⟩)
        refine HK.out _ _ ⟨⟨x5, x6, x7, ptV (atZ t d), x18, x25, rfl, hb.trans (hb'.mono hb.size), htr.mono hb'.size⟩, rfl, ?_⟩
        intro k hk hne hnd hR
        simp only [List.mem_cons, List.not_mem_nil, or_false] at hk
        rcases hk with rfl | rfl | rfl | rfl | rfl | rfl | rfl | rfl | rfl
        all_goals first
          | exact absurd rfl hne
          | exact hR
          | (obtain ⟨g, c0, c1, c2, h1, h2, h3⟩ := hR; exact ⟨g, c0, c1, c2, h1, h2, h3.below hb' h3.lt⟩)
          | (obtain ⟨g, h1, h2, h3⟩ := hR; exact ⟨g, h1, h2, h3.below hb' h3.lt⟩)
          | exact (Bool.false_ne_true (hnd.symm.trans (by kernel_rfl))).elim
      · obtain ⟨x5, x6, x7, x14, x18, x25, rfl, hb, htr⟩ := hG
        have hrx := hrW.below (hb.mono zB)
        have zx : B ≤ x.heap.size := Nat.le_trans zB hb.size
        refine wpOp_step rfl (fun K hK => ?_)
        have HK := Lib.hid hK
        clear hK
        go_wp2_with (go_at_call 80; refine (at_any t _ A c B _ zx hrx (by omega) (by omega)).mono ?_; rintro e x' ⟨rfl, hb'⟩)
        refine HK.out _ _ ⟨⟨x5, x6, x7, x14, ptV (atZ t ph), x25, rfl, hb.trans (hb'.mono hb.size), htr.mono hb'.size⟩, rfl, ?_⟩
        intro k hk hne hnd hR
        simp only [List.mem_cons, List.not_mem_nil, or_false] at hk
        rcases hk with rfl | rfl | rfl | rfl | rfl | rfl | rfl | rfl | rfl
        all_goals first
          | exact absurd rfl hne
          | exact hR
          | (obtain ⟨g, c0, c1, c2, h1, h2, h3⟩ := hR; exact ⟨g, c0, c1, c2, h1, h2, h3.below hb' h3.lt⟩)
          | (obtain ⟨g, h1, h2, h3⟩ := hR; exact ⟨g, h1, h2, h3.below hb' h3.lt⟩)
          | exact (Bool.false_ne_true (hnd.symm.trans (by kernel_rfl))).elim
      · obtain ⟨x5, x6, x7, x14, x18, x25, rfl, hb, htr⟩ := hG
        have hrx := hrW.below (hb.mono zB)
        have zx : B ≤ x.heap.size := Nat.le_trans zB hb.size
        refine wpOp_step rfl (fun K hK => ?_)
        have HK := Lib.hid hK
        clear hK
        go_wp2_with (go_at_call 80; refine (at_any t _ A c B _ zx hrx (by omega) (by omega)).mono ?_; rintro e x' ⟨rfl, hb'⟩)
        refine HK.out _ _ ⟨⟨x5, x6, x7, x14, x18, ptV (atZ t e0), rfl, hb.trans (hb'.mono hb.size), htr.mono hb'.size⟩, rfl, ?_⟩
        intro k hk hne hnd hR
        simp only [List.mem_cons, List.not_mem_nil, or_false] at hk
        rcases hk with rfl | rfl | rfl | rfl | rfl | rfl | rfl | rfl | rfl
        all_goals first
          | exact absurd rfl hne
          | exact hR
          | (obtain ⟨g, c0, c1, c2, h1, h2, h3⟩ := hR; exact ⟨g, c0, c1, c2, h1, h2, h3.below hb' h3.lt⟩)
          | (obtain ⟨g, h1, h2, h3⟩ := hR; exact ⟨g, h1, h2, h3.below hb' h3.lt⟩)
          | exact (Bool.false_ne_true (hnd.symm.trans (by kernel_rfl))).elim
      · obtain ⟨x5, x6, x7, x14, x18, x25, rfl, hb, htr⟩ := hG
        refine wpOp_step rfl (fun K hK => ?_)
        have HK := Lib.hid hK
        clear hK
        go_wp2_with fail
        refine HK.out _ _ ⟨⟨.pointer (some ⟨x.heap.size, 0, none⟩), x6, x7, x14, x18, x25, rfl, hb.alloc hb.size _, by simpa using htr.new1⟩, ⟨x.heap.size, _, _, _, rfl, hb.size, Row.new x _ _⟩, ?_⟩
        intro k hk hne hnd hR
        simp only [List.mem_cons, List.not_mem_nil, or_false] at hk
        rcases hk with rfl | rfl | rfl | rfl | rfl | rfl | rfl | rfl | rfl
        all_goals first
          | exact absurd rfl hne
          | exact hR
          | (obtain ⟨g, c0, c1, c2, h1, h2, h3⟩ := hR; exact ⟨g, c0, c1, c2, h1, h2, h3.alloc _⟩)
          | (obtain ⟨g, h1, h2, h3⟩ := hR; exact ⟨g, h1, h2, h3.alloc _⟩)
          | exact (Bool.false_ne_true (hnd.symm.trans (by kernel_rfl))).elim
      · obtain ⟨x5, x6, x7, x14, x18, x25, rfl, hb, htr⟩ := hG
        refine wpOp_step rfl (fun K hK => ?_)
        have HK := Lib.hid hK
        clear hK
        go_wp2_with fail
        refine HK.out _ _ ⟨⟨x5, .pointer (some ⟨x.heap.size, 0, none⟩), x7, x14, x18, x25, rfl, hb.alloc hb.size _, by simpa using htr.new2⟩, ⟨x.heap.size, _, _, _, rfl, hb.size, Row.new x _ _⟩, ?_⟩
        intro k hk hne hnd hR
        simp only [List.mem_cons, List.not_mem_nil, or_false] at hk
        rcases hk with rfl | rfl | rfl | rfl | rfl | rfl | rfl | rfl | rfl
        all_goals first
          | exact absurd rfl hne
          | exact hR
          | (obtain ⟨g, c0, c1, c2, h1, h2, h3⟩ := hR; exact ⟨g, c0, c1, c2, h1, h2, h3.alloc _⟩)
          | (obtain ⟨g, h1, h2, h3⟩ := hR; exact ⟨g, h1, h2, h3.alloc _⟩)
          | exact (Bool.false_ne_true (hnd.symm.trans (by kernel_rfl))).elim
      · obtain ⟨x5, x6, x7, x14, x18, x25, rfl, hb, htr⟩ := hG
        refine wpOp_step rfl (fun K hK => ?_)
        have HK := Lib.hid hK
        clear hK
        go_wp2_with fail
        refine HK.out _ _ ⟨⟨x5, x6, .pointer (some ⟨x.heap.size, 0, none⟩), x14, x18, x25, rfl, hb.alloc hb.size _, by simpa using htr.new3⟩, ⟨x.heap.size, _, _, _, rfl, hb.size, Row.new x _ _⟩, ?_⟩
        intro k hk hne hnd hR
        simp only [List.mem_cons, List.not_mem_nil, or_false] at hk
        rcases hk with rfl | rfl | rfl | rfl | rfl | rfl | rfl | rfl | rfl
        all_goals first
          | exact absurd rfl hne
          | exact hR
          | (obtain ⟨g, c0, c1, c2, h1, h2, h3⟩ := hR; exact ⟨g, c0, c1, c2, h1, h2, h3.alloc _⟩)
          | (obtain ⟨g, h1, h2, h3⟩ := hR; exact ⟨g, h1, h2, h3.alloc _⟩)
          | exact (Bool.false_ne_true (hnd.symm.trans (by kernel_rfl))).elim
      · obtain ⟨x5, x6, x7, x14, x18, x25, rfl, hb, htr⟩ := hG
        obtain ⟨g0, c0, c1, c2, h0, n0, r0⟩ := hD 18 (by kernel_rfl)
        have hv := hD 6 (by kernel_rfl)
        obtain rfl : x5 = .pointer (some ⟨g0, 0, none⟩) := by simpa using h0
        obtain rfl : x14 = ptV (atZ t d) := by simpa [THas] using hv
        obtain ⟨f0, d0, d1, d2⟩ := Row.at_3 r0
        refine wpOp_step rfl (fun K hK => ?_)
        have HK := Lib.hid hK
        clear hK
        unfold ptV
        go_wp2_with fail
        have row := row_set3 r0 (.int .i64 (atZ t d).x) (.int .i64 (atZ t d).y) (.int .i64 (atZ t d).z)
        refine HK.out _ _ ⟨⟨.pointer (some ⟨g0, 0, none⟩), x6, x7, ptV (atZ t d), x18, x25, rfl, below_set3 hb n0 _ _ _, by rw [size_set3]; exact htr⟩, ⟨g0, rfl, n0, row⟩, ?_⟩
        intro k hk hne hnd hR
        simp only [List.mem_cons, List.not_mem_nil, or_false] at hk
        rcases hk with rfl | rfl | rfl | rfl | rfl | rfl | rfl | rfl | rfl
        all_goals first
          | exact absurd rfl hne
          | exact hR
          | exact ⟨g0, _, _, _, rfl, n0, row⟩
          | (obtain ⟨g, c0', c1', c2', h1, h2, h3⟩ := hR; exact ⟨g, c0', c1', c2', h1, h2, row_far3 h3 (fun e => htr.2.2.2.1 g0 rfl (by rw [e] at h1; simpa using h1)) _ _ _⟩)
          | (obtain ⟨g, h1, h2, h3⟩ := hR; exact ⟨g, h1, h2, row_far3 h3 (fun e => htr.2.2.2.1 g0 rfl (by rw [e] at h1; simpa using h1)) _ _ _⟩)
          | (obtain ⟨g, c0', c1', c2', h1, h2, h3⟩ := hR; exact ⟨g, c0', c1', c2', h1, h2, row_far3 h3 (fun e => htr.2.2.2.2.1 g0 rfl (by rw [e] at h1; simpa using h1)) _ _ _⟩)
          | (obtain ⟨g, h1, h2, h3⟩ := hR; exact ⟨g, h1, h2, row_far3 h3 (fun e => htr.2.2.2.2.1 g0 rfl (by rw [e] at h1; simpa using h1)) _ _ _⟩)
          | exact (Bool.false_ne_true (hnd.symm.trans (by kernel_rfl))).elim
      · obtain ⟨x5, x6, x7, x14, x18, x25, rfl, hb, htr⟩ := hG
        obtain ⟨g0, c0, c1, c2, h0, n0, r0⟩ := hD 19 (by kernel_rfl)
        have hv := hD 10 (by kernel_rfl)
        obtain rfl : x6 = .pointer (some ⟨g0, 0, none⟩) := by simpa using h0
        obtain rfl : x18 = ptV (atZ t ph) := by simpa [THas] using hv
        obtain ⟨f0, d0, d1, d2⟩ := Row.at_3 r0
        refine wpOp_step rfl (fun K hK => ?_)
        have HK := Lib.hid hK
        clear hK
        unfold ptV
        go_wp2_with fail
        have row := row_set3 r0 (.int .i64 (atZ t ph).x) (.int .i64 (atZ t ph).y) (.int .i64 (atZ t ph).z)
        refine HK.out _ _ ⟨⟨x5, .pointer (some ⟨g0, 0, none⟩), x7, x14, ptV (atZ t ph), x25, rfl, below_set3 hb n0 _ _ _, by rw [size_set3]; exact htr⟩, ⟨g0, rfl, n0, row⟩, ?_⟩
        intro k hk hne hnd hR
        simp only [List.mem_cons, List.not_mem_nil, or_false] at hk
        rcases hk with rfl | rfl | rfl | rfl | rfl | rfl | rfl | rfl | rfl
        all_goals first
          | exact absurd rfl hne
          | exact hR
          | exact ⟨g0, _, _, _, rfl, n0, row⟩
          | (obtain ⟨g, c0', c1', c2', h1, h2, h3⟩ := hR; exact ⟨g, c0', c1', c2', h1, h2, row_far3 h3 (fun e => htr.2.2.2.1 g0 (by rw [e] at h1; simpa using h1) rfl) _ _ _⟩)
          | (obtain ⟨g, h1, h2, h3⟩ := hR; exact ⟨g, h1, h2, row_far3 h3 (fun e => htr.2.2.2.1 g0 (by rw [e] at h1; simpa using h1) rfl) _ _ _⟩)
          | (obtain ⟨g, c0', c1', c2', h1, h2, h3⟩ := hR; exact ⟨g, c0', c1', c2', h1, h2, row_far3 h3 (fun e => htr.2.2.2.2.2 g0 rfl (by rw [e] at h1; simpa using h1)) _ _ _⟩)
          | (obtain ⟨g, h1, h2, h3⟩ := hR; exact ⟨g, h1, h2, row_far3 h3 (fun e => htr.2.2.2.2.2 g0 rfl (by rw [e] at h1; simpa using h1)) _ _ _⟩)
          | exact (Bool.false_ne_true (hnd.symm.trans (by kernel_rfl))).elim
      · obtain ⟨x5, x6, x7, x14, x18, x25, rfl, hb, htr⟩ := hG
        obtain ⟨g0, c0, c1, c2, h0, n0, r0⟩ := hD 20 (by kernel_rfl)
        have hv := hD 17 (by kernel_rfl)
        obtain rfl : x7 = .pointer (some ⟨g0, 0, none⟩) := by simpa using h0
        obtain rfl : x25 = ptV (atZ t e0) := by simpa [THas] using hv
        obtain ⟨f0, d0, d1, d2⟩ := Row.at_3 r0
        refine wpOp_step rfl (fun K hK => ?_)
        have HK := Lib.hid hK
        clear hK
        unfold ptV
        go_wp2_with fail
        have row := row_set3 r0 (.int .i64 (atZ t e0).x) (.int .i64 (atZ t e0).y) (.int .i64 (atZ t e0).z)
        refine HK.out _ _ ⟨⟨x5, x6, .pointer (some ⟨g0, 0, none⟩), x14, x18, ptV (atZ t e0), rfl, below_set3 hb n0 _ _ _, by rw [size_set3]; exact htr⟩, ⟨g0, rfl, n0, row⟩, ?_⟩
        intro k hk hne hnd hR
        simp only [List.mem_cons, List.not_mem_nil, or_false] at hk
        rcases hk with rfl | rfl | rfl | rfl | rfl | rfl | rfl | rfl | rfl
        all_goals first
          | exact absurd rfl hne
          | exact hR
          | exact ⟨g0, _, _, _, rfl, n0, row⟩
          | (obtain ⟨g, c0', c1', c2', h1, h2, h3⟩ := hR; exact ⟨g, c0', c1', c2', h1, h2, row_far3 h3 (fun e => htr.2.2.2.2.1 g0 (by rw [e] at h1; simpa using h1) rfl) _ _ _⟩)
          | (obtain ⟨g, h1, h2, h3⟩ := hR; exact ⟨g, h1, h2, row_far3 h3 (fun e => htr.2.2.2.2.1 g0 (by rw [e] at h1; simpa using h1) rfl) _ _ _⟩)
          | (obtain ⟨g, c0', c1', c2', h1, h2, h3⟩ := hR; exact ⟨g, c0', c1', c2', h1, h2, row_far3 h3 (fun e => htr.2.2.2.2.2 g0 (by rw [e] at h1; simpa using h1) rfl) _ _ _⟩)
          | (obtain ⟨g, h1, h2, h3⟩ := hR; exact ⟨g, h1, h2, row_far3 h3 (fun e => htr.2.2.2.2.2 g0 (by rw [e] at h1; simpa using h1) rfl) _ _ _⟩)
          | exact (Bool.false_ne_true (hnd.symm.trans (by kernel_rfl))).elim
  case rest =>
    obtain ⟨g5, g6, g7, rfl, rfl, rfl, hb, r5, r6, r7, n5, n6, n7⟩ := hcut
    have b := bW.trans (hb.mono bW.size)
    have rRc := rR.below hb rR.lt
    have p1 := atZ_bd hsp e0
    have p2 := atZ_bd hsp ph
    have p3 := atZ_bd hsp d
    obtain ⟨_, x0, x1, x2⟩ := Row.at_3 r5
    obtain ⟨_, y0, y1, y2⟩ := Row.at_3 r6
    obtain ⟨_, z0, z1, z2⟩ := Row.at_3 r7
    obtain ⟨fR, t0, t1, t2⟩ := Row.at_3 rRc
    have Hf := Lib.hid (feltD_at t ph d e0)
    generalize atZ t e0 = u at *
    generalize atZ t ph = v at *
    generalize atZ t d = q at *
    obtain ⟨ux, uy, uz⟩ := u
    obtain ⟨vx, vy, vz⟩ := v
    obtain ⟨qx, qy, qz⟩ := q
    dsimp only at *
    have e1 : IntKind.i64.wrap (2 * vx) = 2 * vx := IntWalk.i64_in _ (by omega)
    have e2 : IntKind.i64.wrap (2 * vy) = 2 * vy := IntWalk.i64_in _ (by omega)
    have e3 : IntKind.i64.wrap (2 * vz) = 2 * vz := IntWalk.i64_in _ (by omega)
    have e4 : IntKind.i64.wrap (ux - 2 * vx) = ux - 2 * vx := IntWalk.i64_in _ (by omega)
    have e5 : IntKind.i64.wrap (uy - 2 * vy) = uy - 2 * vy := IntWalk.i64_in _ (by omega)
    have e6 : IntKind.i64.wrap (uz - 2 * vz) = uz - 2 * vz := IntWalk.i64_in _ (by omega)
    have e7 : IntKind.i64.wrap (ux - 2 * vx + qx) = ux - 2 * vx + qx := IntWalk.i64_in _ (by omega)
    have e8 : IntKind.i64.wrap (uy - 2 * vy + qy) = uy - 2 * vy + qy := IntWalk.i64_in _ (by omega)
    have e9 : IntKind.i64.wrap (uz - 2 * vz + qz) = uz - 2 * vz + qz := IntWalk.i64_in _ (by omega)
    have e10 : IntKind.i64.wrap (uz - 2 * vz + qz + 1000) = uz - 2 * vz + qz + 1000 := IntWalk.i64_in _ (by omega)
    clear p1 p2 p3 n1 n2
    go_wp2_with fail
    refine bodyPost_ret (v := .agg #[.int .i64 (ux - 2 * vx + qx), .int .i64 (uy - 2 * vy + qy), .int .i64 (uz - 2 * vz + qz + 1000)]) (by simp [results, Try.results48, go_sem, *]) rfl ?_
    exact ⟨by rw [Hf.out]; rfl, below_set3 b (by omega) _ _ _⟩
theorem felt_in (t : List Pt) (ph bf af : Int) (A : Option Addr) (c B : Nat) (w : World) (hB : B ≤ w.heap.size) (hr : Reads w B 3 A t.length (ptCells t)) (ht : pathB t = true)
    (hp : -1000000 ≤ ph ∧ ph ≤ 1000000) (hbf : 0 ≤ bf ∧ bf ≤ 10) (haf : 0 ≤ af ∧ af ≤ 10) :
    Calls Try.prog 48 #[.slice A t.length c, chgV ph bf af] w fun e w' => e = .returned (ptV (feltI t ph bf af)) ∧ Below w.heap.size w w' :=
  felt_any t ph bf af (ph - bf) (ph + af) A c B w hB hr ht (IntWalk.i64_in _ (by omega)) (IntWalk.i64_in _ (by omega))
/-- The same at a change of whatever numbers. -/
def feltX (t : List Pt) (x : Chg) : Pt := feltD t x.ph (IntKind.i64.wrap ((x.ph : Int) - (x.bf : Int))) (IntKind.i64.wrap ((x.ph : Int) + (x.af : Int)))
theorem feltX_eq {t : List Pt} {x : Chg} (hp : x.ph < t.length) (hn : t.length ≤ 100) (hb : x.bf ≤ 10) (ha : x.af ≤ 10) : feltX t x = feltZ t x := by
  rw [← feltI_nat t x hp]
  unfold feltX
  rw [IntWalk.i64_in _ (by omega), IntWalk.i64_in _ (by omega)]
  rfl
theorem feltX_any (t : List Pt) (x : Chg) (A : Option Addr) (c B : Nat) (w : World) (hB : B ≤ w.heap.size) (hr : Reads w B 3 A t.length (ptCells t)) (ht : pathB t = true) :
    Calls Try.prog 48 #[.slice A t.length c, chgV x.ph x.bf x.af] w fun e w' => e = .returned (ptV (feltX t x)) ∧ Below w.heap.size w w' :=
  felt_any t _ _ _ _ _ A c B w hB hr ht rfl rfl
end Go.Proofs.Ytkmiapfkebdpbaa
