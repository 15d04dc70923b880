/- Contract of footLines. Conditions: from three to eight feet. -/
import Derived.Test.YtkmiapfkebdpbaaKm
import Derived.Laws.MakeOwn
import Derived.Deep.RegionHeld3
import Derived.Deep.DeepCutAuto
namespace Go.Proofs.Ytkmiapfkebdpbaa
open Go.RowKit

def lineAt (l : List Pt) (i : Nat) : List Value := [.int .i64 (ptAt l i).x, .int .i64 (ptAt l i).y, .int .i64 (ptAt l i).z, .int .i64 (ptAt l ((i + 1) % l.length)).x, .int .i64 (ptAt l ((i + 1) % l.length)).y, .int .i64 (ptAt l ((i + 1) % l.length)).z]
/-- Block g begins with the first k foot lines. -/
def Lines (w : World) (g : Nat) (l : List Pt) (k : Nat) : Prop := ∃ xs, Row w g 125 xs ∧ xs.length = l.length * 6 ∧ ∀ i, i < k → ∀ j, j < 6 → xs[i * 6 + j]? = (lineAt l i)[j]?
def FLPost (w : World) (l : List Pt) (e : Ending) (w' : World) : Prop := ∃ g, e = .returned (.slice (some ⟨g, 0, none⟩) l.length l.length) ∧ w.heap.size ≤ g ∧ Below w.heap.size w w' ∧ Lines w' g l l.length
theorem Lines.keep {w w' : World} {g k : Nat} {l : List Pt} (h : Lines w g l k) (hk : w'.heap[g]? = w.heap[g]?) : Lines w' g l k := by
  obtain ⟨xs, h1, h2, h3⟩ := h
  exact ⟨xs, h1.keep hk, h2, h3⟩
theorem Lines.lt {w : World} {g k : Nat} {l : List Pt} (h : Lines w g l k) : g < w.heap.size := by
  obtain ⟨xs, h1, _⟩ := h
  exact h1.lt
theorem Lines.alloc {w : World} {g k : Nat} {l : List Pt} (h : Lines w g l k) (o : Obj) : Lines (w.alloc o) g l k := h.keep (Below.heap_alloc w o g h.lt)
theorem Lines.drew {w : World} {g k : Nat} {l : List Pt} (h : Lines w g l k) : Lines w.drew g l k := h.keep rfl
/-- One line more. -/
theorem Lines.more {w : World} {g k : Nat} {l : List Pt} (h : Lines w g l k) (hk : k < l.length) {v0 v1 v2 v3 v4 v5 : Value} (hv : lineAt l k = [v0, v1, v2, v3, v4, v5]) :
    Lines ((((((w.setCell ⟨g, k * 6, none⟩ v0).setCell ⟨g, k * 6 + 1, none⟩ v1).setCell ⟨g, k * 6 + 2, none⟩ v2).setCell ⟨g, k * 6 + 3, none⟩ v3).setCell ⟨g, k * 6 + 4, none⟩ v4).setCell ⟨g, k * 6 + 5, none⟩ v5) g l (k + 1) := by
  obtain ⟨xs, h1, h2, h3⟩ := h
  refine ⟨_, (((((h1.set (k * 6) v0).set (k * 6 + 1) v1).set (k * 6 + 2) v2).set (k * 6 + 3) v3).set (k * 6 + 4) v4).set (k * 6 + 5) v5, by simpa using h2, fun i hi j hj => ?_⟩
  have hb : k * 6 + 5 < xs.length := by rw [h2]; omega
  rcases Nat.lt_or_ge i k with hik | hik
  · rw [List.getElem?_set_ne (by omega), List.getElem?_set_ne (by omega), List.getElem?_set_ne (by omega), List.getElem?_set_ne (by omega), List.getElem?_set_ne (by omega), List.getElem?_set_ne (by omega)]
    exact h3 i hik j hj
  · obtain rfl : i = k := by omega
    rw [hv]
    have hj6 : j = 0 ∨ j = 1 ∨ j = 2 ∨ j = 3 ∨ j = 4 ∨ j = 5 := by omega
    rcases hj6 with rfl | rfl | rfl | rfl | rfl | rfl <;> simp [List.getElem?_set] <;> omega
theorem Lines.more' {w : World} {g k : Nat} {l : List Pt} (h : Lines w g l k) (hk : k < l.length) {v0 v1 v2 v3 v4 v5 : Value} (hv : lineAt l k = [v0, v1, v2, v3, v4, v5]) : Lines ((((((w.setCell ⟨g, k * 6, none⟩ v0).setCell ⟨g, k * 6 + 1, none⟩ v1).setCell ⟨g, k * 6 + 2, none⟩ v2).setCell ⟨g, k * 6 + 3, none⟩ v3).setCell ⟨g, k * 6 + 4, none⟩ v4).setCell ⟨g, k * 6 + 5, none⟩ v5).drew g l (k + 1) := (h.more hk hv).drew
theorem below_set6 {n : Nat} {a w : World} {g k : Nat} (h : Below n a w) (hg : n ≤ g) (v0 v1 v2 v3 v4 v5 : Value) : Below n a ((((((w.setCell ⟨g, k * 6, none⟩ v0).setCell ⟨g, k * 6 + 1, none⟩ v1).setCell ⟨g, k * 6 + 2, none⟩ v2).setCell ⟨g, k * 6 + 3, none⟩ v3).setCell ⟨g, k * 6 + 4, none⟩ v4).setCell ⟨g, k * 6 + 5, none⟩ v5).drew :=
  below_drewN ((((((h.setCell (p := ⟨g, k * 6, none⟩) hg v0).setCell (p := ⟨g, k * 6 + 1, none⟩) hg v1).setCell (p := ⟨g, k * 6 + 2, none⟩) hg v2).setCell (p := ⟨g, k * 6 + 3, none⟩) hg v3).setCell (p := ⟨g, k * 6 + 4, none⟩) hg v4).setCell (p := ⟨g, k * 6 + 5, none⟩) hg v5) 1
theorem Lines.row {w : World} {g k : Nat} {l : List Pt} (h : Lines w g l k) {i : Nat} (hi : i < l.length) : (∀ o, w.frozen? ⟨g, o, none⟩ = false) ∧ ∀ j, j < 6 → (w.cell? ⟨g, i * 6 + j, none⟩).isSome = true := by
  obtain ⟨xs, h1, h2, h3⟩ := h
  refine ⟨fun o => h1.frozen o, fun j hj => ?_⟩
  rw [h1.cell (by omega)]
  simp
  omega

theorem Try.info_line : (Try.prog.info? 125).map (fun i => (i.zero, i.size, i.bytes)) = some (some (.agg #[.int .i64 0, .int .i64 0, .int .i64 0, .int .i64 0, .int .i64 0, .int .i64 0]), 6, 48) := by kernel_rfl
theorem run_mkLines (n : Nat) (hn : n ≤ 100) (w : World) : ∃ M : Array Value, M.size = n * 6 ∧ (Instr.makeSlice 99 (.int .i64 (n : Int)) (.int .i64 (n : Int))).run Try.prog w = .ok (.slice (some ⟨w.heap.size, 0, none⟩) n n) (w.alloc (.cells M 125)) := by
  obtain ⟨i0, hi, hz0, hz1, hz2⟩ := info_parts Try.info_line
  have hb : (i0.bytes : Int) * (n : Int) ≤ 281474976710656 := by rw [hz2]; omega
  have hr := run_make (P := Try.prog) w 99 125 i0 _ Try.underlying99 hi hz0 .i64 .i64 n n (by omega) (by omega) hb (by omega)
  simp only [Int.toNat_natCast] at hr
  exact ⟨_, by rw [size_madeCells, hz1], hr⟩

set_option maxRecDepth 100000 in
set_option maxHeartbeats 4000000 in
theorem footLines_any (l : List Pt) (A : Option Addr) (c B : Nat) (w : World) (hB : B ≤ w.heap.size) (hr : Reads w B 3 A l.length (ptCells l)) (h3 : 3 ≤ l.length) (h8 : l.length ≤ 8) :
    Calls Try.prog 85 #[.slice A l.length c] w (FLPost w l) := by
  obtain ⟨M, hM, hmk⟩ := run_mkLines l.length (by omega) w
  have hrow : Row (w.alloc (.cells M 125)) w.heap.size 125 M.toList := Row.new w _ _
  have hL0 : Lines (w.alloc (.cells M 125)) w.heap.size l 0 := ⟨_, hrow, by simpa using hM, fun i hi => by omega⟩
  obtain ⟨W, hW⟩ : ∃ W, W = w.alloc (.cells M 125) := ⟨_, rfl⟩
  have bW : Below w.heap.size w W := by subst hW; exact (Below.refl _ _).alloc (Nat.le_refl _) _
  rw [← hW] at hmk hL0
  clear hrow hM
  go_enter Try.func85, Try.ntmps85
  go_wp2_with fail
  rw [← hW]
  clear hW hmk
  go_loopw [11] (fun i wr => ∃ k : Nat, k ≤ l.length ∧ i = .int .i64 k ∧ Below w.heap.size w wr ∧ Lines wr w.heap.size l k) (fun i _ => l.length - (intOf i).toNat)
  case atStart => exact ⟨0, Nat.zero_le _, rfl, bW, hL0⟩
  case round =>
    obtain ⟨k, hk, rfl, hbel, hL⟩ := hrel
    clear bW hL0
    have hs := hbel.size
    by_cases hlt : k < l.length
    · have hrx := hr.below (hbel.mono hB)
      obtain ⟨b, o, rfl, hb, q0, q1, q2⟩ := hrx.atp hlt
      obtain ⟨k2, hk2⟩ : ∃ k2, k2 = (k + 1) % l.length := ⟨_, rfl⟩
      have hlt2 : k2 < l.length := by rw [hk2]; exact Nat.mod_lt _ (by omega)
      obtain ⟨b', o', hA, hb', p0, p1, p2⟩ := hrx.atp hlt2
      injection hA with hA
      injection hA with hA1 hA2
      subst hA1 hA2
      have e1 : IntKind.i64.wrap ((k : Int) + 1) = (k : Int) + 1 := IntWalk.i64_in _ (by omega)
      have e2 : ((k : Int) + 1).tmod (l.length : Int) = (k2 : Int) := by
        rw [hk2, Int.tmod_eq_emod_of_nonneg (by omega), Int.natCast_emod]
        rfl
      have hv : lineAt l k = [.int .i64 (ptAt l k).x, .int .i64 (ptAt l k).y, .int .i64 (ptAt l k).z, .int .i64 (ptAt l k2).x, .int .i64 (ptAt l k2).y, .int .i64 (ptAt l k2).z] := by unfold lineAt; rw [← hk2]
      have Hv := Lib.hid hv
      clear hv hk2
      have hlt2' : (k2 : Int) < (l.length : Int) := by omega
      have hne0 : (l.length : Int) ≠ 0 := by omega
      generalize ptAt l k = u at *
      generalize ptAt l k2 = v at *
      go_upto_region 5 with (fail)
      obtain ⟨X, hX⟩ : ∃ X, X = wr.alloc (.cells #[.int .i64 u.x, .int .i64 u.y, .int .i64 u.z] 28) := ⟨_, rfl⟩
      rw [← hX]
      have bX : Below w.heap.size w X := by subst hX; exact hbel.alloc hs _
      have rP : Row X wr.heap.size 28 [.int .i64 u.x, .int .i64 u.y, .int .i64 u.z] := by subst hX; exact Row.new wr _ _
      have LX : Lines X w.heap.size l k := by subst hX; exact hL.alloc _
      have qx : X.cell? ⟨b, o + k2 * 3, none⟩ = some (.int .i64 v.x) := by subst hX; exact (World.cell?_alloc_lt wr _ ⟨b, o + k2 * 3, none⟩ (show b < wr.heap.size by omega)).trans p0
      have qy : X.cell? ⟨b, o + k2 * 3 + 1, none⟩ = some (.int .i64 v.y) := by subst hX; exact (World.cell?_alloc_lt wr _ ⟨b, o + k2 * 3 + 1, none⟩ (show b < wr.heap.size by omega)).trans p1
      have qz : X.cell? ⟨b, o + k2 * 3 + 2, none⟩ = some (.int .i64 v.z) := by subst hX; exact (World.cell?_alloc_lt wr _ ⟨b, o + k2 * 3 + 2, none⟩ (show b < wr.heap.size by omega)).trans p2
      have LXd : Lines X.drew w.heap.size l k := LX.keep rfl
      have nb : ¬ w.heap.size = b := by omega
      have nw : ¬ w.heap.size = wr.heap.size := by have := hL.lt; omega
      clear hX q0 q1 q2 p0 p1 p2
      obtain ⟨_, a0, a1, a2⟩ := Row.at_3 rP
      obtain ⟨fL, cL⟩ := LX.row hlt
      obtain ⟨z0, hz0⟩ := Option.isSome_iff_exists.1 (cL 0 (by omega))
      obtain ⟨z1, hz1⟩ := Option.isSome_iff_exists.1 (cL 1 (by omega))
      obtain ⟨z2, hz2⟩ := Option.isSome_iff_exists.1 (cL 2 (by omega))
      obtain ⟨z3, hz3⟩ := Option.isSome_iff_exists.1 (cL 3 (by omega))
      obtain ⟨z4, hz4⟩ := Option.isSome_iff_exists.1 (cL 4 (by omega))
      obtain ⟨z5, hz5⟩ := Option.isSome_iff_exists.1 (cL 5 (by omega))
      simp only [Nat.add_zero] at hz0
      have hnil : ¬ l = [] := by intro e; subst e; simp at hlt
      have hk0 : (0 : Int) ≤ (k : Int) := by omega
      have hk20 : (0 : Int) ≤ (k2 : Int) := by omega
      have hkl : (k : Int) < (l.length : Int) := by omega
      go_region_held3 (fun y => y.cell? ⟨wr.heap.size, 0, none⟩ = some (.int .i64 u.x) ∧ y.cell? ⟨wr.heap.size, 1, none⟩ = some (.int .i64 u.y) ∧ y.cell? ⟨wr.heap.size, 2, none⟩ = some (.int .i64 u.z) ∧ y.cell? ⟨b, o + k2 * 3, none⟩ = some (.int .i64 v.x) ∧ y.cell? ⟨b, o + k2 * 3 + 1, none⟩ = some (.int .i64 v.y) ∧ y.cell? ⟨b, o + k2 * 3 + 2, none⟩ = some (.int .i64 v.z)) (go_keep) (fail)
      go_wp2_with fail
      go_roundw
      case rel =>
        refine ⟨k + 1, by omega, by go_num, ?_, ?_⟩
        · with_reducible exact below_set6 bX (Nat.le_refl _) _ _ _ _ _ _
        · with_reducible exact LX.more' hlt Hv.out
      case measure => simp [intOf]; omega
    · obtain rfl : k = l.length := by omega
      go_wp2_with fail
      go_ret
      exact ⟨w.heap.size, rfl, Nat.le_refl _, hbel, hL⟩
end Go.Proofs.Ytkmiapfkebdpbaa
