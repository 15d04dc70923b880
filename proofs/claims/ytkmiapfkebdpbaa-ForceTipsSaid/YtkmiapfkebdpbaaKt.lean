/- Contract of measure. Conditions: the rig reads as data. -/
import Derived.Test.YtkmiapfkebdpbaaKs
namespace Go.Proofs.Ytkmiapfkebdpbaa
open Go.RowKit

theorem rigB_parts {r : RigZ} (h : rigB r = true) : r.seats.length ≤ 20 ∧ seatsB r.seats = true ∧ (3 ≤ r.feet.length ∧ r.feet.length ≤ 8 ∧ r.feet.all spanB = true ∧ groundB r.feet = true ∧ convexP r.feet = true) ∧ spanB r.center = true ∧ (0 ≤ r.frame ∧ r.frame ≤ 1000000) ∧ (0 ≤ r.empty ∧ r.empty ≤ r.full) ∧ r.full ≤ 1000000 := by
  simp only [rigB, feetB, inB, allB, Bool.and_eq_true, decide_eq_true_eq, List.all_cons, List.all_nil, and_true] at h
  obtain ⟨⟨⟨⟨⟨h1, h2⟩, ⟨⟨h3, h4⟩, h5⟩, h6⟩, h7⟩, h8⟩, h9⟩ := h
  exact ⟨by omega, h2, ⟨by omega, by omega, h4, h5, h6⟩, h7, by omega, by omega, by omega⟩
def phZ (r : RigZ) : Nat := if r.seats.length = 0 then 1 else (pathAt r.seats 0).length
def gCells (r : RigZ) (R : RigR) (g : Nat) (ph : Int) : List Value := [.slice R.A1 r.seats.length R.c1, .slice R.A2 r.feet.length R.c2, .int .i64 r.frame, .int .i64 r.center.x, .int .i64 r.center.y, .int .i64 r.center.z, .int .i64 r.empty, .int .i64 r.full, .slice (some ⟨g, 0, none⟩) r.feet.length r.feet.length, .int .i64 ph]
def gRigV (r : RigZ) (R : RigR) (g : Nat) (ph : Int) : Value := .agg #[.slice R.A1 r.seats.length R.c1, .slice R.A2 r.feet.length R.c2, .int .i64 r.frame, .int .i64 r.center.x, .int .i64 r.center.y, .int .i64 r.center.z, .int .i64 r.empty, .int .i64 r.full, .slice (some ⟨g, 0, none⟩) r.feet.length r.feet.length, .int .i64 ph]
def gZeros : List Value := [.slice none 0 0, .slice none 0 0, .int .i64 0, .int .i64 0, .int .i64 0, .int .i64 0, .int .i64 0, .int .i64 0, .slice none 0 0, .int .i64 0]
def MePost (w : World) (r : RigZ) (R : RigR) (e : Ending) (w' : World) : Prop :=
  Below w.heap.size w w' ∧ ((rigB r = false ∧ e = .returned (.tuple #[.agg gZeros.toArray, .int .i64 33])) ∨
    (rigB r = true ∧ ∃ g, w.heap.size ≤ g ∧ Lines w' g r.feet r.feet.length ∧ e = .returned (.tuple #[gRigV r R g (phZ r), .int .i64 0])))
theorem Row.at_10 {w : World} {g : Nat} {t : TypeId} {v0 v1 v2 v3 v4 v5 v6 v7 v8 v9 : Value} (h : Row w g t [v0, v1, v2, v3, v4, v5, v6, v7, v8, v9]) : (∀ o, w.frozen? ⟨g, o, none⟩ = false) ∧ w.cell? ⟨g, 0, none⟩ = some v0 ∧ w.cell? ⟨g, 1, none⟩ = some v1 ∧ w.cell? ⟨g, 2, none⟩ = some v2 ∧ w.cell? ⟨g, 3, none⟩ = some v3 ∧ w.cell? ⟨g, 4, none⟩ = some v4 ∧ w.cell? ⟨g, 5, none⟩ = some v5 ∧ w.cell? ⟨g, 6, none⟩ = some v6 ∧ w.cell? ⟨g, 7, none⟩ = some v7 ∧ w.cell? ⟨g, 8, none⟩ = some v8 ∧ w.cell? ⟨g, 9, none⟩ = some v9 :=
  ⟨fun o => h.frozen o, h.cell (j := 0) (by simp), h.cell (j := 1) (by simp), h.cell (j := 2) (by simp), h.cell (j := 3) (by simp), h.cell (j := 4) (by simp), h.cell (j := 5) (by simp), h.cell (j := 6) (by simp), h.cell (j := 7) (by simp), h.cell (j := 8) (by simp), h.cell (j := 9) (by simp)⟩
section
variable {w : World} {g : Nat} {t : TypeId}
theorem row_set10 {c0 c1 c2 c3 c4 c5 c6 c7 c8 c9 : Value} (h : Row w g t [c0, c1, c2, c3, c4, c5, c6, c7, c8, c9]) (v0 v1 v2 v3 v4 v5 v6 v7 v8 v9 : Value) : Row ((((((((((w.setCell ⟨g, 0, none⟩ v0).setCell ⟨g, 1, none⟩ v1).setCell ⟨g, 2, none⟩ v2).setCell ⟨g, 3, none⟩ v3).setCell ⟨g, 4, none⟩ v4).setCell ⟨g, 5, none⟩ v5).setCell ⟨g, 6, none⟩ v6).setCell ⟨g, 7, none⟩ v7).setCell ⟨g, 8, none⟩ v8).setCell ⟨g, 9, none⟩ v9) g t [v0, v1, v2, v3, v4, v5, v6, v7, v8, v9] := (((((((((h.set 0 v0).set 1 v1).set 2 v2).set 3 v3).set 4 v4).set 5 v5).set 6 v6).set 7 v7).set 8 v8).set 9 v9
theorem below_set10 {n : Nat} {a : World} (h : Below n a w) (hg : n ≤ g) (v0 v1 v2 v3 v4 v5 v6 v7 v8 v9 : Value) : Below n a ((((((((((w.setCell ⟨g, 0, none⟩ v0).setCell ⟨g, 1, none⟩ v1).setCell ⟨g, 2, none⟩ v2).setCell ⟨g, 3, none⟩ v3).setCell ⟨g, 4, none⟩ v4).setCell ⟨g, 5, none⟩ v5).setCell ⟨g, 6, none⟩ v6).setCell ⟨g, 7, none⟩ v7).setCell ⟨g, 8, none⟩ v8).setCell ⟨g, 9, none⟩ v9) := (((((((((h.setCell (p := ⟨g, 0, none⟩) hg v0).setCell (p := ⟨g, 1, none⟩) hg v1).setCell (p := ⟨g, 2, none⟩) hg v2).setCell (p := ⟨g, 3, none⟩) hg v3).setCell (p := ⟨g, 4, none⟩) hg v4).setCell (p := ⟨g, 5, none⟩) hg v5).setCell (p := ⟨g, 6, none⟩) hg v6).setCell (p := ⟨g, 7, none⟩) hg v7).setCell (p := ⟨g, 8, none⟩) hg v8).setCell (p := ⟨g, 9, none⟩) hg v9
theorem heap_set10 {k : Nat} (hk : k ≠ g) (v0 v1 v2 v3 v4 v5 v6 v7 v8 v9 : Value) : ((((((((((w.setCell ⟨g, 0, none⟩ v0).setCell ⟨g, 1, none⟩ v1).setCell ⟨g, 2, none⟩ v2).setCell ⟨g, 3, none⟩ v3).setCell ⟨g, 4, none⟩ v4).setCell ⟨g, 5, none⟩ v5).setCell ⟨g, 6, none⟩ v6).setCell ⟨g, 7, none⟩ v7).setCell ⟨g, 8, none⟩ v8).setCell ⟨g, 9, none⟩ v9).heap[k]? = w.heap[k]? := by
  simp only [Below.heap_setCell _ _ _ _ (show k ≠ (⟨g, 0, none⟩ : Addr).block from hk), Below.heap_setCell _ _ _ _ (show k ≠ (⟨g, 1, none⟩ : Addr).block from hk), Below.heap_setCell _ _ _ _ (show k ≠ (⟨g, 2, none⟩ : Addr).block from hk), Below.heap_setCell _ _ _ _ (show k ≠ (⟨g, 3, none⟩ : Addr).block from hk), Below.heap_setCell _ _ _ _ (show k ≠ (⟨g, 4, none⟩ : Addr).block from hk), Below.heap_setCell _ _ _ _ (show k ≠ (⟨g, 5, none⟩ : Addr).block from hk), Below.heap_setCell _ _ _ _ (show k ≠ (⟨g, 6, none⟩ : Addr).block from hk), Below.heap_setCell _ _ _ _ (show k ≠ (⟨g, 7, none⟩ : Addr).block from hk), Below.heap_setCell _ _ _ _ (show k ≠ (⟨g, 8, none⟩ : Addr).block from hk), Below.heap_setCell _ _ _ _ (show k ≠ (⟨g, 9, none⟩ : Addr).block from hk)]
end
theorem below_step {a b c : World} (h : Below a.heap.size a b) (h2 : Below b.heap.size b c) : Below a.heap.size a c := h.trans (h2.mono h.size)
/-- What lies behind the literal of the rig: a box of its own, and the foot lines. -/
def MMid (W : World) (r : RigZ) (R : RigR) (s4 : Value) (wx : World) : Prop := ∃ G g, s4 = .pointer (some ⟨G, 0, none⟩) ∧ W.heap.size ≤ G ∧ W.heap.size ≤ g ∧ g ≠ G ∧ Below W.heap.size W wx ∧ Row wx G 101 (gCells r R g 1) ∧ Lines wx g r.feet r.feet.length
theorem mid_late {W X : World} {r : RigZ} {R : RigR} {g : Nat} (hb : Below W.heap.size W X) (hg : W.heap.size ≤ g) (hL : Lines X g r.feet r.feet.length) :
    MMid W r R (.pointer (some ⟨X.heap.size, 0, none⟩)) (X.alloc (.cells #[.slice R.A1 r.seats.length R.c1, .slice R.A2 r.feet.length R.c2, .int .i64 r.frame, .int .i64 r.center.x, .int .i64 r.center.y, .int .i64 r.center.z, .int .i64 r.empty, .int .i64 r.full, .slice (some ⟨g, 0, none⟩) r.feet.length r.feet.length, .int .i64 1] 101)) := by
  have z := hL.lt
  exact ⟨X.heap.size, g, rfl, hb.size, hg, by omega, hb.alloc hb.size _, Row.new X _ (gCells r R g 1).toArray, hL.alloc _⟩
theorem mid_early {W X : World} {r : RigZ} {R : RigR} {g : Nat} {e : Nat} (he : e < g) (hWe : W.heap.size ≤ e) (hb : Below W.heap.size W X) (hg : W.heap.size ≤ g) (hL : Lines X g r.feet r.feet.length) (hr : Row X e 101 gZeros) :
    MMid W r R (.pointer (some ⟨e, 0, none⟩)) (((((((((((X.setCell ⟨e, 0, none⟩ (.slice R.A1 r.seats.length R.c1)).setCell ⟨e, 1, none⟩ (.slice R.A2 r.feet.length R.c2)).setCell ⟨e, 2, none⟩ (.int .i64 r.frame)).setCell ⟨e, 3, none⟩ (.int .i64 r.center.x)).setCell ⟨e, 4, none⟩ (.int .i64 r.center.y)).setCell ⟨e, 5, none⟩ (.int .i64 r.center.z)).setCell ⟨e, 6, none⟩ (.int .i64 r.empty)).setCell ⟨e, 7, none⟩ (.int .i64 r.full)).setCell ⟨e, 8, none⟩ (.slice (some ⟨g, 0, none⟩) r.feet.length r.feet.length)).setCell ⟨e, 9, none⟩ (.int .i64 1))) :=
  ⟨e, g, rfl, hWe, hg, by omega, below_set10 hb hWe _ _ _ _ _ _ _ _ _ _, row_set10 hr _ _ _ _ _ _ _ _ _ _, hL.keep (heap_set10 (by omega) _ _ _ _ _ _ _ _ _ _)⟩

set_option maxRecDepth 100000 in
set_option maxHeartbeats 4000000 in
theorem measure_any (r : RigZ) (R : RigR) (B : Nat) (w : World) (hB : B ≤ w.heap.size) (hR : RigIn w B r R) :
    Calls Try.prog 67 #[rigV r R] w (MePost w r R) := by
  obtain ⟨W, hW⟩ : ∃ W, W = (w.alloc (.cells (rigCells r R).toArray 57)).alloc (.cells gZeros.toArray 101) := ⟨_, rfl⟩
  have bW : Below w.heap.size w W := by subst hW; exact ((Below.refl _ _).alloc (Nat.le_refl _) _).alloc (by simp) _
  have rW : Row W w.heap.size 57 (rigCells r R) := by subst hW; exact (Row.new w _ (rigCells r R).toArray).alloc _
  have tW : Row W (w.heap.size + 1) 101 gZeros := by
    subst hW
    have h := Row.new (w.alloc (.cells (rigCells r R).toArray 57)) 101 gZeros.toArray
    simpa only [World.size_alloc] using h
  have hRW := hR.below (bW.mono hB)
  have zW : B ≤ W.heap.size := Nat.le_trans hB bW.size
  unfold rigV
  unfold rigCells at rW hW
  unfold gZeros at tW hW
  obtain ⟨_, q0, q1, q2, q3, q4, q5, q6, q7⟩ := Row.at_8 rW
  go_enter Try.func67, Try.ntmps67
  go_wp2_with fail
  rw [← hW]
  clear hW
  go_wp2_with fail
  refine (validRig_any r R B W zW hRW).mono ?_
  rintro e w1 ⟨rfl, hb1⟩
  have b1 := bW.trans (hb1.mono bW.size)
  have r1 := rW.below hb1 rW.lt
  have t1 := tW.below hb1 tW.lt
  obtain ⟨_, q0, q1, q2, q3, q4, q5, q6, q7⟩ := Row.at_8 r1
  obtain ⟨fT, p0, p1, p2, p3, p4, p5, p6, p7, p8, p9⟩ := Row.at_10 t1
  have z1 : w.heap.size < w1.heap.size := r1.lt
  have z1' : w.heap.size + 1 < w1.heap.size := t1.lt
  cases h1 : rigB r with
  | false =>
    go_wp2_with fail
    refine bodyPost_ret (v := .tuple #[.agg gZeros.toArray, .int .i64 33]) (by simp [results, Try.results67, go_sem, gZeros, *]) rfl ?_
    exact ⟨below_set10 b1 (by simp) _ _ _ _ _ _ _ _ _ _, .inl ⟨h1, rfl⟩⟩
  | true =>
    obtain ⟨hs20, hsb, ⟨h3, h8, hsp, hgr, hcv⟩, hce, hfr, hem, hfu⟩ := rigB_parts h1
    go_upto_region 3 with (fail)
    have HP : Hid (∀ X : World, Below w1.heap.size w1 X → Calls Try.prog 85 #[.slice R.A2 r.feet.length R.c2] X fun e x => FLPost X r.feet e x ∧ Below w1.heap.size w1 x) := fun X hX =>
      (footLines_any r.feet R.A2 R.c2 B X (by have := b1.size; have := hX.size; omega) ((hR.f.below (b1.mono hB)).below (hX.mono (by have := b1.size; omega))) h3 h8).mono fun _ _ h => ⟨h, by obtain ⟨g, _, _, hb, _⟩ := h; exact below_step hX hb⟩
    go_cut [4] (fun s4 wx => MMid w1 r R s4 wx)
    case first =>
      have ne1 : ¬ w1.heap.size = w.heap.size := by omega
      have ne2 : ¬ w.heap.size = w1.heap.size := by omega
      go_region_held3 (fun x => x.cell? ⟨w.heap.size, 0, none⟩ = some (.slice R.A1 r.seats.length R.c1) ∧ x.cell? ⟨w.heap.size, 1, none⟩ = some (.slice R.A2 r.feet.length R.c2) ∧ x.cell? ⟨w.heap.size, 2, none⟩ = some (.int .i64 r.frame) ∧ x.cell? ⟨w.heap.size, 3, none⟩ = some (.int .i64 r.center.x) ∧ x.cell? ⟨w.heap.size, 4, none⟩ = some (.int .i64 r.center.y) ∧ x.cell? ⟨w.heap.size, 5, none⟩ = some (.int .i64 r.center.z) ∧ x.cell? ⟨w.heap.size, 6, none⟩ = some (.int .i64 r.empty) ∧ x.cell? ⟨w.heap.size, 7, none⟩ = some (.int .i64 r.full)) (go_keep) (first
        | (go_at_call 85; go_must (refine (HP.out _ ?_).mono ?_; (first | exact Below.refl _ _ | exact Below.drew (Below.refl _ _) | exact below_drewN (Below.refl _ _) _ | exact Below.alloc (Below.refl _ _) (Nat.le_refl _) _ | exact Below.drew (Below.alloc (Below.refl _ _) (Nat.le_refl _) _) | exact below_drewN (Below.alloc (Below.refl _ _) (Nat.le_refl _) _) _); rintro e x3 ⟨⟨g, rfl, hg, hb3, hL3⟩, bx3⟩; obtain ⟨_, q0, q1, q2, q3, q4, q5, q6, q7⟩ := Row.at_8 (r1.below bx3 z1); (first | (have rz : Row x3 w1.heap.size 101 gZeros := Row.below (Row.new w1 101 gZeros.toArray) hb3 (by simp); obtain ⟨fz, y0, y1, y2, y3, y4, y5, y6, y7, y8, y9⟩ := Row.at_10 rz) | (have rz : Row x3 w1.heap.size 101 gZeros := Row.below (Row.new w1.drew 101 gZeros.toArray) hb3 (by simp); obtain ⟨fz, y0, y1, y2, y3, y4, y5, y6, y7, y8, y9⟩ := Row.at_10 rz) | (have ne3 : ¬ x3.heap.size = w.heap.size := Nat.ne_of_gt (Nat.lt_of_lt_of_le z1 bx3.size); have ne4 : ¬ w.heap.size = x3.heap.size := Nat.ne_of_lt (Nat.lt_of_lt_of_le z1 bx3.size))))))
      all_goals
        go_wp2_with fail
        go_meet
        first
          | (with_reducible exact mid_late bx3 (by simpa using hg) hL3)
          | (with_reducible exact mid_early (Nat.lt_of_succ_le (by simpa using hg)) (Nat.le_refl _) bx3 (Nat.le_of_lt (Nat.lt_of_succ_le (by simpa using hg))) hL3 rz)
    case rest =>
      obtain ⟨G, g, rfl, hG, hg, hne, hbx, rG, hL⟩ := hcut
      have b2 := b1.trans (hbx.mono b1.size)
      have r2 := r1.below hbx r1.lt
      have t2 := t1.below hbx t1.lt
      clear r1 t1 rW tW q0 q1 q2 q3 q4 q5 q6 q7 p0 p1 p2 p3 p4 p5 p6 p7 p8 p9
      obtain ⟨_, q0, q1, q2, q3, q4, q5, q6, q7⟩ := Row.at_8 r2
      obtain ⟨fT, p0, p1, p2, p3, p4, p5, p6, p7, p8, p9⟩ := Row.at_10 t2
      unfold gCells at rG
      obtain ⟨fG, y0, y1, y2, y3, y4, y5, y6, y7, y8, y9⟩ := Row.at_10 rG
      have n1 : ¬ G = w.heap.size := by omega
      have n2 : ¬ w.heap.size = G := by omega
      have n3 : ¬ G = w.heap.size + 1 := by omega
      have n4 : ¬ w.heap.size + 1 = G := by omega
      have zg := hL.lt
      have ng1 : g ≠ w.heap.size + 1 := by omega
      by_cases h0 : r.seats.length = 0
      · have h0' : ¬ (0 : Int) < (r.seats.length : Int) := by omega
        have hph : Hid (phZ r = 1) := by show _ = _; unfold phZ; rw [if_pos h0]
        go_wp2_with fail
        refine bodyPost_ret (v := .tuple #[gRigV r R g 1, .int .i64 0]) (by simp [results, Try.results67, go_sem, gRigV, *]) rfl ?_
        refine ⟨below_set10 b2 (by simp) _ _ _ _ _ _ _ _ _ _, .inr ⟨h1, g, by omega, hL.keep (heap_set10 ng1 _ _ _ _ _ _ _ _ _ _), by rw [hph.out]; rfl⟩⟩
      · have h0' : (0 : Int) < (r.seats.length : Int) := by omega
        obtain ⟨N, hN⟩ : ∃ N, N = (pathAt r.seats 0).length := ⟨_, rfl⟩
        have hph : Hid (phZ r = N) := by show _ = _; unfold phZ; rw [if_neg h0, hN]
        obtain ⟨b, o, hA, hb, hc⟩ := (hR.s.below (b2.mono hB)).outer (by omega)
        have c0 := hc 0 (by omega)
        simp only [Nat.add_zero] at c0
        rw [← hN] at c0
        rw [hA] at q0 y0
        have hnil : ¬ r.seats = [] := by intro e; rw [e] at h0; simp at h0
        clear hc hN
        go_wp2_with fail
        refine bodyPost_ret (v := .tuple #[gRigV r R g N, .int .i64 0]) (by simp [results, Try.results67, go_sem, gRigV, *]) rfl ?_
        refine ⟨below_set10 (b2.setCell (p := ⟨G, 9, none⟩) (by simp; omega) _) (by simp) _ _ _ _ _ _ _ _ _ _, .inr ⟨h1, g, by omega, (hL.keep (Below.heap_setCell _ ⟨G, 9, none⟩ _ _ hne)).keep (heap_set10 ng1 _ _ _ _ _ _ _ _ _ _), by rw [hph.out]⟩⟩
end Go.Proofs.Ytkmiapfkebdpbaa
