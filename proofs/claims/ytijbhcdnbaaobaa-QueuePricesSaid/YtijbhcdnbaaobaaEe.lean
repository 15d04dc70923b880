/- The walk of the specification's CopyGroups. Conditions: the groups read as data, not too many. -/
import Derived.Test.YtijbhcdnbaaobaaEb
import Derived.Test.YtijbhcdnbaaobaaRh
/- Contract of the specification's Copy of an evening. Conditions: the rides read as data. -/
namespace Go.Proofs.Ytijbhcdnbaaobaa
open Go.RowKit

theorem Try.info_booth : (Try.prog.info? 47).map (fun i => (i.zero, i.size, i.bytes)) = some (some (.agg #[.int .i64 0, .int .i64 0, .int .i64 0, .int .i64 0, .bool false]), 5, 40) := by kernel_rfl
theorem bth_one (l : List Bth) : ∀ u ∈ bthCells l, u.oneCell' = true := fun u hu => by
  unfold bthCells at hu
  obtain ⟨b, _, hb⟩ := List.mem_flatMap.1 hu
  unfold bthL at hb
  simp only [List.mem_cons, List.not_mem_nil, or_false] at hb
  rcases hb with rfl | rfl | rfl | rfl | rfl <;> rfl
/-- A copied evening. -/
def EveTo (w : World) (f : EveZ) (e : Ending) (w' : World) : Prop := ∃ A c, e = .returned (eveV f A c) ∧ Below w.heap.size w w' ∧ w'.ownsRow w.heap.size 47 5 (.slice A f.rides.length c) f.rides.length (bthCells f.rides)
set_option maxRecDepth 100000 in
set_option maxHeartbeats 2000000 in
theorem rCopy_any (f : EveZ) (A : Option Addr) (c B : Nat) (w : World) (hB : B ≤ w.heap.size) (hr : Reads w B 5 A f.rides.length (bthCells f.rides)) (hn : f.rides.length ≤ 1000) :
    Calls Try.prog 18 #[eveV f A c] w (EveTo w f) := by
  obtain ⟨W, hW⟩ : ∃ W, W = (w.alloc (.cells #[.slice A f.rides.length c, .int .i64 f.walk] 24)).alloc (.cells #[.slice none 0 0, .int .i64 0] 24) := ⟨_, rfl⟩
  have bW : Below w.heap.size w W := by subst hW; exact ((Below.refl _ _).alloc (Nat.le_refl _) _).alloc (by simp) _
  have r0 : Row W w.heap.size 24 [.slice A f.rides.length c, .int .i64 f.walk] := by subst hW; exact (Row.new w _ _).alloc _
  have r1 : Row W (w.heap.size + 1) 24 [.slice none 0 0, .int .i64 0] := by subst hW; rw [show w.heap.size + 1 = (w.alloc (.cells #[.slice A f.rides.length c, .int .i64 f.walk] 24)).heap.size by rw [World.size_alloc]]; exact Row.new _ _ _
  have x0 : W.cell? ⟨w.heap.size, 0, none⟩ = some (.slice A f.rides.length c) := r0.cell (j := 0) (by simp)
  have x1 : W.cell? ⟨w.heap.size, 1, none⟩ = some (.int .i64 f.walk) := r0.cell (j := 1) (by simp)
  have z0 := r0.lt
  have z1 := r1.lt
  have HL : Hid (∀ x, Below W.heap.size W x → Reads x B 5 A f.rides.length (bthCells f.rides)) := fun x hx => (hr.below (bW.mono hB)).below (hx.mono (Nat.le_trans hB bW.size))
  have HR1 := Lib.hid r1
  have HBW := Lib.hid bW
  have po := bth_one f.rides
  obtain ⟨i0, hi, hz0, hz1, hz2⟩ := info_parts Try.info_booth
  unfold eveV
  clear hr r0 r1
  go_enter Try.func18, Try.ntmps18
  go_upto_region 1 with (fail)
  rw [← hW]
  clear hW bW
  refine wp_region_add (m := 7) (w0 := W) (ord := [0, 1, 2, 3, 4, 5, 6, 7]) (ds := [(0, 3), (1, 4), (2, 5), (3, 6), (4, 7), (5, 8), (6, 9)]) (l := [isEmpty W.heap.size 47 5, isV ?va1, isV ?va2, isOwn W.heap.size 47 5 f.rides.length (bthCells f.rides), isV ?va4, isV ?va5, (fun u y => ∃ A3 c3, u = .agg #[.slice A3 f.rides.length c3, .int .i64 f.walk] ∧ isOwn W.heap.size 47 5 f.rides.length (bthCells f.rides) (.slice A3 f.rides.length c3) y)]) (by kernel_rfl) (by kernel_rfl) (by first | rfl | kernel_rfl) (AddSteps.cons (k := 0) (k' := 1) rfl ?sa0 (AddSteps.cons (k := 1) (k' := 2) rfl ?sa1 (AddSteps.cons (k := 2) (k' := 3) rfl ?sa2 (AddSteps.cons (k := 3) (k' := 4) rfl ?sa3 (AddSteps.cons (k := 4) (k' := 5) rfl ?sa4 (AddSteps.cons (k := 5) (k' := 6) rfl ?sa5 (AddSteps.cons (k := 6) (k' := 7) rfl ?sa6 AddSteps.nil))))))) ?sta ?fina
  case sa0 =>
    refine AddStep.go (o := ⟨some 3, _, _, _, _, _⟩) rfl rfl (fun xs y hy hV K hK => ?_)
    clear hV
    simp only [putsF, List.foldl_cons, List.foldl_nil, Act.put, List.setIfInBounds_toArray, List.set_cons_zero, List.set_cons_succ] at hK ⊢
    go_wp2_with fail
    exact hK.out _ _ ((Below.refl _ _).alloc (Nat.le_refl _) _) (new_empty hy.size)
  case sa1 =>
    refine AddStep.go (o := ⟨some 4, _, _, _, _, _⟩) rfl rfl (fun xs y hy hV K hK => ?_)
    clear hV
    simp only [putsF, List.foldl_cons, List.foldl_nil, Act.put, List.setIfInBounds_toArray, List.set_cons_zero, List.set_cons_succ] at hK ⊢
    go_wp2_with fail
    exact hK.out _ _ (Below.refl _ _) (by exact rfl)
  case sa2 =>
    refine AddStep.go (o := ⟨some 5, _, _, _, _, _⟩) rfl rfl (fun xs y hy hV K hK => ?_)
    have e1 : xs 1 = _ := hV 1 (by kernel_rfl)
    clear hV
    simp only [putsF, List.foldl_cons, List.foldl_nil, Act.put, List.setIfInBounds_toArray, List.set_cons_zero, List.set_cons_succ] at hK ⊢
    simp only [e1] at hK ⊢
    clear e1
    have x0 := (hy.cell (p := ⟨w.heap.size, 0, none⟩) z0).trans x0
    have x1 := (hy.cell (p := ⟨w.heap.size, 1, none⟩) z0).trans x1
    go_wp2_with fail
    exact hK.out _ _ (Below.refl _ _) (by exact rfl)
  case sa3 =>
    refine AddStep.go (o := ⟨some 6, _, _, _, _, _⟩) rfl rfl (fun xs y hy hV K hK => ?_)
    have h0 := (hV 0 (by kernel_rfl))
    have e2 : xs 2 = _ := hV 2 (by kernel_rfl)
    clear hV
    simp only [putsF, List.foldl_cons, List.foldl_nil, Act.put, List.setIfInBounds_toArray, List.set_cons_zero, List.set_cons_succ] at hK ⊢
    simp only [e2] at hK ⊢
    clear e2
    refine wp_app0 _ (.tmp 3) (.tmp 5) 22 (by rfl) W.heap.size 47 i0 _ 5 40 Try.underlying22 hi hz0 hz1 hz2 rfl (by decide) _ (by rfl) h0 B A f.rides.length c (bthCells f.rides) (by rfl) (HL.out y hy) po (by unfold maxLen; omega) (by omega) ?_
    intro v1 z ho hb
    exact hK.out _ _ hb ⟨ho, Nat.le_trans h0.2.2 hb.size⟩
  case sa4 =>
    refine AddStep.go (o := ⟨some 7, _, _, _, _, _⟩) rfl rfl (fun xs y hy hV K hK => ?_)
    clear hV
    simp only [putsF, List.foldl_cons, List.foldl_nil, Act.put, List.setIfInBounds_toArray, List.set_cons_zero, List.set_cons_succ] at hK ⊢
    go_wp2_with fail
    exact hK.out _ _ (Below.refl _ _) (by exact rfl)
  case sa5 =>
    refine AddStep.go (o := ⟨some 8, _, _, _, _, _⟩) rfl rfl (fun xs y hy hV K hK => ?_)
    have e4 : xs 4 = _ := hV 4 (by kernel_rfl)
    clear hV
    simp only [putsF, List.foldl_cons, List.foldl_nil, Act.put, List.setIfInBounds_toArray, List.set_cons_zero, List.set_cons_succ] at hK ⊢
    simp only [e4] at hK ⊢
    clear e4
    have x0 := (hy.cell (p := ⟨w.heap.size, 0, none⟩) z0).trans x0
    have x1 := (hy.cell (p := ⟨w.heap.size, 1, none⟩) z0).trans x1
    go_wp2_with fail
    exact hK.out _ _ (Below.refl _ _) (by exact rfl)
  case sa6 =>
    refine AddStep.go (o := ⟨some 9, _, _, _, _, _⟩) rfl rfl (fun xs y hy hV K hK => ?_)
    have h3 := (hV 3 (by kernel_rfl))
    obtain ⟨A3, c3, e3⟩ := own_slice h3.1
    rw [e3] at h3
    have e5 : xs 5 = _ := hV 5 (by kernel_rfl)
    clear hV
    simp only [putsF, List.foldl_cons, List.foldl_nil, Act.put, List.setIfInBounds_toArray, List.set_cons_zero, List.set_cons_succ] at hK ⊢
    simp only [e3, e5] at hK ⊢
    clear e3 e5
    go_wp2_with fail
    exact hK.out _ _ (Below.refl _ _) ⟨A3, c3, rfl, h3⟩
  case sta => exact (AllSt.cons (stable_isEmpty _ _ _) (AllSt.cons (stable_isV _) (AllSt.cons (stable_isV _) (AllSt.cons (stable_isOwn _ _ _ _ _) (AllSt.cons (stable_isV _) (AllSt.cons (stable_isV _) (AllSt.cons ((fun _ _ _ ⟨A3, c3, h1, h2⟩ hb => ⟨A3, c3, h1, stable_isOwn _ _ _ _ _ _ _ _ h2 hb⟩)) AllSt.nil)))))))
  case fina =>
    intro xs y hy hV
    have h0 := (hV 0 (by decide))
    have e1 : xs 1 = _ := hV 1 (by decide)
    have e2 : xs 2 = _ := hV 2 (by decide)
    have h3 := (hV 3 (by decide))
    obtain ⟨A3, c3, e3⟩ := own_slice h3.1
    rw [e3] at h3
    have e4 : xs 4 = _ := hV 4 (by decide)
    have e5 : xs 5 = _ := hV 5 (by decide)
    obtain ⟨A6, c6, e6, h6⟩ := (hV 6 (by decide))
    clear hV
    simp only [putsF, List.foldl_cons, List.foldl_nil, Act.put, List.setIfInBounds_toArray, List.set_cons_zero, List.set_cons_succ]
    simp only [e1, e2, e3, e4, e5, e6]
    clear e1 e2 e3 e4 e5 e6
    show wpOps _ _ _ [7] _ _
    refine wpOps_go (o := ⟨none, _, _, _, _, _⟩) rfl rfl (fun K hK => ?_)
    have rY := HR1.out.below hy z1
    have rZ := Row.set (Row.set rY 0 (.slice A6 f.rides.length c6)) 1 (.int .i64 f.walk)
    have y0 : y.cell? ⟨w.heap.size + 1, 0, none⟩ = some (.slice none 0 0) := rY.cell (j := 0) (by simp)
    have y1 : y.cell? ⟨w.heap.size + 1, 1, none⟩ = some (.int .i64 0) := rY.cell (j := 1) (by simp)
    have ff : ∀ k, y.frozen? ⟨w.heap.size + 1, k, none⟩ = false := fun k => rY.frozen k
    have f0 := ff 0
    have f1 := ff 1
    have ly := rY.lt
    have hyy := Lib.hid hy
    have h66 := Lib.hid h6
    go_wp2_with fail
    obtain ⟨Z, hZ⟩ : ∃ Z, Z = (y.setCell ⟨w.heap.size + 1, 0, none⟩ (.slice A6 f.rides.length c6)).setCell ⟨w.heap.size + 1, 1, none⟩ (.int .i64 f.walk) := ⟨_, rfl⟩
    rw [← hZ]
    have zr : Row Z (w.heap.size + 1) 24 [.slice A6 f.rides.length c6, .int .i64 f.walk] := by rw [hZ]; exact rZ
    have zb : Below w.heap.size w Z := by
      rw [hZ]
      exact ((HBW.out.trans (hyy.out.mono HBW.out.size)).setCell (p := ⟨w.heap.size + 1, 0, none⟩) (Nat.le_succ _) _).setCell (p := ⟨w.heap.size + 1, 1, none⟩) (Nat.le_succ _) _
    have zo : Z.ownsRow w.heap.size 47 5 (.slice A6 f.rides.length c6) f.rides.length (bthCells f.rides) := by
      refine own_low (own_heap h66.out.1 fun g h1 h2 => ?_) HBW.out.size
      have hg : g ≠ w.heap.size + 1 := by omega
      rw [hZ, Below.heap_setCell _ _ _ _ hg, Below.heap_setCell _ _ _ _ hg]
    clear hZ rZ rY y0 y1 ff f0 f1 ly x0 x1 h0 h3 hyy h66
    have q0 : Z.cell? ⟨w.heap.size + 1, 0, none⟩ = some (.slice A6 f.rides.length c6) := zr.cell (j := 0) (by simp)
    have q1 : Z.cell? ⟨w.heap.size + 1, 1, none⟩ = some (.int .i64 f.walk) := zr.cell (j := 1) (by simp)
    have lz := zr.lt
    have Hzo := Lib.hid zo
    clear zr zo
    refine hK.out _ _ (wpOps_nil ?_)
    go_wp2_with fail
    refine bodyPost_ret (v := .agg #[.slice A6 f.rides.length c6, .int .i64 f.walk]) (by simp [results, Try.results18, go_sem, *]) rfl ?_
    exact ⟨A6, c6, rfl, zb, Hzo.out⟩
end Go.Proofs.Ytijbhcdnbaaobaa
/- Contract of the specification's CopyGroups. Conditions: the groups read as data. -/
namespace Go.Proofs.Ytijbhcdnbaaobaa
open Go.RowKit

theorem Try.info_agroup : (Try.prog.info? 55).map (fun i => (i.zero, i.size, i.bytes)) = some (some (.agg #[.int .i64 0, .int .i64 0, .int .i64 0, .slice none 0 0, .int .i64 0]), 5, 56) := by kernel_rfl
def agL (p : Option Addr × Nat) (g : GrpZ) : List Value := [.int .i64 g.at_, .int .i64 g.size, .int .i64 g.tokens, .slice p.1 g.wants.length p.2, .int .i64 g.patience]
def agV (p : Option Addr × Nat) (g : GrpZ) : Nat → Value
  | 0 => .int .i64 g.at_
  | 1 => .int .i64 g.size
  | 2 => .int .i64 g.tokens
  | 3 => .slice p.1 g.wants.length p.2
  | _ => .int .i64 g.patience
theorem lt_five {P : Nat → Prop} (h0 : P 0) (h1 : P 1) (h2 : P 2) (h3 : P 3) (h4 : P 4) (b : Nat) (hb : b < 5) : P b := by
  rcases (by omega : b = 0 ∨ b = 1 ∨ b = 2 ∨ b = 3 ∨ b = 4) with rfl | rfl | rfl | rfl | rfl <;> assumption
/-- The groups' cells. -/
def agsL (rs : List (Option Addr × Nat)) (l : List GrpZ) : List Value := (List.range l.length).flatMap fun i => agL (rs.getD i default) (l.getD i default)
theorem agsL_len (rs : List (Option Addr × Nat)) (l : List GrpZ) : (agsL rs l).length = l.length * 5 := by
  unfold agsL
  rw [flat_len _ 5 (fun _ => rfl), List.length_range]
theorem agsL_at (rs : List (Option Addr × Nat)) (l : List GrpZ) (i : Nat) (hi : i < l.length) (j : Nat) (hj : j < 5) : (agsL rs l)[i * 5 + j]? = some (agV (rs.getD i default) (l.getD i default) j) := by
  unfold agsL
  rw [flat_at _ 5 (fun _ => rfl) 0 _ i (by simpa using hi) j hj]
  have e : (List.range l.length).getD i 0 = i := by rw [List.getD_eq_getElem?_getD, List.getElem?_range hi]; rfl
  rw [e]
  exact lt_five (P := fun j => (agL (rs.getD i default) (l.getD i default))[j]? = some (agV (rs.getD i default) (l.getD i default) j)) rfl rfl rfl rfl rfl j hj
theorem ags_one (rs : List (Option Addr × Nat)) (l : List GrpZ) : ∀ u ∈ agsL rs l, u.oneCell' = true := fun u hu => by
  unfold agsL at hu
  obtain ⟨b, _, hb⟩ := List.mem_flatMap.1 hu
  unfold agL at hb
  simp only [List.mem_cons, List.not_mem_nil, or_false] at hb
  rcases hb with rfl | rfl | rfl | rfl | rfl <;> rfl
theorem GrpsIn.reads {w : World} {B : Nat} {A : Option Addr} {rs : List (Option Addr × Nat)} {l : List GrpZ} (h : GrpsIn w B A rs l) : Reads w B 5 A l.length (agsL rs l) := by
  refine ⟨agsL_len rs l, fun h0 => ?_⟩
  obtain ⟨b, o, e, hb, hc⟩ := h.outer h0
  refine ⟨b, o, e, hb, fun j u hu => ?_⟩
  have hj : j < l.length * 5 := by
    have := (List.getElem?_eq_some_iff.1 hu).1
    rwa [agsL_len] at this
  have e1 : j = (j / 5) * 5 + j % 5 := by omega
  have hi : j / 5 < l.length := by omega
  have hm : j % 5 < 5 := by omega
  rw [e1, agsL_at rs l _ hi _ hm] at hu
  injection hu with hu
  obtain ⟨c0, c1, c2, c3, c4⟩ := hc _ hi
  rw [e1, ← hu, ← Nat.add_assoc]
  exact lt_five (P := fun m => w.cell? ⟨b, o + j / 5 * 5 + m, none⟩ = some (agV (rs.getD (j / 5) default) (l.getD (j / 5) default) m)) c0 c1 c2 c3 c4 _ hm
/-- Copied groups. -/
def GrpTo (w : World) (l : List GrpZ) (e : Ending) (w' : World) : Prop := ∃ A c rs, e = .returned (.slice A l.length c) ∧ Below w.heap.size w w' ∧ GrpsIn w' w'.heap.size A rs l
/-- The groups while their wishes are copied: the first k have their own. -/
structure CpIn (w : World) (B g : Nat) (rs : List (Option Addr × Nat)) (l : List GrpZ) (k : Nat) (ref : Nat → Option Addr × Nat) (wr : World) : Prop where
  bel : Below w.heap.size w wr
  gw : w.heap.size ≤ g
  blk : Blk wr g 55 l.length 5 (fun i => agV (ref i) (l.getD i default))
  own : ∀ i, i < k → wr.ownsRow w.heap.size 3 1 (.slice (ref i).1 (l.getD i default).wants.length (ref i).2) (l.getD i default).wants.length ((l.getD i default).wants.map (Value.int .i64))
  old : ∀ i, k ≤ i → ref i = rs.getD i default
theorem CpIn.done {w wr : World} {B g c : Nat} {rs : List (Option Addr × Nat)} {l : List GrpZ} {ref : Nat → Option Addr × Nat} (h : CpIn w B g rs l l.length ref wr) (hm : l.length ≤ maxLen) (hw : ∀ i, i < l.length → (l.getD i default).wants.length ≤ maxLen) : GrpTo w l (.returned (.slice (some ⟨g, 0, none⟩) l.length c)) wr := by
  have hr : ∀ i, i < l.length → ((List.range l.length).map ref).getD i default = ref i := fun i hi => by
    rw [List.getD_eq_getElem?_getD, List.getElem?_map, List.getElem?_range hi]; rfl
  refine ⟨_, c, (List.range l.length).map ref, rfl, h.bel, ⟨hm, fun h0 => ⟨g, 0, rfl, h.blk.lt, fun i hi => ?_⟩, fun i hi => ?_, hw⟩⟩
  · rw [hr i hi, Nat.zero_add]
    exact ⟨h.blk.cell0 hi (by omega), h.blk.cell hi (j := 1) (by omega), h.blk.cell hi (j := 2) (by omega), h.blk.cell hi (j := 3) (by omega), h.blk.cell hi (j := 4) (by omega)⟩
  · rw [hr i hi]
    obtain ⟨A, c', e, hrd⟩ := nown_reads (h.own i hi)
    injection e with e1
    rw [e1]
    exact hrd
theorem CpIn.next {w wr X : World} {B g : Nat} {rs : List (Option Addr × Nat)} {l : List GrpZ} {k : Nat} {ref : Nat → Option Addr × Nat} (h : CpIn w B g rs l k ref wr) (hb : Below wr.heap.size wr X) {A : Option Addr} {c : Nat}
    (ho : X.ownsRow w.heap.size 3 1 (.slice A (l.getD k default).wants.length c) (l.getD k default).wants.length ((l.getD k default).wants.map (Value.int .i64))) :
    CpIn w B g rs l (k + 1) (fun i => if i = k then (A, c) else ref i) (X.setCell ⟨g, k * 5 + 3, none⟩ (.slice A (l.getD k default).wants.length c)) := by
  have hbX := h.bel.trans (hb.mono h.bel.size)
  have hB2 := h.blk.below hb h.blk.lt
  have hgr := grown_set X ⟨g, k * 5 + 3, none⟩ (.slice A (l.getD k default).wants.length c)
  have key : ∀ {n : Nat} {v : Value} {xs : List Value}, X.ownsRow w.heap.size 3 1 v n xs → (X.setCell ⟨g, k * 5 + 3, none⟩ (.slice A (l.getD k default).wants.length c)).ownsRow w.heap.size 3 1 v n xs := fun h => h.kept hgr (own_off h hB2.ty (by decide))
  refine ⟨hbX.setCell h.gw _, h.gw, hB2.set (i := k) (j := 3) (by omega) _ fun a ha b hb => ?_, fun i hi => ?_, fun i hi => ?_⟩
  · by_cases e : a = k
    · subst e
      refine lt_five (P := fun b => agV (if a = a then (A, c) else ref a) (l.getD a default) b = if a = a ∧ b = 3 then _ else agV (ref a) (l.getD a default) b) ?_ ?_ ?_ ?_ ?_ b hb <;> simp [agV]
    · simp [e]
  · by_cases e : i = k
    · subst e
      simp only [if_true]
      exact key ho
    · simp only [e, if_false]
      exact key (own_keep (h.own i (by omega)) hb)
  · simp only [show ¬ i = k by omega, if_false]
    exact h.old i (by omega)
end Go.Proofs.Ytijbhcdnbaaobaa
namespace Go.Proofs.Ytijbhcdnbaaobaa
open Go.RowKit

set_option maxRecDepth 100000 in
set_option maxHeartbeats 2000000 in
theorem rCopyGroups_any (l : List GrpZ) (A2 : Option Addr) (c2 B : Nat) (rs : List (Option Addr × Nat)) (w : World) (hB : B ≤ w.heap.size) (hl : GrpsIn w B A2 rs l) (hm : l.length ≤ 1000) (hw : ∀ i, i < l.length → (l.getD i default).wants.length ≤ 1000) :
    Calls Try.prog 19 #[.slice A2 l.length c2] w (GrpTo w l) := by
  obtain ⟨i0, hi, hz0, hz1, hz2⟩ := info_parts Try.info_int
  obtain ⟨j0, hj, hy0, hy1, hy2⟩ := info_parts Try.info_agroup
  have bA := (Below.refl w.heap.size w).alloc (Nat.le_refl _) (.cells #[] 55)
  have hE : isEmpty w.heap.size 55 5 (.slice (some ⟨w.heap.size, 0, none⟩) 0 0) (w.alloc (.cells #[] 55)) := new_empty (Nat.le_refl _)
  have hrd := hl.reads.below (bA.mono hB)
  have po := ags_one rs l
  have m1 : 0 + l.length ≤ maxLen := by unfold maxLen; omega
  have m2 : (0 + l.length) * 56 ≤ 140737488355328 := by omega
  have m3 := bA.size
  have hin := Lib.hid hl
  go_enter Try.func19, Try.ntmps19
  go_upto_region 2 with (at_builtin; refine wpList_app _ rfl _ _ 25 rfl w.heap.size 55 j0 _ 5 56 Try.underlying25 hj hy0 hy1 hy2 rfl (by decide) (.slice (some ⟨w.heap.size, 0, none⟩) 0 0) 0 [] rfl hE.2.1 B A2 l.length c2 (agsL rs l) rfl hrd po m1 m2 m3 ?_)
  intro v W ho hb
  have ho' : W.ownsRow w.heap.size 55 5 v l.length (agsL rs l) := by simpa using ho
  have hbW := bA.trans (hb.mono (by first | exact Nat.le_refl _ | omega))
  have hgr := hin.out.below (hbW.mono hB)
  clear bA hE hrd po m1 m2 m3 hl hb ho
  rcases Nat.eq_zero_or_pos l.length with h0 | h0
  · obtain ⟨A, c, rfl⟩ := own_slice ho'
    have hl0 : l = [] := List.eq_nil_of_length_eq_zero h0
    subst hl0
    have HB := Lib.hid hbW
    clear ho' hgr hin
    go_wp2_with fail
    go_loop [4] (fun ix => ix = .int .i64 0) (fun _ => 0)
    case atStart => rfl
    case round =>
      subst hrel
      go_wp2_with fail
      go_ret
      exact ⟨A, c, [], rfl, HB.out, ⟨Nat.zero_le _, fun h => absurd h (by simp), fun i hi => absurd hi (by simp), fun i hi => absurd hi (by simp)⟩⟩
  · obtain ⟨g, cap, rfl, -, -⟩ := World.ownsRow.form ho' h0
    obtain ⟨hblk, hgw⟩ := Blk.of_own (f := fun i => agV (rs.getD i default) (l.getD i default)) ho' (agsL_len rs l) (agsL_at rs l)
    have hC0 : CpIn w B g rs l 0 (fun i => rs.getD i default) W := ⟨hbW, hgw, hblk, fun i hi => absurd hi (by omega), fun _ _ => rfl⟩
    have HC0 := Lib.hid hC0
    clear ho' hblk hbW hC0 hgr
    go_wp2_with fail
    go_loopw [4] (fun i wr => ∃ (k : Nat) (ref : Nat → Option Addr × Nat), k ≤ l.length ∧ i = .int .i64 k ∧ CpIn w B g rs l k ref wr) (fun i _ => l.length - (intOf i).toNat)
    case atStart => exact ⟨0, _, Nat.zero_le _, rfl, HC0.out⟩
    case round =>
      obtain ⟨k, ref, hk, rfl, hC⟩ := hrel
      by_cases hlt : k < l.length
      · have hlt' : (k : Int) < (l.length : Int) := by omega
        obtain ⟨⟨Ar, cr⟩, hrs⟩ : ∃ r, r = rs.getD k default := ⟨_, rfl⟩
        have hrk : ref k = (Ar, cr) := by rw [hC.old k (Nat.le_refl _), ← hrs]
        have q3 := hC.blk.cell hlt (j := 3) (by omega)
        simp only [agV, hrk] at q3
        have lg := hC.blk.lt
        have hbel := hC.bel
        have hs := hbel.size
        have hrd := (hin.out.inner k hlt).below (hbel.mono hB)
        rw [← hrs] at hrd
        have hwk := hw k hlt
        obtain ⟨x, hx⟩ : ∃ x, x = l.getD k default := ⟨_, rfl⟩
        have HN : Hid (∀ X A c, Below wr.heap.size wr X → X.ownsRow w.heap.size 3 1 (.slice A x.wants.length c) x.wants.length (x.wants.map (Value.int .i64)) → CpIn w B g rs l (k + 1) (fun i => if i = k then (A, c) else ref i) (X.setCell ⟨g, k * 5 + 3, none⟩ (.slice A x.wants.length c))) := fun X A c h1 h2 => by
          rw [hx] at h2 ⊢
          exact hC.next h1 h2
        have HF : Hid (∀ X, Below wr.heap.size wr X → X.frozen? ⟨g, k * 5 + 3, none⟩ = false ∧ X.cell? ⟨g, k * 5 + 3, none⟩ = some (.slice Ar x.wants.length cr)) := fun X hX => by
          have hq := hC.blk.below hX lg
          refine ⟨hq.frozen _, ?_⟩
          have := hq.cell hlt (j := 3) (by omega)
          simp only [agV, hrk] at this
          rw [this, hx]
        rw [← hx] at q3 hrd hwk
        have bA := (Below.refl wr.heap.size wr).alloc (Nat.le_refl _) (.cells #[] 3)
        have hE : isEmpty wr.heap.size 3 1 (.slice (some ⟨wr.heap.size, 0, none⟩) 0 0) (wr.alloc (.cells #[] 3)) := new_empty (Nat.le_refl _)
        have hrA := hrd.below (bA.mono (Nat.le_trans hB hs))
        have po : ∀ u ∈ x.wants.map (Value.int .i64), u.oneCell' = true := fun u hu => by obtain ⟨a, _, rfl⟩ := List.mem_map.1 hu; rfl
        have m1 : 0 + x.wants.length ≤ maxLen := by unfold maxLen; omega
        have m2 : (0 + x.wants.length) * 8 ≤ 140737488355328 := by omega
        have m3 := bA.size
        have HbA := Lib.hid bA
        clear hC hrs hx hrd hbel bA
        go_wp2_with (at_builtin; refine wpList_app _ rfl _ _ 37 rfl wr.heap.size 3 i0 _ 1 8 Try.underlying37 hi hz0 hz1 hz2 rfl (by decide) (.slice (some ⟨wr.heap.size, 0, none⟩) 0 0) 0 [] rfl hE.2.1 B Ar x.wants.length cr (x.wants.map (Value.int .i64)) rfl hrA po m1 m2 m3 ?_)
        intro v X ho hb
        have ho' : X.ownsRow wr.heap.size 3 1 v x.wants.length (x.wants.map (Value.int .i64)) := by simpa using ho
        obtain ⟨A, c, rfl⟩ := own_slice ho'
        have hbX := HbA.out.trans (hb.mono (by first | exact Nat.le_refl _ | omega))
        have HC1 := Lib.hid (HN.out X A c hbX (own_low ho' hs))
        obtain ⟨f3, k3⟩ := HF.out X hbX
        have lX := hbX.size
        have lgX : g < X.heap.size := by omega
        clear ho ho' hb hbX hE hrA q3
        go_wp2_with fail
        go_roundw
        case rel => exact ⟨k + 1, _, by omega, by go_num, HC1.out⟩
        case measure => simp [intOf]; omega
      · have hge : ¬ (k : Int) < (l.length : Int) := by omega
        obtain rfl : k = l.length := by omega
        have HD := Lib.hid (hC.done (c := cap) (by unfold maxLen; omega) (fun i hi => by have := hw i hi; unfold maxLen; omega))
        clear hC
        go_wp2_with fail
        go_ret
        exact HD.out
end Go.Proofs.Ytijbhcdnbaaobaa
