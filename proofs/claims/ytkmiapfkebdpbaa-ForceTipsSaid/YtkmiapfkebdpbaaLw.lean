/- Contract of the specification's Copy. Conditions: a rig that reads as data, not a large one. -/
import Derived.Test.YtkmiapfkebdpbaaLt
import Derived.Test.YtkmiapfkebdpbaaRh
namespace Go.Proofs.Ytkmiapfkebdpbaa
open Go.RowKit

def slCells (rs : List (Option Addr × Nat)) (ss : List (List Pt)) : Nat → List Value
  | 0 => []
  | k + 1 => slCells rs ss k ++ [.slice (refAt rs k).1 (pathAt ss k).length (refAt rs k).2]
/-- Two rows of blocks of different types lie apart. -/
theorem own_ne {w : World} {b1 b2 s1 s2 n1 n2 : Nat} {e1 e2 : TypeId} {v1 v2 : Value} {xs1 xs2 : List Value} (h1 : w.ownsRow b1 e1 s1 v1 n1 xs1) (h2 : w.ownsRow b2 e2 s2 v2 n2 xs2) (he : e1 ≠ e2) : v1.ownBlock = none ∨ v1.ownBlock ≠ v2.ownBlock := by
  rcases h1.2 with ⟨rfl, _⟩ | ⟨g, cap, cur, rfl, hb, hg, _⟩
  · exact .inl rfl
  · rcases h2.2 with ⟨rfl, _⟩ | ⟨g', cap', cur', rfl, hb', hg', _⟩
    · exact .inr (by simp [Value.ownBlock])
    · refine .inr fun e => ?_
      simp only [Value.ownBlock, Option.some.injEq] at e
      subst e
      rw [hg] at hg'
      injection hg' with h
      injection h with _ h
      exact he h
/-- A slice of paths that a call has made: the first k paths, each in memory of its own. -/
structure SeatsOwn (w : World) (g0 : Nat) (u : Value) (k : Nat) (rs : List (Option Addr × Nat)) (ss : List (List Pt)) : Prop where
  len : rs.length = k
  own : w.ownsRow g0 22 1 u k (slCells rs ss k)
  inn : ∀ i, i < k → w.ownsRow g0 28 3 (.slice (refAt rs i).1 (pathAt ss i).length (refAt rs i).2) (pathAt ss i).length (ptCells (pathAt ss i))
theorem refAt_left {rs : List (Option Addr × Nat)} {x : Option Addr × Nat} {i : Nat} (h : i < rs.length) : refAt (rs ++ [x]) i = refAt rs i := by
  unfold refAt
  rw [List.getElem?_append_left h]
theorem refAt_last {rs : List (Option Addr × Nat)} {x : Option Addr × Nat} {k : Nat} (h : rs.length = k) : refAt (rs ++ [x]) k = x := by
  unfold refAt
  subst h
  simp
theorem slCells_more {rs : List (Option Addr × Nat)} {x : Option Addr × Nat} {ss : List (List Pt)} : ∀ k, k ≤ rs.length → slCells (rs ++ [x]) ss k = slCells rs ss k := by
  intro k
  induction k with
  | zero => intro _; rfl
  | succ k ih =>
    intro h
    simp only [slCells]
    rw [ih (by omega), refAt_left (by omega)]
theorem SeatsOwn.below {w w' : World} {g0 k : Nat} {u : Value} {rs : List (Option Addr × Nat)} {ss : List (List Pt)} (h : SeatsOwn w g0 u k rs ss) (hb : Below w.heap.size w w') : SeatsOwn w' g0 u k rs ss :=
  ⟨h.len, own_heap h.own fun g _ hg => hb.block g hg, fun i hi => own_heap (h.inn i hi) fun g _ hg => hb.block g hg⟩
theorem SeatsOwn.push {Y X : World} {g0 k c : Nat} {u u' : Value} {rs : List (Option Addr × Nat)} {ss : List (List Pt)} {A : Option Addr} (h : SeatsOwn Y g0 u k rs ss)
    (hi : Y.ownsRow g0 28 3 (.slice A (pathAt ss k).length c) (pathAt ss k).length (ptCells (pathAt ss k))) (hg : Y.grownBy X u.ownBlock)
    (ho : X.ownsRow g0 22 1 u' (k + 1) (slCells rs ss k ++ [.slice A (pathAt ss k).length c])) : SeatsOwn X g0 u' (k + 1) (rs ++ [(A, c)]) ss := by
  refine ⟨by rw [List.length_append, h.len]; rfl, ?_, fun i hik => ?_⟩
  · simp only [slCells]
    rw [slCells_more k (by rw [h.len]; exact Nat.le_refl _), refAt_last h.len]
    exact ho
  · rcases Nat.lt_or_ge i k with h1 | h1
    · rw [refAt_left (by rw [h.len]; exact h1)]
      exact World.ownsRow.kept (h.inn i h1) hg (own_ne (h.inn i h1) h.own (by decide))
    · obtain rfl : i = k := by omega
      rw [refAt_last h.len]
      exact World.ownsRow.kept hi hg (own_ne hi h.own (by decide))
theorem Try.info_path : (Try.prog.info? 22).map (fun i => (i.zero, i.size, i.bytes)) = some (some (.slice none 0 0), 1, 24) := by kernel_rfl
theorem pts_one (t : List Pt) : ∀ u ∈ ptCells t, u.oneCell' = true := by
  intro u hu
  simp only [ptCells, List.mem_flatMap] at hu
  obtain ⟨p, _, hu⟩ := hu
  simp at hu
  rcases hu with rfl | rfl | rfl <;> rfl

def CopyPost (w : World) (r : RigZ) (e : Ending) (w' : World) : Prop := Below w.heap.size w w' ∧ ∃ R, e = .returned (rigV r R) ∧ RigIn w' w'.heap.size r R
def oCells (r : RigZ) (u f : Value) : List Value := [u, f, .int .i64 r.frame, .int .i64 r.center.x, .int .i64 r.center.y, .int .i64 r.center.z, .int .i64 r.empty, .int .i64 r.full]
def zCells : List Value := [.slice none 0 0, .slice none 0 0, .int .i64 0, .int .i64 0, .int .i64 0, .int .i64 0, .int .i64 0, .int .i64 0]
/-- What holds behind each round: the copied feet, the first k of the copied seats. -/
structure CMid (w wr : World) (r : RigZ) (R : RigR) (k : Nat) (u : Value) (rs : List (Option Addr × Nat)) (A' : Option Addr) (c' : Nat) : Prop where
  bel : Below w.heap.size w wr
  r0 : Row wr w.heap.size 57 (rigCells r R)
  r1 : Row wr (w.heap.size + 1) 57 zCells
  r2 : Row wr (w.heap.size + 1 + 1) 57 (oCells r u (.slice A' r.feet.length c'))
  feet : wr.ownsRow (w.heap.size + 1 + 1 + 1) 28 3 (.slice A' r.feet.length c') r.feet.length (ptCells r.feet)
  seats : SeatsOwn wr (w.heap.size + 1 + 1 + 1) u k rs r.seats
theorem CMid.zz {w wr : World} {r : RigZ} {R : RigR} {k c' : Nat} {u : Value} {rs : List (Option Addr × Nat)} {A' : Option Addr} (h : CMid w wr r R k u rs A' c') : w.heap.size + 1 + 1 + 1 ≤ wr.heap.size := h.r2.lt
theorem CMid.below {w wr Z : World} {r : RigZ} {R : RigR} {k c' : Nat} {u : Value} {rs : List (Option Addr × Nat)} {A' : Option Addr} (h : CMid w wr r R k u rs A' c') (hb : Below wr.heap.size wr Z) : CMid w Z r R k u rs A' c' :=
  ⟨h.bel.trans (hb.mono h.bel.size), h.r0.below hb h.r0.lt, h.r1.below hb h.r1.lt, h.r2.below hb h.r2.lt, own_heap h.feet fun g _ hg => hb.block g hg, h.seats.below hb⟩
/-- Behind the second append, and behind the store. -/
theorem CMid.next {w Z X : World} {r : RigZ} {R : RigR} {k c c' : Nat} {u v : Value} {rs : List (Option Addr × Nat)} {A A' : Option Addr} (h : CMid w Z r R k u rs A' c')
    (hi : Z.ownsRow (w.heap.size + 1 + 1 + 1) 28 3 (.slice A (pathAt r.seats k).length c) (pathAt r.seats k).length (ptCells (pathAt r.seats k))) (hg : Z.grownBy X u.ownBlock)
    (ho : X.ownsRow (w.heap.size + 1 + 1 + 1) 22 1 v (k + 1) (slCells rs r.seats k ++ [.slice A (pathAt r.seats k).length c])) :
    Below w.heap.size Z X ∧ Row X w.heap.size 57 (rigCells r R) ∧ Row X (w.heap.size + 1 + 1) 57 (oCells r u (.slice A' r.feet.length c')) ∧ CMid w (X.setCell ⟨w.heap.size + 1 + 1, 0, none⟩ v) r R (k + 1) v (rs ++ [(A, c)]) A' c' := by
  have hne : ∀ g, g < w.heap.size + 1 + 1 + 1 → some g ≠ u.ownBlock := fun g hl e => by
    have := (h.seats.own.lt g e.symm).1
    omega
  have e0 : X.heap[w.heap.size]? = Z.heap[w.heap.size]? := hg.block _ h.r0.lt (hne _ (by omega))
  have e1 : X.heap[w.heap.size + 1]? = Z.heap[w.heap.size + 1]? := hg.block _ h.r1.lt (hne _ (by omega))
  have e2 : X.heap[w.heap.size + 1 + 1]? = Z.heap[w.heap.size + 1 + 1]? := hg.block _ h.r2.lt (hne _ (by omega))
  have r2 : Row X (w.heap.size + 1 + 1) 57 (oCells r u (.slice A' r.feet.length c')) := h.r2.keep e2
  have ne : ∀ g, g ≠ w.heap.size + 1 + 1 → (X.setCell ⟨w.heap.size + 1 + 1, 0, none⟩ v).heap[g]? = X.heap[g]? := fun g hn => Below.heap_setCell _ ⟨w.heap.size + 1 + 1, 0, none⟩ _ _ hn
  have bX : Below w.heap.size w X := h.bel.grown hg h.bel.size fun k e => by
    have := (h.seats.own.lt k e).1
    omega
  have sp := h.seats.push hi hg ho
  refine ⟨(Below.refl _ Z).grown hg h.bel.size fun k e => by
    have := (h.seats.own.lt k e).1
    omega, h.r0.keep e0, r2, bX.setCell (p := ⟨w.heap.size + 1 + 1, 0, none⟩) (by show _ ≤ w.heap.size + 1 + 1; omega) _, (h.r0.keep e0).keep (ne _ (by omega)), (h.r1.keep e1).keep (ne _ (by omega)), r2.set 0 _, ?_, ?_⟩
  · exact own_heap (World.ownsRow.kept h.feet hg (own_ne h.feet h.seats.own (by decide))) fun g h1 _ => ne g (by omega)
  · exact ⟨sp.len, own_heap sp.own fun g h1 _ => ne g (by omega), fun i hik => own_heap (sp.inn i hik) fun g h1 _ => ne g (by omega)⟩

theorem slCells_at (rs : List (Option Addr × Nat)) (ss : List (List Pt)) : ∀ k i, i < k → (slCells rs ss k)[i]? = some (.slice (refAt rs i).1 (pathAt ss i).length (refAt rs i).2) := by
  have hl : ∀ k, (slCells rs ss k).length = k := by
    intro k
    induction k with
    | zero => rfl
    | succ k ih => simp [slCells, ih]
  intro k
  induction k with
  | zero => intro i hi; omega
  | succ k ih =>
    intro i hi
    simp only [slCells]
    rcases Nat.lt_or_ge i k with h | h
    · rw [List.getElem?_append_left (by rw [hl]; exact h)]
      exact ih i h
    · obtain rfl : i = k := by omega
      rw [List.getElem?_append_right (by rw [hl]; exact Nat.le_refl _), hl]
      simp
theorem seats_in {X : World} {g0 cu : Nat} {Au : Option Addr} {rs : List (Option Addr × Nat)} {ss : List (List Pt)} (h : SeatsOwn X g0 (.slice Au ss.length cu) ss.length rs ss) (hn : ss.length ≤ maxLen) (hl : ∀ i, i < ss.length → (pathAt ss i).length ≤ maxLen) : SeatsIn X X.heap.size Au rs ss := by
  refine ⟨hn, fun h0 => ?_, fun i hi => ?_, hl⟩
  · obtain ⟨A, c, e, hr⟩ := own_reads h.own
    injection e with e1 e2 e3
    subst e1
    obtain ⟨b, o, hA, hb, hc⟩ := hr.2 h0
    exact ⟨b, o, hA, hb, fun i hi => hc i _ (slCells_at rs ss ss.length i hi)⟩
  · obtain ⟨A, c, e, hr⟩ := own_reads (h.inn i hi)
    injection e with e1 e2 e3
    rw [e1]
    exact hr
theorem row_set8 {w : World} {g : Nat} {t : TypeId} {c0 c1 c2 c3 c4 c5 c6 c7 : Value} (h : Row w g t [c0, c1, c2, c3, c4, c5, c6, c7]) (v0 v1 v2 v3 v4 v5 v6 v7 : Value) : Row ((((((((w.setCell ⟨g, 0, none⟩ v0).setCell ⟨g, 1, none⟩ v1).setCell ⟨g, 2, none⟩ v2).setCell ⟨g, 3, none⟩ v3).setCell ⟨g, 4, none⟩ v4).setCell ⟨g, 5, none⟩ v5).setCell ⟨g, 6, none⟩ v6).setCell ⟨g, 7, none⟩ v7) g t [v0, v1, v2, v3, v4, v5, v6, v7] := (((((((h.set 0 v0).set 1 v1).set 2 v2).set 3 v3).set 4 v4).set 5 v5).set 6 v6).set 7 v7
theorem below_set8 {w a : World} {g n : Nat} (h : Below n a w) (hg : n ≤ g) (v0 v1 v2 v3 v4 v5 v6 v7 : Value) : Below n a ((((((((w.setCell ⟨g, 0, none⟩ v0).setCell ⟨g, 1, none⟩ v1).setCell ⟨g, 2, none⟩ v2).setCell ⟨g, 3, none⟩ v3).setCell ⟨g, 4, none⟩ v4).setCell ⟨g, 5, none⟩ v5).setCell ⟨g, 6, none⟩ v6).setCell ⟨g, 7, none⟩ v7) := (((((((h.setCell (p := ⟨g, 0, none⟩) hg v0).setCell (p := ⟨g, 1, none⟩) hg v1).setCell (p := ⟨g, 2, none⟩) hg v2).setCell (p := ⟨g, 3, none⟩) hg v3).setCell (p := ⟨g, 4, none⟩) hg v4).setCell (p := ⟨g, 5, none⟩) hg v5).setCell (p := ⟨g, 6, none⟩) hg v6).setCell (p := ⟨g, 7, none⟩) hg v7
theorem heap_set8 {w : World} {g k : Nat} (hk : k ≠ g) (v0 v1 v2 v3 v4 v5 v6 v7 : Value) : ((((((((w.setCell ⟨g, 0, none⟩ v0).setCell ⟨g, 1, none⟩ v1).setCell ⟨g, 2, none⟩ v2).setCell ⟨g, 3, none⟩ v3).setCell ⟨g, 4, none⟩ v4).setCell ⟨g, 5, none⟩ v5).setCell ⟨g, 6, none⟩ v6).setCell ⟨g, 7, none⟩ v7).heap[k]? = w.heap[k]? := by
  simp only [Below.heap_setCell _ _ _ _ (show k ≠ (⟨g, 0, none⟩ : Addr).block from hk), Below.heap_setCell _ _ _ _ (show k ≠ (⟨g, 1, none⟩ : Addr).block from hk), Below.heap_setCell _ _ _ _ (show k ≠ (⟨g, 2, none⟩ : Addr).block from hk), Below.heap_setCell _ _ _ _ (show k ≠ (⟨g, 3, none⟩ : Addr).block from hk), Below.heap_setCell _ _ _ _ (show k ≠ (⟨g, 4, none⟩ : Addr).block from hk), Below.heap_setCell _ _ _ _ (show k ≠ (⟨g, 5, none⟩ : Addr).block from hk), Below.heap_setCell _ _ _ _ (show k ≠ (⟨g, 6, none⟩ : Addr).block from hk), Below.heap_setCell _ _ _ _ (show k ≠ (⟨g, 7, none⟩ : Addr).block from hk)]
/-- Behind the last store: the result. -/
theorem copy_end {w wr : World} {r : RigZ} {R : RigR} {cu c' : Nat} {Au A' : Option Addr} {rs : List (Option Addr × Nat)} (h : CMid w wr r R r.seats.length (.slice Au r.seats.length cu) rs A' c') (hn : r.seats.length ≤ maxLen) (hf : r.feet.length ≤ maxLen) (hl : ∀ i, i < r.seats.length → (pathAt r.seats i).length ≤ maxLen) (e : Ending) (he : e = .returned (rigV r ⟨Au, cu, rs, A', c'⟩))
    (Z : World) (hZ : ∀ k, k ≠ w.heap.size + 1 → Z.heap[k]? = wr.heap[k]?) (hb : Below w.heap.size w Z) : CopyPost w r e Z := by
  have hS : SeatsOwn Z (w.heap.size + 1 + 1 + 1) (.slice Au r.seats.length cu) r.seats.length rs r.seats := ⟨h.seats.len, own_heap h.seats.own fun g hg _ => hZ g (by omega), fun i hi => own_heap (h.seats.inn i hi) fun g hg _ => hZ g (by omega)⟩
  have hF := own_heap (w' := Z) h.feet fun g hg _ => hZ g (by omega)
  obtain ⟨A, c, e2, hr⟩ := own_reads hF
  injection e2 with e3 e4 e5
  subst e3
  exact ⟨hb, _, he, seats_in hS hn hl, hr, hf⟩
set_option maxRecDepth 100000 in
set_option maxHeartbeats 2000000 in
theorem Copy_any (r : RigZ) (R : RigR) (B : Nat) (w : World) (hB : B ≤ w.heap.size) (hR : RigIn w B r R) (h25 : r.seats.length ≤ 25) (h12 : r.feet.length ≤ 12) (h70 : ∀ i, i < r.seats.length → (pathAt r.seats i).length ≤ 70) :
    Calls Try.prog 33 #[rigV r R] w (CopyPost w r) := by
  obtain ⟨i0, hi, hz0, hz1, hz2⟩ := info_parts Try.info_pt
  obtain ⟨j0, hj, hy0, hy1, hy2⟩ := info_parts Try.info_path
  have m1 : 0 + r.feet.length ≤ maxLen := by unfold maxLen; omega
  have m2 : (0 + r.feet.length) * 24 ≤ 140737488355328 := by omega
  have hones := pts_one r.feet
  obtain ⟨Y, hY⟩ : ∃ Y, Y = ((w.alloc (.cells (rigCells r R).toArray 57)).alloc (.cells zCells.toArray 57)).alloc (.cells (rigCells r R).toArray 57) := ⟨_, rfl⟩
  have sY : Y.heap.size = w.heap.size + 1 + 1 + 1 := by subst hY; simp
  have bY : Below w.heap.size w Y := by subst hY; exact (((Below.refl _ _).alloc (Nat.le_refl _) _).alloc (by simp) _).alloc (by simp; omega) _
  have r0 : Row Y w.heap.size 57 (rigCells r R) := by subst hY; exact ((Row.new w _ (rigCells r R).toArray).alloc _).alloc _
  have r1 : Row Y (w.heap.size + 1) 57 zCells := by
    subst hY
    have h := Row.new (w.alloc (.cells (rigCells r R).toArray 57)) 57 zCells.toArray
    rw [World.size_alloc] at h
    exact h.alloc _
  have r2 : Row Y (w.heap.size + 1 + 1) 57 (oCells r (.slice R.A1 r.seats.length R.c1) (.slice R.A2 r.feet.length R.c2)) := by
    subst hY
    have h := Row.new ((w.alloc (.cells (rigCells r R).toArray 57)).alloc (.cells zCells.toArray 57)) 57 (rigCells r R).toArray
    rw [World.size_alloc, World.size_alloc] at h
    exact h
  have hown : (Y.alloc (.cells #[] 28)).ownsRow (w.heap.size + 1 + 1 + 1) 28 3 (.slice (some ⟨w.heap.size + 1 + 1 + 1, 0, none⟩) 0 0) 0 [] := by rw [← sY]; exact World.ownsRow_made Y #[] 0 (Nat.le_refl _) (Nat.zero_le _) (by simp)
  have hrX : Reads (Y.alloc (.cells #[] 28)) B 3 R.A2 r.feet.length (ptCells r.feet) := (hR.f.below (bY.mono hB)).alloc (Nat.le_trans hB bY.size) _
  have hbz : w.heap.size + 1 + 1 + 1 ≤ (Y.alloc (.cells #[] 28)).heap.size := by rw [World.size_alloc, sY]; omega
  have HX : Hid (∀ v' w', Below (w.heap.size + 1 + 1 + 1) (Y.alloc (.cells #[] 28)) w' → Below w.heap.size w w' ∧ Row w' w.heap.size 57 (rigCells r R) ∧ Row w' (w.heap.size + 1) 57 zCells ∧ Row w' (w.heap.size + 1 + 1) 57 (oCells r (.slice R.A1 r.seats.length R.c1) (.slice R.A2 r.feet.length R.c2)) ∧ v' = (v' : Value)) := fun v' w' hb =>
    ⟨(bY.alloc bY.size _).trans (hb.mono (by omega)), (r0.alloc _).below hb (by omega), (r1.alloc _).below hb (by omega), (r2.alloc _).below hb (by omega), rfl⟩
  unfold rigV
  unfold rigCells zCells at hY
  rw [hY] at hown hrX hbz HX
  clear r0 r1 r2 bY sY hY
  go_enter Try.func33, Try.ntmps33
  go_wp2_with (at_builtin; refine wpList_app _ rfl _ _ 22 rfl (w.heap.size + 1 + 1 + 1) 28 i0 (.agg #[.int .i64 0, .int .i64 0, .int .i64 0]) 3 24 Try.underlying22 hi hz0 hz1 hz2 rfl (by decide) (.slice (some ⟨w.heap.size + 1 + 1 + 1, 0, none⟩) 0 0) 0 [] rfl hown B R.A2 r.feet.length R.c2 (ptCells r.feet) rfl hrX hones m1 m2 hbz ?_)
  intro v' w1 hown' hbel'
  obtain ⟨b1, r0, r1, r2, _⟩ := HX.out v' w1 hbel'
  clear HX hrX hbz hown hbel'
  obtain ⟨A', c', rfl, _⟩ := own_reads hown'
  unfold oCells at r2
  unfold rigCells at r0
  obtain ⟨f2, q0, q1, q2, q3, q4, q5, q6, q7⟩ := Row.at_8 r2
  have z2 := r2.lt
  go_wp2_with fail
  go_loopw [4] (fun i wr => ∃ (k : Nat) (u : Value) (rs : List (Option Addr × Nat)), k ≤ r.seats.length ∧ i = .int .i64 k ∧ CMid w wr r R k u rs A' c') (fun i _ => r.seats.length - (intOf i).toNat)
  case atStart =>
    refine ⟨0, .slice none 0 0, [], Nat.zero_le _, rfl, ⟨(b1.setCell (p := ⟨w.heap.size + 1 + 1, 1, none⟩) (by show _ ≤ w.heap.size + 1 + 1; omega) _).setCell (p := ⟨w.heap.size + 1 + 1, 0, none⟩) (by show _ ≤ w.heap.size + 1 + 1; omega) _, ?_, ?_, (r2.set 1 _).set 0 _, ?_, ⟨rfl, World.ownsRow_nil _ _ _ _, fun i hi => absurd hi (by omega)⟩⟩⟩
    · unfold rigCells
      exact r0.keep (by rw [Below.heap_setCell _ ⟨w.heap.size + 1 + 1, 0, none⟩ _ _ (show w.heap.size ≠ w.heap.size + 1 + 1 by omega), Below.heap_setCell _ ⟨w.heap.size + 1 + 1, 1, none⟩ _ _ (show w.heap.size ≠ w.heap.size + 1 + 1 by omega)])
    · exact r1.keep (by rw [Below.heap_setCell _ ⟨w.heap.size + 1 + 1, 0, none⟩ _ _ (show w.heap.size + 1 ≠ w.heap.size + 1 + 1 by omega), Below.heap_setCell _ ⟨w.heap.size + 1 + 1, 1, none⟩ _ _ (show w.heap.size + 1 ≠ w.heap.size + 1 + 1 by omega)])
    · exact own_heap hown' fun g hg _ => by rw [Below.heap_setCell _ ⟨w.heap.size + 1 + 1, 0, none⟩ _ _ (show g ≠ w.heap.size + 1 + 1 by omega), Below.heap_setCell _ ⟨w.heap.size + 1 + 1, 1, none⟩ _ _ (show g ≠ w.heap.size + 1 + 1 by omega)]
  case round =>
    clear b1 r0 r1 r2 f2 q0 q1 q2 q3 q4 q5 q6 q7 z2 hown'
    obtain ⟨k, u, rs, hk, rfl, hM⟩ := hrel
    have HM := Lib.hid hM
    have hs := hM.bel.size
    have x0 := hM.r0
    have p0 := hM.r2
    have z0 := x0.lt
    have z2 := p0.lt
    unfold rigCells at x0
    unfold oCells at p0
    obtain ⟨_, x0, x1, x2, x3, x4, x5, x6, x7⟩ := Row.at_8 x0
    obtain ⟨f2, p0, p1, p2, p3, p4, p5, p6, p7⟩ := Row.at_8 p0
    by_cases hlt : k < r.seats.length
    · obtain ⟨b, o, hA, hb, hc⟩ := (hR.below (hM.bel.mono hB)).s.outer (by omega)
      have hrk := (hR.below (hM.bel.mono hB)).s.inner k hlt
      have ck := hc k hlt
      have h7 := h70 k hlt
      rw [hA] at x0
      clear hA hc hM
      have HP : Hid (∀ (Z X : World) (v : Value) (A : Option Addr) (c : Nat), CMid w Z r R k u rs A' c' → Z.ownsRow (w.heap.size + 1 + 1 + 1) 28 3 (.slice A (pathAt r.seats k).length c) (pathAt r.seats k).length (ptCells (pathAt r.seats k)) → Z.grownBy X u.ownBlock → X.ownsRow (w.heap.size + 1 + 1 + 1) 22 1 v (k + 1) (slCells rs r.seats k ++ [.slice A (pathAt r.seats k).length c]) →
          Below w.heap.size Z X ∧ Row X w.heap.size 57 (rigCells r R) ∧ Row X (w.heap.size + 1 + 1) 57 (oCells r u (.slice A' r.feet.length c')) ∧ CMid w (X.setCell ⟨w.heap.size + 1 + 1, 0, none⟩ v) r R (k + 1) v (rs ++ [(A, c)]) A' c') := fun _ _ _ _ _ h hi hg ho => h.next hi hg ho
      obtain ⟨p, hp⟩ : ∃ p, p = pathAt r.seats k := ⟨_, rfl⟩
      rw [← hp] at hrk ck h7 HP
      clear hp
      have mm1 : 0 + p.length ≤ maxLen := by unfold maxLen; omega
      have mm2 : (0 + p.length) * 24 ≤ 140737488355328 := by omega
      have mm3 : k + 1 ≤ maxLen := by unfold maxLen; omega
      have mm4 : (k + 1) * 24 ≤ 140737488355328 := by omega
      have HL : Hid (∀ X, Below wr.heap.size wr X → Reads X B 3 (refAt R.rs k).1 p.length (ptCells p)) := fun X hX => hrk.below (hX.mono (by omega))
      have hkl : (k : Int) < (r.seats.length : Int) := by omega
      have e3 : IntKind.i64.wrap ((k : Int) + 1) = (k : Int) + 1 := IntWalk.i64_in _ (by omega)
      have zb : b < wr.heap.size := by omega
      have hG : (w.heap.size + 1 + 1 + 1) ≤ wr.heap.size := HM.out.zz
      have po := pts_one p
      go_upto_region 7 with (fail)
      refine wp_region_add (m := 10) (w0 := wr) (ord := [0, 1, 2, 3, 4, 5, 6, 7, 8, 9, 10, 11, 12]) (ds := [(0, 19), (1, 20), (2, 21), (3, 22), (4, 23), (5, 24), (6, 25), (7, 26), (8, 27), (9, 28)]) (l := [isV ?va0, isV ?va1, isEmpty (w.heap.size + 1 + 1 + 1) 28 3, isV ?va3, isV ?va4, isV ?va5, isV ?va6, isV ?va7, isOwn (w.heap.size + 1 + 1 + 1) 28 3 p.length (ptCells p), (fun u y => ∃ (g : Nat) (v8 : Value), u = .slice (some ⟨g, 0, none⟩) 1 1 ∧ Row y g 22 [v8] ∧ isOwn (w.heap.size + 1 + 1 + 1) 28 3 p.length (ptCells p) v8 y)]) (by kernel_rfl) (by kernel_rfl) (by first | rfl | kernel_rfl) (AddSteps.cons (k := 0) (k' := 1) rfl ?sa0 (AddSteps.cons (k := 1) (k' := 2) rfl ?sa1 (AddSteps.cons (k := 2) (k' := 3) rfl ?sa2 (AddSteps.cons (k := 3) (k' := 4) rfl ?sa3 (AddSteps.cons (k := 4) (k' := 5) rfl ?sa4 (AddSteps.cons (k := 5) (k' := 6) rfl ?sa5 (AddSteps.cons (k := 6) (k' := 7) rfl ?sa6 (AddSteps.cons (k := 7) (k' := 8) rfl ?sa7 (AddSteps.cons (k := 8) (k' := 9) rfl ?sa8 (AddSteps.cons (k := 9) (k' := 10) rfl ?sa9 AddSteps.nil)))))))))) ?sta ?fina
      case sa0 =>
        refine AddStep.go (o := ⟨some 19, _, _, _, _, _⟩) rfl rfl (fun xs y hy hV K hK => ?_)
        clear hV
        simp only [putsF, List.foldl_cons, List.foldl_nil, Act.put, List.setIfInBounds_toArray, List.set_cons_zero, List.set_cons_succ] at hK ⊢
        go_wp2_with fail
        exact hK.out _ _ (Below.refl _ _) (by exact rfl)
      case sa1 =>
        refine AddStep.go (o := ⟨some 20, _, _, _, _, _⟩) rfl rfl (fun xs y hy hV K hK => ?_)
        have e0 : xs 0 = _ := hV 0 (by kernel_rfl)
        clear hV
        simp only [putsF, List.foldl_cons, List.foldl_nil, Act.put, List.setIfInBounds_toArray, List.set_cons_zero, List.set_cons_succ] at hK ⊢
        simp only [e0] at hK ⊢
        clear e0
        have x0 := (hy.cell (p := ⟨w.heap.size, 0, none⟩) z0).trans x0
        have ck := (hy.cell (p := ⟨b, o + k, none⟩) zb).trans ck
        have p0 := (hy.cell (p := ⟨w.heap.size + 1 + 1, 0, none⟩) z2).trans p0
        go_wp2_with fail
        exact hK.out _ _ (Below.refl _ _) (by exact rfl)
      case sa2 =>
        refine AddStep.go (o := ⟨some 21, _, _, _, _, _⟩) rfl rfl (fun xs y hy hV K hK => ?_)
        clear hV
        simp only [putsF, List.foldl_cons, List.foldl_nil, Act.put, List.setIfInBounds_toArray, List.set_cons_zero, List.set_cons_succ] at hK ⊢
        go_wp2_with fail
        exact hK.out _ _ ((Below.refl _ _).alloc (Nat.le_refl _) _) (new_empty (Nat.le_trans hG hy.size))
      case sa3 =>
        refine AddStep.go (o := ⟨some 22, _, _, _, _, _⟩) rfl rfl (fun xs y hy hV K hK => ?_)
        clear hV
        simp only [putsF, List.foldl_cons, List.foldl_nil, Act.put, List.setIfInBounds_toArray, List.set_cons_zero, List.set_cons_succ] at hK ⊢
        go_wp2_with fail
        exact hK.out _ _ (Below.refl _ _) (by exact rfl)
      case sa4 =>
        refine AddStep.go (o := ⟨some 23, _, _, _, _, _⟩) rfl rfl (fun xs y hy hV K hK => ?_)
        have e3 : xs 3 = _ := hV 3 (by kernel_rfl)
        clear hV
        simp only [putsF, List.foldl_cons, List.foldl_nil, Act.put, List.setIfInBounds_toArray, List.set_cons_zero, List.set_cons_succ] at hK ⊢
        simp only [e3] at hK ⊢
        clear e3
        have x0 := (hy.cell (p := ⟨w.heap.size, 0, none⟩) z0).trans x0
        have ck := (hy.cell (p := ⟨b, o + k, none⟩) zb).trans ck
        have p0 := (hy.cell (p := ⟨w.heap.size + 1 + 1, 0, none⟩) z2).trans p0
        go_wp2_with fail
        exact hK.out _ _ (Below.refl _ _) (by exact rfl)
      case sa5 =>
        refine AddStep.go (o := ⟨some 24, _, _, _, _, _⟩) rfl rfl (fun xs y hy hV K hK => ?_)
        clear hV
        simp only [putsF, List.foldl_cons, List.foldl_nil, Act.put, List.setIfInBounds_toArray, List.set_cons_zero, List.set_cons_succ] at hK ⊢
        go_wp2_with fail
        exact hK.out _ _ (Below.refl _ _) (by exact rfl)
      case sa6 =>
        refine AddStep.go (o := ⟨some 25, _, _, _, _, _⟩) rfl rfl (fun xs y hy hV K hK => ?_)
        have e4 : xs 4 = _ := hV 4 (by kernel_rfl)
        have e5 : xs 5 = _ := hV 5 (by kernel_rfl)
        clear hV
        simp only [putsF, List.foldl_cons, List.foldl_nil, Act.put, List.setIfInBounds_toArray, List.set_cons_zero, List.set_cons_succ] at hK ⊢
        simp only [e4, e5] at hK ⊢
        clear e4 e5
        go_wp2_with fail
        exact hK.out _ _ (Below.refl _ _) (by exact rfl)
      case sa7 =>
        refine AddStep.go (o := ⟨some 26, _, _, _, _, _⟩) rfl rfl (fun xs y hy hV K hK => ?_)
        have e6 : xs 6 = _ := hV 6 (by kernel_rfl)
        clear hV
        simp only [putsF, List.foldl_cons, List.foldl_nil, Act.put, List.setIfInBounds_toArray, List.set_cons_zero, List.set_cons_succ] at hK ⊢
        simp only [e6] at hK ⊢
        clear e6
        have x0 := (hy.cell (p := ⟨w.heap.size, 0, none⟩) z0).trans x0
        have ck := (hy.cell (p := ⟨b, o + k, none⟩) zb).trans ck
        have p0 := (hy.cell (p := ⟨w.heap.size + 1 + 1, 0, none⟩) z2).trans p0
        go_wp2_with fail
        exact hK.out _ _ (Below.refl _ _) (by exact rfl)
      case sa8 =>
        refine AddStep.go (o := ⟨some 27, _, _, _, _, _⟩) rfl rfl (fun xs y hy hV K hK => ?_)
        have h2 := (hV 2 (by kernel_rfl))
        have e7 : xs 7 = _ := hV 7 (by kernel_rfl)
        clear hV
        simp only [putsF, List.foldl_cons, List.foldl_nil, Act.put, List.setIfInBounds_toArray, List.set_cons_zero, List.set_cons_succ] at hK ⊢
        simp only [e7] at hK ⊢
        clear e7
        refine wp_app0 _ (.tmp 21) (.tmp 26) 22 (by rfl) (w.heap.size + 1 + 1 + 1) 28 i0 _ 3 24 Try.underlying22 hi hz0 hz1 hz2 rfl (by decide) _ (by rfl) h2 B (refAt R.rs k).1 p.length (refAt R.rs k).2 (ptCells p) (by rfl) (HL.out y hy) po (by unfold maxLen; omega) (by omega) ?_
        intro v1 z ho hb
        exact hK.out _ _ hb ⟨ho, Nat.le_trans h2.2.2 hb.size⟩
      case sa9 =>
        refine AddStep.go (o := ⟨some 28, _, _, _, _, _⟩) rfl rfl (fun xs y hy hV K hK => ?_)
        have h8 := (hV 8 (by kernel_rfl))
        obtain ⟨A8, c8, e8, _⟩ := own_reads h8.1
        rw [e8] at h8
        clear hV
        simp only [putsF, List.foldl_cons, List.foldl_nil, Act.put, List.setIfInBounds_toArray, List.set_cons_zero, List.set_cons_succ] at hK ⊢
        simp only [e8] at hK ⊢
        clear e8
        go_wp2_with fail
        exact hK.out _ _ ((Below.refl _ _).alloc (Nat.le_refl _) _) ⟨y.heap.size, _, rfl, Row.new y _ #[_], stable_isOwn _ _ _ _ _ _ _ _ h8 ((Below.refl _ _).alloc (Nat.le_refl _) _)⟩
      case sta => exact (AllSt.cons (stable_isV _) (AllSt.cons (stable_isV _) (AllSt.cons (stable_isEmpty _ _ _) (AllSt.cons (stable_isV _) (AllSt.cons (stable_isV _) (AllSt.cons (stable_isV _) (AllSt.cons (stable_isV _) (AllSt.cons (stable_isV _) (AllSt.cons (stable_isOwn _ _ _ _ _) (AllSt.cons ((fun _ _ _ ⟨g, v8, h1, h2, h3⟩ hb => ⟨g, v8, h1, h2.below hb h2.lt, stable_isOwn _ _ _ _ _ _ _ _ h3 hb⟩)) AllSt.nil))))))))))
      case fina =>
        intro xs y hy hV
        have e0 : xs 0 = _ := hV 0 (by decide)
        have e1 : xs 1 = _ := hV 1 (by decide)
        have h2 := (hV 2 (by decide))
        have e3 : xs 3 = _ := hV 3 (by decide)
        have e4 : xs 4 = _ := hV 4 (by decide)
        have e5 : xs 5 = _ := hV 5 (by decide)
        have e6 : xs 6 = _ := hV 6 (by decide)
        have e7 : xs 7 = _ := hV 7 (by decide)
        have h8 := (hV 8 (by decide))
        obtain ⟨A8, c8, e8, _⟩ := own_reads h8.1
        rw [e8] at h8
        obtain ⟨g9, v8, e9, r9, h89⟩ := (hV 9 (by decide))
        clear hV
        simp only [putsF, List.foldl_cons, List.foldl_nil, Act.put, List.setIfInBounds_toArray, List.set_cons_zero, List.set_cons_succ]
        simp only [e0, e1, e3, e4, e5, e6, e7, e8, e9]
        clear e0 e1 e3 e4 e5 e6 e7 e8 e9
        clear h2 h8
        have hMy := CMid.below HM.out hy
        obtain ⟨A1, c1, rfl, _⟩ := own_reads h89.1
        show wpOps _ _ _ [10, 11, 12] _ _
        refine wpOps_go (o := ⟨some 29, _, _, _, _, _⟩) rfl rfl (fun K hK => ?_)
        refine wp_appG _ (.tmp 20) (.tmp 28) 55 (by rfl) (w.heap.size + 1 + 1 + 1) 22 j0 _ 1 24 Try.underlying55 hj hy0 hy1 hy2 rfl (by decide) u k (slCells rs r.seats k) (by rfl) hMy.seats.own (g9 + 1) (some ⟨g9, 0, none⟩) 1 1 [.slice A1 p.length c1] (by rfl) (r9.reads rfl (Nat.lt_succ_self _)) (by intro u' hu'; simp at hu'; subst hu'; rfl) mm3 mm4 hMy.zz ?_
        intro v2 X own3 hg3
        obtain ⟨A5, c5, rfl, _⟩ := own_reads own3
        obtain ⟨bz, x0r, p0r, hnx⟩ := HP.out y X (.slice A5 (k + 1) c5) A1 c1 hMy h89.1 hg3 own3
        clear x0 x1 x2 x3 x4 x5 x6 x7 f2 p0 p1 p2 p3 p4 p5 p6 p7 ck
        unfold oCells at p0r
        obtain ⟨f2, p0, p1, p2, p3, p4, p5, p6, p7⟩ := Row.at_8 p0r
        simp only [Act.put, List.setIfInBounds_toArray, List.set_cons_zero, List.set_cons_succ]
        refine hK.out _ _ ?_
        refine wpOps_go (o := ⟨some 30, _, _, _, _, _⟩) rfl rfl (fun K hK => ?_)
        go_wp2_with fail
        refine hK.out _ _ ?_
        refine wpOps_go (o := ⟨none, _, _, _, _, _⟩) rfl rfl (fun K hK => ?_)
        go_wp2_with fail
        refine hK.out _ _ (wpOps_nil ?_)
        go_wp2_with fail
        go_roundw
        case rel => exact ⟨k + 1, .slice A5 (k + 1) c5, _, by omega, by go_num, hnx⟩
        case measure => simp [intOf]; omega
    · obtain rfl : k = r.seats.length := by omega
      obtain ⟨Au, cu, rfl, _⟩ := own_reads hM.seats.own
      have HE : Hid (∀ (e : Ending) (Z : World), e = .returned (rigV r ⟨Au, cu, rs, A', c'⟩) → (∀ k, k ≠ w.heap.size + 1 → Z.heap[k]? = wr.heap[k]?) → Below w.heap.size w Z → CopyPost w r e Z) := fun e Z he hZ hb => copy_end hM hR.s.len hR.lf hR.s.lens e he Z hZ hb
      have y1 := hM.r1
      have hbel := hM.bel
      unfold zCells at y1
      obtain ⟨f1, y0, y1, y2, y3, y4, y5, y6, y7⟩ := Row.at_8 y1
      have n1 : ¬ w.heap.size + 1 = w.heap.size + 1 + 1 := by omega
      have n2 : ¬ w.heap.size + 1 + 1 = w.heap.size + 1 := by omega
      clear hM h70 h25 h12
      go_wp2_with fail
      refine bodyPost_ret (v := rigV r ⟨Au, cu, rs, A', c'⟩) (by simp [results, Try.results33, go_sem, rigV, *]) rfl ?_
      exact HE.out _ _ rfl (fun k hk => heap_set8 hk _ _ _ _ _ _ _ _) (below_set8 hbel (by omega) _ _ _ _ _ _ _ _)
end Go.Proofs.Ytkmiapfkebdpbaa
