/- Contract of Tips. Conditions: the rig reads as data. -/
import Derived.Test.YtkmiapfkebdpbaaOd
import Derived.Test.YtkmiapfkebdpbaaKx
import Derived.Test.YtkmiapfkebdpbaaKk
import Derived.Test.YtkmiapfkebdpbaaRi
import Derived.Test.YtkmiapfkebdpbaaOg
import Derived.Sort.CutIn
/- What is known in the round of Tips that ends it: which values came up, and what lies in the results. -/
namespace Go.Proofs.Ytkmiapfkebdpbaa
open Go.RowKit Go.Shelf

/-- The loading of fewest full seats, in a block of its own. -/
def LdIn (r : RigZ) (p k Zs : Nat) (u : Value) (y : World) : Prop := ∃ n G : Nat, FewN (ridersZ r p k) (momZ r (fun _ => false) p k) n ∧ u = .slice (some ⟨G, 0, none⟩) r.seats.length r.seats.length ∧ Zs ≤ G ∧ Row y G 4 ((progSel (ridersZ r p k) (momZ r (fun _ => false) p k) n).map Value.bool)
theorem LdIn.keep {r : RigZ} {p k Zs : Nat} {u : Value} {y z : World} (h : LdIn r p k Zs u y) (hk : ∀ g, Zs ≤ g → g < y.heap.size → z.heap[g]? = y.heap[g]?) : LdIn r p k Zs u z := by
  obtain ⟨n, G, h1, h2, h3, h4⟩ := h
  exact ⟨n, G, h1, h2, h3, h4.keep (hk G h3 h4.lt)⟩
theorem LdIn.mono {r : RigZ} {p k Zs Zs' : Nat} {u : Value} {y : World} (h : LdIn r p k Zs u y) (hz : Zs' ≤ Zs) : LdIn r p k Zs' u y := by
  obtain ⟨n, G, h1, h2, h3, h4⟩ := h
  exact ⟨n, G, h1, h2, Nat.le_trans hz h3, h4⟩
theorem LdIn.away {r : RigZ} {p k Zs : Nat} {u : Value} {y z : World} (h : LdIn r p k Zs u y) (hk : ∀ g : Nat, y.heap[g]? ≠ some (Obj.deferred (some [])) → z.heap[g]? = y.heap[g]?) : LdIn r p k Zs u z := by
  obtain ⟨n, G, h1, h2, h3, h4⟩ := h
  refine ⟨n, G, h1, h2, h3, h4.keep (hk G fun e => ?_)⟩
  obtain ⟨cs, h5, _⟩ := h4
  rw [h5] at e
  cases e
def TV (r : RigZ) (R : RigR) (g S Zs bx p k : Nat) : Nat → Value → World → Prop
  | 0 => fun u _ => u = gRigV r R g (phZ r)
  | 1 => fun u _ => u = .pointer (some ⟨bx, 1, none⟩)
  | 2 => fun u _ => u = .int .i64 (p : Int)
  | 3 => fun u _ => u = .pointer (some ⟨bx, 2, none⟩)
  | 4 => fun u _ => u = .int .i64 (k : Int)
  | 5 => fun u y => LdIn r p k Zs u y
  | 6 => fun u _ => u = .pointer (some ⟨bx, 1, none⟩)
  | 7 => fun u _ => u = .int .i64 (p : Int)
  | 8 => fun u _ => u = .pointer (some ⟨bx, 2, none⟩)
  | 9 => fun u _ => u = .int .i64 (k : Int)
  | 10 => fun _ y => ∃ v, LdIn r p k Zs v y ∧ Row y (S + 1) 64 [v]
  | 11 => fun _ y => Row y (S + 2) 3 [.int .i64 (p : Int)]
  | 12 => fun _ y => Row y (S + 3) 3 [.int .i64 (k : Int)]
  | 13 => fun _ y => Row y (S + 4) 4 [.bool true]
  | 14 => fun _ y => Row y (S + 5) 29 [.int .i64 0]
  | _ => fun _ _ => True
theorem TV.keep {r : RigZ} {R : RigR} {g S Zs bx p k j : Nat} {u : Value} {y z : World} (h : TV r R g S Zs bx p k j u y) (hk : ∀ b, Zs ≤ b → b < y.heap.size → z.heap[b]? = y.heap[b]?) (hr : ∀ c, c ≤ 5 → c ≠ 0 → j = c + 9 → z.heap[S + c]? = y.heap[S + c]?) : TV r R g S Zs bx p k j u z := by
  match j, h, hr with
  | 0, h, _ | 1, h, _ | 2, h, _ | 3, h, _ | 4, h, _ | 6, h, _ | 7, h, _ | 8, h, _ | 9, h, _ => exact h
  | 5, h, _ => exact LdIn.keep h hk
  | 10, ⟨v, h1, h2⟩, hr => exact ⟨v, h1.keep hk, h2.keep (hr 1 (by omega) (by omega) rfl)⟩
  | 11, h, hr => exact Row.keep h (hr 2 (by omega) (by omega) rfl)
  | 12, h, hr => exact Row.keep h (hr 3 (by omega) (by omega) rfl)
  | 13, h, hr => exact Row.keep h (hr 4 (by omega) (by omega) rfl)
  | 14, h, hr => exact Row.keep h (hr 5 (by omega) (by omega) rfl)
  | _ + 15, _, _ => exact trivial
theorem TV.below {r : RigZ} {R : RigR} {g S Zs bx p k j : Nat} {u : Value} {y z : World} (h : TV r R g S Zs bx p k j u y) (hb : Below y.heap.size y z) (hS : S + 5 < y.heap.size) : TV r R g S Zs bx p k j u z :=
  h.keep (fun b _ hb2 => hb.block b hb2) fun c hc _ _ => hb.block _ (by omega)
theorem TV.set {r : RigZ} {R : RigR} {g S Zs bx p k j : Nat} {u : Value} {y : World} (h : TV r R g S Zs bx p k j u y) (hS : S + 5 < Zs) {c : Nat} (hc : c ≤ 5) (hj : j ≠ c + 9) (v : Value) : TV r R g S Zs bx p k j u (y.setCell ⟨S + c, 0, none⟩ v) :=
  h.keep (fun b h1 _ => Below.heap_setCell y ⟨S + c, 0, none⟩ v b (by show b ≠ S + c; omega)) fun d hd _ h2 => Below.heap_setCell y ⟨S + c, 0, none⟩ v _ (by show S + d ≠ S + c; omega)
/-- What stands in every moment of it. -/
structure TI (w Z : World) (r : RigZ) (R : RigR) (g S Zs b7 bx : Nat) (x : Int × Nat × Nat) (y : World) : Prop where
  bel : Below S w y
  zs : Zs ≤ y.heap.size
  rig : Row y b7 101 (gCells r R g (phZ r))
  wst : Row y bx 112 (wCells x)
  r1 : ∃ v, Row y (S + 1) 64 [v]
  r2 : ∃ v, Row y (S + 2) 3 [v]
  r3 : ∃ v, Row y (S + 3) 3 [v]
  r4 : ∃ v, Row y (S + 4) 4 [v]
  r5 : ∃ v, Row y (S + 5) 29 [v]
  lin : Lines y g r.feet r.feet.length
  oth : KeepsOthers Z y
section
variable {w Z : World} {r : RigZ} {R : RigR} {g S Zs b7 bx : Nat} {x : Int × Nat × Nat} {y : World}
theorem TI.keep (h : TI w Z r R g S Zs b7 bx x y) {z : World} (hb : Below y.heap.size y z) (hS : S ≤ y.heap.size) : TI w Z r R g S Zs b7 bx x z := by
  obtain ⟨a0, a1, a2, a3, ⟨v1, b1⟩, ⟨v2, b2⟩, ⟨v3, b3⟩, ⟨v4, b4⟩, ⟨v5, b5⟩, lin, a4⟩ := h
  exact ⟨a0.trans (hb.mono hS), Nat.le_trans a1 hb.size, a2.below hb a2.lt, a3.below hb a3.lt, ⟨v1, b1.below hb b1.lt⟩, ⟨v2, b2.below hb b2.lt⟩, ⟨v3, b3.below hb b3.lt⟩, ⟨v4, b4.below hb b4.lt⟩, ⟨v5, b5.below hb b5.lt⟩, lin.keep (hb.block g lin.lt), a4.trans (others_below hb)⟩
theorem TI.drew (h : TI w Z r R g S Zs b7 bx x y) : TI w Z r R g S Zs b7 bx x y.drew := by
  obtain ⟨a0, a1, a2, a3, ⟨v1, b1⟩, ⟨v2, b2⟩, ⟨v3, b3⟩, ⟨v4, b4⟩, ⟨v5, b5⟩, lin, a4⟩ := h
  exact ⟨a0.drew, a1, a2.drew, a3.drew, ⟨v1, b1.drew⟩, ⟨v2, b2.drew⟩, ⟨v3, b3.drew⟩, ⟨v4, b4.drew⟩, ⟨v5, b5.drew⟩, lin.keep rfl, ⟨a4.1, fun k o h1 h2 => a4.2 k o h1 h2⟩⟩
theorem TI.set (h : TI w Z r R g S Zs b7 bx x y) {c : Nat} (h7 : b7 ≠ S + c) (hx : bx ≠ S + c) (hgl : g ≠ S + c) (v : Value) : TI w Z r R g S Zs b7 bx x (y.setCell ⟨S + c, 0, none⟩ v) := by
  obtain ⟨a0, a1, a2, a3, ⟨v1, b1⟩, ⟨v2, b2⟩, ⟨v3, b3⟩, ⟨v4, b4⟩, ⟨v5, b5⟩, lin, a4⟩ := h
  have one : ∀ {d : Nat} {t : TypeId} {u : Value}, Row y (S + d) t [u] → ∃ v', Row (y.setCell ⟨S + c, 0, none⟩ v) (S + d) t [v'] := fun {d t u} hr => by
    by_cases hd : d = c
    · subst hd; exact ⟨v, hr.set 0 v⟩
    · exact ⟨u, hr.far (p := ⟨S + c, 0, none⟩) (by show S + d ≠ S + c; omega) v⟩
  exact ⟨a0.setCell (p := ⟨S + c, 0, none⟩) (Nat.le_add_right _ _) v, by simpa [World.setCell] using a1, a2.far (p := ⟨S + c, 0, none⟩) h7 v, a3.far (p := ⟨S + c, 0, none⟩) hx v, one b1, one b2, one b3, one b4, one b5, lin.keep (Below.heap_setCell y ⟨S + c, 0, none⟩ v g hgl), a4.trans (KeepsOthers.setCell _ _ _)⟩
end
end Go.Proofs.Ytkmiapfkebdpbaa
namespace Go.Proofs.Ytkmiapfkebdpbaa
open Go.RowKit Go.Shelf
attribute [local go_sem] Oper.semAt_some

def NoLow (l : List (Int × Nat × Nat)) : Prop := ∀ y ∈ l, 0 ≤ y.1
/-- The first of these moments is below 0. -/
def FirstW (r : RigZ) (x : Int × Nat × Nat) : Prop := ∃ pre, NoLow pre ∧ x.1 < 0 ∧ (pre ++ [x]) <+: wpL r (phZ r)
theorem LdIn.own {r : RigZ} {p k Zs : Nat} {u : Value} {y z : World} (h : LdIn r p k Zs u y) {row : Option Nat} (hg : y.grownBy z row) (hr : ∀ r, row = some r → ∃ o : Obj, y.heap[r]? = some o ∧ o.isCells = false) : LdIn r p k Zs u z := by
  obtain ⟨n, G, h1, h2, h3, h4⟩ := h
  exact ⟨n, G, h1, h2, h3, row_turn h4 hg hr⟩
def TiPost (w : World) (r : RigZ) (e : Ending) (w' : World) : Prop :=
  Below w.heap.size w w' ∧ ((rigB r = false ∧ e = .returned (.tuple #[.slice none 0 0, .int .i64 0, .int .i64 0, .bool false, .int .i64 33])) ∨
    (rigB r = true ∧ NoLow (wpL r (phZ r)) ∧ e = .returned (.tuple #[.slice none 0 0, .int .i64 0, .int .i64 0, .bool false, .int .i64 0])) ∨
    (rigB r = true ∧ ∃ x v, FirstW r x ∧ LdIn r x.2.1 x.2.2 w.heap.size v w' ∧ e = .returned (.tuple #[v, .int .i64 (x.2.1 : Int), .int .i64 (x.2.2 : Int), .bool true, .int .i64 0])))
/-- The results' cells. -/
structure Res (w y : World) (v : Value) (p k : Int) (b : Bool) (e : Int) : Prop where
  bel : Below w.heap.size w y
  r1 : Row y (w.heap.size + 1) 64 [v]
  r2 : Row y (w.heap.size + 2) 3 [.int .i64 p]
  r3 : Row y (w.heap.size + 3) 3 [.int .i64 k]
  r4 : Row y (w.heap.size + 4) 4 [.bool b]
  r5 : Row y (w.heap.size + 5) 29 [.int .i64 e]
section
variable {w y z : World} {v : Value} {p k e : Int} {b : Bool}
theorem Res.below (h : Res w y v p k b e) (hb : Below y.heap.size y z) : Res w z v p k b e :=
  ⟨h.bel.trans (hb.mono h.bel.size), h.r1.below hb h.r1.lt, h.r2.below hb h.r2.lt, h.r3.below hb h.r3.lt, h.r4.below hb h.r4.lt, h.r5.below hb h.r5.lt⟩
theorem Res.drew (h : Res w y v p k b e) : Res w y.drew v p k b e := ⟨h.bel.drew, h.r1.drew, h.r2.drew, h.r3.drew, h.r4.drew, h.r5.drew⟩
theorem Res.own (h : Res w y v p k b e) {row : Option Nat} (hg : y.grownBy z row) (hr : ∀ r, row = some r → w.heap.size ≤ r ∧ ∃ o : Obj, y.heap[r]? = some o ∧ o.isCells = false) : Res w z v p k b e := by
  have hr2 := fun r e => (hr r e).2
  exact ⟨h.bel.grown hg h.bel.size fun k e => (hr k e).1, row_turn h.r1 hg hr2, row_turn h.r2 hg hr2, row_turn h.r3 hg hr2, row_turn h.r4 hg hr2, row_turn h.r5 hg hr2⟩
theorem Res.cells (h : Res w y v p k b e) : (y.cell? ⟨w.heap.size + 1, 0, none⟩ = some v ∧ y.frozen? ⟨w.heap.size + 1, 0, none⟩ = false) ∧ (y.cell? ⟨w.heap.size + 2, 0, none⟩ = some (.int .i64 p) ∧ y.frozen? ⟨w.heap.size + 2, 0, none⟩ = false) ∧ (y.cell? ⟨w.heap.size + 3, 0, none⟩ = some (.int .i64 k) ∧ y.frozen? ⟨w.heap.size + 3, 0, none⟩ = false) ∧ (y.cell? ⟨w.heap.size + 4, 0, none⟩ = some (.bool b) ∧ y.frozen? ⟨w.heap.size + 4, 0, none⟩ = false) ∧ (y.cell? ⟨w.heap.size + 5, 0, none⟩ = some (.int .i64 e) ∧ y.frozen? ⟨w.heap.size + 5, 0, none⟩ = false) :=
  ⟨⟨h.r1.cell (j := 0) (by simp), h.r1.frozen 0⟩, ⟨h.r2.cell (j := 0) (by simp), h.r2.frozen 0⟩, ⟨h.r3.cell (j := 0) (by simp), h.r3.frozen 0⟩, ⟨h.r4.cell (j := 0) (by simp), h.r4.frozen 0⟩, ⟨h.r5.cell (j := 0) (by simp), h.r5.frozen 0⟩⟩
theorem Res.set (h : Res w y v p k b e) (v' : Value) (p' k' : Int) (b' : Bool) (e' : Int) : Res w (((((y.setCell ⟨w.heap.size + 1, 0, none⟩ v').setCell ⟨w.heap.size + 2, 0, none⟩ (.int .i64 p')).setCell ⟨w.heap.size + 3, 0, none⟩ (.int .i64 k')).setCell ⟨w.heap.size + 4, 0, none⟩ (.bool b')).setCell ⟨w.heap.size + 5, 0, none⟩ (.int .i64 e')) v' p' k' b' e' := by
  obtain ⟨h0, h1, h2, h3, h4, h5⟩ := h
  exact ⟨((((h0.setCell (by simp) _).setCell (by simp) _).setCell (by simp) _).setCell (by simp) _).setCell (by simp) _, ((((h1.set 0 _).far (by simp) _).far (by simp) _).far (by simp) _).far (by simp) _, ((((h2.far (by simp) _).set 0 _).far (by simp) _).far (by simp) _).far (by simp) _, ((((h3.far (by simp) _).far (by simp) _).set 0 _).far (by simp) _).far (by simp) _, ((((h4.far (by simp) _).far (by simp) _).far (by simp) _).set 0 _).far (by simp) _, ((((h5.far (by simp) _).far (by simp) _).far (by simp) _).far (by simp) _).set 0 _⟩
theorem Res.set5 (h : Res w y v p k b e) (e' : Int) : Res w (y.setCell ⟨w.heap.size + 5, 0, none⟩ (.int .i64 e')) v p k b e' := by
  obtain ⟨h0, h1, h2, h3, h4, h5⟩ := h
  exact ⟨h0.setCell (by simp) _, h1.far (by simp) _, h2.far (by simp) _, h3.far (by simp) _, h4.far (by simp) _, h5.set 0 _⟩
end
theorem res_new (w : World) (r : RigZ) (R : RigR) : Res w ((((((w.alloc (.cells (rigCells r R).toArray 57)).alloc (.cells #[.slice none 0 0] 64)).alloc (.cells #[.int .i64 0] 3)).alloc (.cells #[.int .i64 0] 3)).alloc (.cells #[.bool false] 4)).alloc (.cells #[.int .i64 0] 29)) (.slice none 0 0) 0 0 false 0 ∧ Row ((((((w.alloc (.cells (rigCells r R).toArray 57)).alloc (.cells #[.slice none 0 0] 64)).alloc (.cells #[.int .i64 0] 3)).alloc (.cells #[.int .i64 0] 3)).alloc (.cells #[.bool false] 4)).alloc (.cells #[.int .i64 0] 29)) w.heap.size 57 (rigCells r R) := by
  refine ⟨⟨(((((((Below.refl _ _).alloc (Nat.le_refl _) _).alloc (by simp) _).alloc (by simp; omega) _).alloc (by simp; omega) _).alloc (by simp; omega) _).alloc (by simp; omega) _), ?_, ?_, ?_, ?_, ?_⟩, ?_⟩
  · have h := ((((Row.new (w.alloc (.cells (rigCells r R).toArray 57)) 64 #[.slice none 0 0]).alloc (.cells #[.int .i64 0] 3)).alloc (.cells #[.int .i64 0] 3)).alloc (.cells #[.bool false] 4)).alloc (.cells #[.int .i64 0] 29)
    simpa only [World.size_alloc] using h
  · have h := (((Row.new ((w.alloc (.cells (rigCells r R).toArray 57)).alloc (.cells #[.slice none 0 0] 64)) 3 #[.int .i64 0]).alloc (.cells #[.int .i64 0] 3)).alloc (.cells #[.bool false] 4)).alloc (.cells #[.int .i64 0] 29)
    simpa only [World.size_alloc] using h
  · have h := ((Row.new (((w.alloc (.cells (rigCells r R).toArray 57)).alloc (.cells #[.slice none 0 0] 64)).alloc (.cells #[.int .i64 0] 3)) 3 #[.int .i64 0]).alloc (.cells #[.bool false] 4)).alloc (.cells #[.int .i64 0] 29)
    simpa only [World.size_alloc] using h
  · have h := (Row.new ((((w.alloc (.cells (rigCells r R).toArray 57)).alloc (.cells #[.slice none 0 0] 64)).alloc (.cells #[.int .i64 0] 3)).alloc (.cells #[.int .i64 0] 3)) 4 #[.bool false]).alloc (.cells #[.int .i64 0] 29)
    simpa only [World.size_alloc] using h
  · have h := Row.new (((((w.alloc (.cells (rigCells r R).toArray 57)).alloc (.cells #[.slice none 0 0] 64)).alloc (.cells #[.int .i64 0] 3)).alloc (.cells #[.int .i64 0] 3)).alloc (.cells #[.bool false] 4)) 29 #[.int .i64 0]
    simpa only [World.size_alloc] using h
  · exact (((((Row.new w 57 (rigCells r R).toArray).alloc _).alloc _).alloc _).alloc _).alloc _
theorem tips_end {w Z : World} {r : RigZ} {D : Nat} {v : Value} {p k : Int} {b : Bool} (hK : Z.heap[D]? = some (.deferred (some []))) (hD : w.heap.size ≤ D) (hR : Res w Z v p k b 0)
    (hpost : ∀ Y, Below w.heap.size w Y → (∀ g : Nat, Z.heap[g]? ≠ some (Obj.deferred (some [])) → Y.heap[g]? = Z.heap[g]?) → TiPost w r (.returned (.tuple #[v, .int .i64 p, .int .i64 k, .bool b, .int .i64 0])) Y) (tmps : Array Value)
    (h2 : tmps[2]? = some (.pointer (some ⟨w.heap.size + 1, 0, none⟩))) (h3 : tmps[3]? = some (.pointer (some ⟨w.heap.size + 2, 0, none⟩))) (h4 : tmps[4]? = some (.pointer (some ⟨w.heap.size + 3, 0, none⟩))) (h5 : tmps[5]? = some (.pointer (some ⟨w.heap.size + 4, 0, none⟩))) (h6 : tmps[6]? = some (.pointer (some ⟨w.heap.size + 5, 0, none⟩))) :
    bodyPostM Fence.wide 8 Try.prog Try.f41 (TiPost w r) Exit.ret { tmps := tmps, defers := [{ target := .collected D, args := #[] }] } Z := by
  refine ⟨by simp, .inl ⟨_, _, rfl, run_takeDeferred hK, ?_⟩⟩
  have hg := grownBy_putObj' Z D (.deferred none)
  have hr : ∀ r, some D = some r → w.heap.size ≤ r ∧ ∃ o : Obj, Z.heap[r]? = some o ∧ o.isCells = false := fun r e => by cases e; exact ⟨hD, _, hK, rfl⟩
  have hY := hR.own hg hr
  have hP := hpost (Z.putObj D (.deferred none)) hY.bel (fun g hne => World.putObj_heap_other (fun e => by subst e; exact hne hK))
  generalize Z.putObj D (.deferred none) = Y at *
  obtain ⟨⟨c1, _⟩, ⟨c2, _⟩, ⟨c3, _⟩, ⟨c4, _⟩, ⟨c5, _⟩⟩ := hY.cells
  exact ⟨_, by simp [results, Try.results41, go_sem, *], hP⟩
set_option maxRecDepth 100000 in
set_option maxHeartbeats 4000000 in
theorem Tips_any (r : RigZ) (R : RigR) (B : Nat) (w : World) (hB : B ≤ w.heap.size) (hR : RigIn w B r R) :
    Calls Try.prog 41 #[rigV r R] w (TiPost w r) := by
  have hnew := res_new w r R
  obtain ⟨W, hW⟩ : ∃ W, W = ((((((w.alloc (.cells (rigCells r R).toArray 57)).alloc (.cells #[.slice none 0 0] 64)).alloc (.cells #[.int .i64 0] 3)).alloc (.cells #[.int .i64 0] 3)).alloc (.cells #[.bool false] 4)).alloc (.cells #[.int .i64 0] 29)) := ⟨_, rfl⟩
  rw [← hW] at hnew
  obtain ⟨RW0, rW⟩ := hnew
  have bW := RW0.bel
  have RgW := hR.below (bW.mono hB)
  have HM := Lib.hid (measure_any r R B W (Nat.le_trans hB bW.size) RgW)
  unfold rigV at HM ⊢
  unfold rigCells at rW hW
  obtain ⟨_, q0, q1, q2, q3, q4, q5, q6, q7⟩ := Row.at_8 rW
  refine (callsIn_wide (n := 8)).1 ?_
  refine callsIn_of_wp_marks Try.func41 rfl trivial ?_ rfl
  simp only [Try.ntmps41, List.size_toArray, List.length_cons, List.length_nil, Nat.reduceAdd, Nat.reduceSub, Array.replicate_succ, Array.replicate_zero, List.push_toArray, List.append_toArray, List.nil_append, List.cons_append]
  gi_wp2
  rw [← hW]
  clear hW
  simp only [Nat.add_assoc, Nat.reduceAdd]
  refine ⟨trivial, ?_⟩
  refine (callsIn_wide.2 HM.out).mono ?_
  rintro e w1 ⟨hb1, ⟨h1, rfl⟩ | ⟨h1, g, hg, hL, rfl⟩⟩
  · have RW1 := RW0.below hb1
    unfold gZeros
    obtain ⟨⟨c1, f1⟩, ⟨c2, f2⟩, ⟨c3, f3⟩, ⟨c4, f4⟩, ⟨c5, f5⟩⟩ := RW1.cells
    clear q0 q1 q2 q3 q4 q5 q6 q7 HM rW
    have z5 := RW1.r5.lt
    gi_upto_region 2 with fail
    obtain ⟨V, hV⟩ : ∃ V, V = (w1.setCell ⟨w.heap.size + 5, 0, none⟩ (.int .i64 33)).alloc (.cells gZeros.toArray 101) := ⟨_, rfl⟩
    have RV : Res w V (.slice none 0 0) 0 0 false 33 := by subst hV; exact (RW1.set5 33).below ((Below.refl _ _).alloc (Nat.le_refl _) _)
    unfold gZeros at hV
    rw [← hV]
    clear hV c1 f1 c2 f2 c3 f3 c4 f4 c5 f5 z5
    obtain ⟨⟨c1, f1⟩, ⟨c2, f2⟩, ⟨c3, f3⟩, ⟨c4, f4⟩, ⟨c5, f5⟩⟩ := RV.cells
    gi_upto_region 3 with fail
    have hmx : Try.prog.follows .mixedOrders = true := by kernel_rfl
    gi_region_with_o (fail)
    all_goals
      have RZ := (RV.set (.slice none 0 0) 0 0 false 33).drew
      obtain ⟨Z, hZ⟩ : ∃ Z, Z = (((((V.setCell ⟨w.heap.size + 1, 0, none⟩ (.slice none 0 0)).setCell ⟨w.heap.size + 2, 0, none⟩ (.int .i64 0)).setCell ⟨w.heap.size + 3, 0, none⟩ (.int .i64 0)).setCell ⟨w.heap.size + 4, 0, none⟩ (.bool false)).setCell ⟨w.heap.size + 5, 0, none⟩ (.int .i64 33)).drew := ⟨_, rfl⟩
      rw [← hZ] at RZ ⊢
      clear hZ c1 f1 c2 f2 c3 f3 c4 f4 c5 f5
      obtain ⟨⟨c1, f1⟩, ⟨c2, f2⟩, ⟨c3, f3⟩, ⟨c4, f4⟩, ⟨c5, f5⟩⟩ := RZ.cells
      gi_wp2
      refine ⟨.tuple #[.slice none 0 0, .int .i64 0, .int .i64 0, .bool false, .int .i64 33], by simp [results, Try.results41, go_sem, *], RZ.bel, .inl ⟨h1, rfl⟩⟩
  · have RW1 := RW0.below hb1
    obtain ⟨⟨c1, f1⟩, ⟨c2, f2⟩, ⟨c3, f3⟩, ⟨c4, f4⟩, ⟨c5, f5⟩⟩ := RW1.cells
    clear q0 q1 q2 q3 q4 q5 q6 q7 HM rW
    have z5 := RW1.r5.lt
    unfold gRigV
    gi_upto_region 2 with fail
    obtain ⟨V, hV⟩ : ∃ V, V = (w1.setCell ⟨w.heap.size + 5, 0, none⟩ (.int .i64 0)).alloc (.cells (gCells r R g (phZ r)).toArray 101) := ⟨_, rfl⟩
    have RV : Res w V (.slice none 0 0) 0 0 false 0 := by subst hV; exact (RW1.set5 0).below ((Below.refl _ _).alloc (Nat.le_refl _) _)
    have gV : Row V w1.heap.size 101 (gCells r R g (phZ r)) := by
      subst hV
      have h := Row.new (w1.setCell ⟨w.heap.size + 5, 0, none⟩ (.int .i64 0)) 101 (gCells r R g (phZ r)).toArray
      simpa [World.setCell] using h
    have zW : w.heap.size + 5 < W.heap.size := RW0.r5.lt
    have LV : Lines V g r.feet r.feet.length := by subst hV; exact (hL.keep (Below.heap_setCell w1 ⟨w.heap.size + 5, 0, none⟩ _ g (by show g ≠ w.heap.size + 5; omega))).keep (Below.heap_alloc _ _ _ (by simpa [World.setCell] using hL.lt))
    have RgV : RigIn V B r R := hR.below (RV.bel.mono hB)
    have zV : w1.heap.size < V.heap.size := gV.lt
    have hseq := worst_seqP 7 (by omega) r R B g (w.heap.size + 1) V (by omega) RgV h1 LV (by omega) (by omega) (by omega)
    unfold gCells at hV
    unfold gRigV at hseq
    rw [← hV]
    clear hV c1 f1 c2 f2 c3 f3 c4 f4 c5 f5 z5
    obtain ⟨⟨c1, f1⟩, ⟨c2, f2⟩, ⟨c3, f3⟩, ⟨c4, f4⟩, ⟨c5, f5⟩⟩ := RV.cells
    have gV2 := gV
    unfold gCells at gV2
    obtain ⟨_, q0, q1, q2, q3, q4, q5, q6, q7, q8, q9⟩ := Row.at_10 gV2
    gi_wp2
    refine range_boundP (F := Fence.wide) (n := 8) (P := Try.prog) (Kp := KeptC (w.heap.size + 1)) rfl (by omega) (gf := 75) rfl trivial (enters_of Try.func75 (by kernel_rfl) rfl)
      KeptC.trans (fun W l o o' _ h ho => KeptC.putObj W l o o' h ho) hseq rfl
      (fun pre W => NoLow pre ∧ Below V.heap.size V W)
      (fun cd pre W => cd = .ret ∧ ∃ pre' x v, pre = pre' ++ [x] ∧ NoLow pre' ∧ x.1 < 0 ∧ Res w W v (x.2.1 : Int) (x.2.2 : Int) true 0 ∧ LdIn r x.2.1 x.2.2 w.heap.size v W)
      (OwnFrom.and (ownFrom_pure _ _) (ownFrom_below (Nat.le_refl _) (Nat.le_refl _)))
      (fun cd pre X Y row hs hg hr => by
        obtain ⟨h1, pre', x, v, h2, h3, h4, h5, h6⟩ := hs
        have hr2 := fun r e => (hr r e).2
        exact ⟨h1, pre', x, v, h2, h3, h4, h5.own hg (fun r e => ⟨Nat.le_trans RV.bel.size (hr r e).1, (hr r e).2⟩), h6.own hg hr2⟩)
      ⟨fun y hy => by simp at hy, Below.refl _ _⟩
      (fun x a' W => ∃ bx, V.heap.size ≤ bx ∧ Row W bx 112 (wCells x) ∧ a' = { tmps := #[.agg #[.slice R.A1 r.seats.length R.c1, .slice R.A2 r.feet.length R.c2, .int .i64 r.frame, .int .i64 r.center.x, .int .i64 r.center.y, .int .i64 r.center.z, .int .i64 r.empty, .int .i64 r.full], .pointer (some ⟨w.heap.size, 0, none⟩), .pointer (some ⟨w.heap.size + 1, 0, none⟩), .pointer (some ⟨w.heap.size + 2, 0, none⟩), .pointer (some ⟨w.heap.size + 3, 0, none⟩), .pointer (some ⟨w.heap.size + 4, 0, none⟩), .pointer (some ⟨w.heap.size + 5, 0, none⟩), .pointer (some ⟨w1.heap.size, 0, none⟩), .pointer (some ⟨bx, 0, none⟩), .tuple #[.agg #[.slice R.A1 r.seats.length R.c1, .slice R.A2 r.feet.length R.c2, .int .i64 r.frame, .int .i64 r.center.x, .int .i64 r.center.y, .int .i64 r.center.z, .int .i64 r.empty, .int .i64 r.full, .slice (some ⟨g, 0, none⟩) r.feet.length r.feet.length, .int .i64 (phZ r : Int)], .int .i64 0], .agg #[.slice R.A1 r.seats.length R.c1, .slice R.A2 r.feet.length R.c2, .int .i64 r.frame, .int .i64 r.center.x, .int .i64 r.center.y, .int .i64 r.center.z, .int .i64 r.empty, .int .i64 r.full], .tuple #[.agg #[.slice R.A1 r.seats.length R.c1, .slice R.A2 r.feet.length R.c2, .int .i64 r.frame, .int .i64 r.center.x, .int .i64 r.center.y, .int .i64 r.center.z, .int .i64 r.empty, .int .i64 r.full, .slice (some ⟨g, 0, none⟩) r.feet.length r.feet.length, .int .i64 (phZ r : Int)], .int .i64 0], .agg #[.slice R.A1 r.seats.length R.c1, .slice R.A2 r.feet.length R.c2, .int .i64 r.frame, .int .i64 r.center.x, .int .i64 r.center.y, .int .i64 r.center.z, .int .i64 r.empty, .int .i64 r.full, .slice (some ⟨g, 0, none⟩) r.feet.length r.feet.length, .int .i64 (phZ r : Int)], .int .i64 0, .int .i64 0, .bool false, undef, .agg #[.slice R.A1 r.seats.length R.c1, .slice R.A2 r.feet.length R.c2, .int .i64 r.frame, .int .i64 r.center.x, .int .i64 r.center.y, .int .i64 r.center.z, .int .i64 r.empty, .int .i64 r.full, .slice (some ⟨g, 0, none⟩) r.feet.length r.feet.length, .int .i64 (phZ r : Int)], .func (.func 75) #[.agg #[.slice R.A1 r.seats.length R.c1, .slice R.A2 r.feet.length R.c2, .int .i64 r.frame, .int .i64 r.center.x, .int .i64 r.center.y, .int .i64 r.center.z, .int .i64 r.empty, .int .i64 r.full, .slice (some ⟨g, 0, none⟩) r.feet.length r.feet.length, .int .i64 (phZ r : Int)]] #[], encW x, undef, undef, undef, undef, undef, undef, undef, undef, undef, undef, undef, undef, undef], defers := [] })
      (fun x a' _ X Y row hs hg hr => by obtain ⟨bx, h1, h2, h3⟩ := hs; exact ⟨bx, h1, row_turn h2 hg (fun r e => (hr r e).2), h3⟩)
      ?assign ?body ?done ?stop
    case assign =>
      rintro l pre x Z K ⟨hI1, hI2⟩ hK
      unfold encW
      gi_wp2
      exact hK _ _ ((KeepsOthers.alloc _ _).from _) (KeptC.of_below ((Below.refl _ Z).alloc (Nat.le_refl _) _)) ⟨hI1, hI2.alloc hI2.size _⟩ ⟨Z.heap.size, hI2.size, Row.new Z _ _, rfl⟩
    case body =>
      rintro l pre x a' Z ⟨hI1, hI2⟩ ⟨bx, hbx, rX, rfl⟩ hpre
      have hmem := (mem_allW r (phZ r) x).1 (hpre.subset (List.mem_append_right _ (List.mem_singleton.2 rfl)))
      obtain ⟨hp, hk, hx1⟩ := hmem
      have rX2 := rX
      unfold wCells at rX2
      obtain ⟨_, x0, x1, x2⟩ := Row.at_3 rX2
      by_cases hneg : x.1 < 0
      · have hngm : momZ r (worstZ r x.2.1 x.2.2) x.2.1 x.2.2 < 0 := by rw [← hx1]; exact hneg
        have zZ := hI2.size
        have RZ := RV.below hI2
        obtain ⟨r1, r2, r3, r4, r5⟩ := And.intro RZ.r1 (And.intro RZ.r2 (And.intro RZ.r3 (And.intro RZ.r4 RZ.r5)))
        have HTI : Hid (TI w Z r R g w.heap.size Z.heap.size w1.heap.size bx x Z.drew) := TI.drew ⟨RZ.bel, Nat.le_refl _, gV.below hI2 gV.lt, rX, ⟨_, r1⟩, ⟨_, r2⟩, ⟨_, r3⟩, ⟨_, r4⟩, ⟨_, r5⟩, LV.keep (hI2.block g LV.lt), KeepsOthers.refl _⟩
        clear q0 q1 q2 q3 q4 q5 q6 q7 q8 q9 gV2 rX2
        gi_upto_region 7 with fail
        clear x0 x1 x2
        have zS : w.heap.size + 5 < Z.heap.size := RZ.r5.lt
        have zw1 : W.heap.size ≤ w1.heap.size := hb1.size
        have HFu : Hid (∀ y, TI w Z r R g w.heap.size Z.heap.size w1.heap.size bx x y → Calls Try.prog 77 #[gRigV r R g (phZ r), .int .i64 (x.2.1 : Int), .int .i64 (x.2.2 : Int)] y (FuPost y r x.2.1 x.2.2)) := fun y hI =>
          fewestFull_any r R B g (phZ r) x.2.1 x.2.2 y (Nat.le_trans hB hI.bel.size) (hR.below (hI.bel.mono hB)) h1 hI.lin hk hp hngm
        unfold gRigV at HFu
        refine wpIn_region_steps 15 (ord := [0, 1, 2, 3, 4, 5, 6, 7, 8, 9, 10, 11, 12, 13, 14]) (ds := [(0, 23), (1, 24), (2, 25), (3, 26), (4, 27), (5, 28), (6, 29), (7, 30), (8, 31), (9, 32)]) (I := fun _ y => TI w Z r R g w.heap.size Z.heap.size w1.heap.size bx x y) (V := TV r R g w.heap.size Z.heap.size bx x.2.1 x.2.2) (by kernel_rfl) (by kernel_rfl) rfl ?ia (StepsE.cons (k := 0) (k' := 1) (o := ⟨some 23, _, _, _, _, _⟩) rfl rfl ?sa0 (StepsE.cons (k := 1) (k' := 2) (o := ⟨some 24, _, _, _, _, _⟩) rfl rfl ?sa1 (StepsE.cons (k := 2) (k' := 3) (o := ⟨some 25, _, _, _, _, _⟩) rfl rfl ?sa2 (StepsE.cons (k := 3) (k' := 4) (o := ⟨some 26, _, _, _, _, _⟩) rfl rfl ?sa3 (StepsE.cons (k := 4) (k' := 5) (o := ⟨some 27, _, _, _, _, _⟩) rfl rfl ?sa4 (StepsE.cons (k := 5) (k' := 6) (o := ⟨some 28, _, _, _, _, _⟩) rfl rfl ?sa5 (StepsE.cons (k := 6) (k' := 7) (o := ⟨some 29, _, _, _, _, _⟩) rfl rfl ?sa6 (StepsE.cons (k := 7) (k' := 8) (o := ⟨some 30, _, _, _, _, _⟩) rfl rfl ?sa7 (StepsE.cons (k := 8) (k' := 9) (o := ⟨some 31, _, _, _, _, _⟩) rfl rfl ?sa8 (StepsE.cons (k := 9) (k' := 10) (o := ⟨some 32, _, _, _, _, _⟩) rfl rfl ?sa9 (StepsE.cons (k := 10) (k' := 11) (o := ⟨none, _, _, _, _, _⟩) rfl rfl ?sa10 (StepsE.cons (k := 11) (k' := 12) (o := ⟨none, _, _, _, _, _⟩) rfl rfl ?sa11 (StepsE.cons (k := 12) (k' := 13) (o := ⟨none, _, _, _, _, _⟩) rfl rfl ?sa12 (StepsE.cons (k := 13) (k' := 14) (o := ⟨none, _, _, _, _, _⟩) rfl rfl ?sa13 (StepsE.cons (k := 14) (k' := 15) (o := ⟨none, _, _, _, _, _⟩) rfl rfl ?sa14 StepsE.nil))))))))))))))) ?fina
        case ia => exact HTI.out
        case sa0 =>
          intro xs done y hI hd0 hdn hup hV K hK
          refine wpOpIn_go (o := ⟨some 23, _, _, _, _, _⟩) rfl rfl ?_
          clear hV
          simp only [putsF, List.foldl_cons, List.foldl_nil, Act.put, List.setIfInBounds_toArray, List.set_cons_zero, List.set_cons_succ] at hK ⊢
          have h := hI.rig
          unfold gCells at h
          obtain ⟨_, q0, q1, q2, q3, q4, q5, q6, q7, q8, q9⟩ := Row.at_10 h
          gi_wp2
          exact hK.out _ _ hI (by exact rfl) (fun _ _ _ _ _ h => h)
        case sa1 =>
          intro xs done y hI hd0 hdn hup hV K hK
          refine wpOpIn_go (o := ⟨some 24, _, _, _, _, _⟩) rfl rfl ?_
          clear hV
          simp only [putsF, List.foldl_cons, List.foldl_nil, Act.put, List.setIfInBounds_toArray, List.set_cons_zero, List.set_cons_succ] at hK ⊢
          gi_wp2
          exact hK.out _ _ hI (by exact rfl) (fun _ _ _ _ _ h => h)
        case sa2 =>
          intro xs done y hI hd0 hdn hup hV K hK
          refine wpOpIn_go (o := ⟨some 25, _, _, _, _, _⟩) rfl rfl ?_
          have e1 : xs 1 = .pointer (some ⟨bx, 1, none⟩) := hV 1 (by kernel_rfl)
          clear hV
          simp only [putsF, List.foldl_cons, List.foldl_nil, Act.put, List.setIfInBounds_toArray, List.set_cons_zero, List.set_cons_succ] at hK ⊢
          simp only [e1] at hK ⊢
          clear e1
          have h := hI.wst
          unfold wCells at h
          obtain ⟨_, x0, x1, x2⟩ := Row.at_3 h
          gi_wp2
          exact hK.out _ _ hI (by exact rfl) (fun _ _ _ _ _ h => h)
        case sa3 =>
          intro xs done y hI hd0 hdn hup hV K hK
          refine wpOpIn_go (o := ⟨some 26, _, _, _, _, _⟩) rfl rfl ?_
          clear hV
          simp only [putsF, List.foldl_cons, List.foldl_nil, Act.put, List.setIfInBounds_toArray, List.set_cons_zero, List.set_cons_succ] at hK ⊢
          gi_wp2
          exact hK.out _ _ hI (by exact rfl) (fun _ _ _ _ _ h => h)
        case sa4 =>
          intro xs done y hI hd0 hdn hup hV K hK
          refine wpOpIn_go (o := ⟨some 27, _, _, _, _, _⟩) rfl rfl ?_
          have e3 : xs 3 = .pointer (some ⟨bx, 2, none⟩) := hV 3 (by kernel_rfl)
          clear hV
          simp only [putsF, List.foldl_cons, List.foldl_nil, Act.put, List.setIfInBounds_toArray, List.set_cons_zero, List.set_cons_succ] at hK ⊢
          simp only [e3] at hK ⊢
          clear e3
          have h := hI.wst
          unfold wCells at h
          obtain ⟨_, x0, x1, x2⟩ := Row.at_3 h
          gi_wp2
          exact hK.out _ _ hI (by exact rfl) (fun _ _ _ _ _ h => h)
        case sa5 =>
          intro xs done y hI hd0 hdn hup hV K hK
          refine wpOpIn_go (o := ⟨some 28, _, _, _, _, _⟩) rfl rfl ?_
          have e0 : xs 0 = .agg #[.slice R.A1 r.seats.length R.c1, .slice R.A2 r.feet.length R.c2, .int .i64 r.frame, .int .i64 r.center.x, .int .i64 r.center.y, .int .i64 r.center.z, .int .i64 r.empty, .int .i64 r.full, .slice (some ⟨g, 0, none⟩) r.feet.length r.feet.length, .int .i64 (phZ r : Int)] := hV 0 (by kernel_rfl)
          have e2 : xs 2 = .int .i64 (x.2.1 : Int) := hV 2 (by kernel_rfl)
          have e4 : xs 4 = .int .i64 (x.2.2 : Int) := hV 4 (by kernel_rfl)
          clear hV
          simp only [putsF, List.foldl_cons, List.foldl_nil, Act.put, List.setIfInBounds_toArray, List.set_cons_zero, List.set_cons_succ] at hK ⊢
          simp only [e0, e2, e4] at hK ⊢
          clear e0 e2 e4
          gi_wp2
          refine ⟨trivial, ?_⟩
          refine (CallsIn.inRound l (callsIn_wide.2 (HFu.out y hI))).mono ?_
          rintro e z ⟨hz, n5, G5, hf5, rfl, hG5, hr5⟩
          gi_wp2
          exact hK.out _ _ (hI.keep hz hI.bel.size) ⟨n5, G5, hf5, rfl, Nat.le_trans hI.zs hG5, hr5⟩ (fun j u _ _ _ h => h.below hz (Nat.lt_of_lt_of_le zS hI.zs))
        case sa6 =>
          intro xs done y hI hd0 hdn hup hV K hK
          refine wpOpIn_go (o := ⟨some 29, _, _, _, _, _⟩) rfl rfl ?_
          clear hV
          simp only [putsF, List.foldl_cons, List.foldl_nil, Act.put, List.setIfInBounds_toArray, List.set_cons_zero, List.set_cons_succ] at hK ⊢
          gi_wp2
          exact hK.out _ _ hI (by exact rfl) (fun _ _ _ _ _ h => h)
        case sa7 =>
          intro xs done y hI hd0 hdn hup hV K hK
          refine wpOpIn_go (o := ⟨some 30, _, _, _, _, _⟩) rfl rfl ?_
          have e6 : xs 6 = .pointer (some ⟨bx, 1, none⟩) := hV 6 (by kernel_rfl)
          clear hV
          simp only [putsF, List.foldl_cons, List.foldl_nil, Act.put, List.setIfInBounds_toArray, List.set_cons_zero, List.set_cons_succ] at hK ⊢
          simp only [e6] at hK ⊢
          clear e6
          have h := hI.wst
          unfold wCells at h
          obtain ⟨_, x0, x1, x2⟩ := Row.at_3 h
          gi_wp2
          exact hK.out _ _ hI (by exact rfl) (fun _ _ _ _ _ h => h)
        case sa8 =>
          intro xs done y hI hd0 hdn hup hV K hK
          refine wpOpIn_go (o := ⟨some 31, _, _, _, _, _⟩) rfl rfl ?_
          clear hV
          simp only [putsF, List.foldl_cons, List.foldl_nil, Act.put, List.setIfInBounds_toArray, List.set_cons_zero, List.set_cons_succ] at hK ⊢
          gi_wp2
          exact hK.out _ _ hI (by exact rfl) (fun _ _ _ _ _ h => h)
        case sa9 =>
          intro xs done y hI hd0 hdn hup hV K hK
          refine wpOpIn_go (o := ⟨some 32, _, _, _, _, _⟩) rfl rfl ?_
          have e8 : xs 8 = .pointer (some ⟨bx, 2, none⟩) := hV 8 (by kernel_rfl)
          clear hV
          simp only [putsF, List.foldl_cons, List.foldl_nil, Act.put, List.setIfInBounds_toArray, List.set_cons_zero, List.set_cons_succ] at hK ⊢
          simp only [e8] at hK ⊢
          clear e8
          have h := hI.wst
          unfold wCells at h
          obtain ⟨_, x0, x1, x2⟩ := Row.at_3 h
          gi_wp2
          exact hK.out _ _ hI (by exact rfl) (fun _ _ _ _ _ h => h)
        case sa10 =>
          intro xs done y hI hd0 hdn hup hV K hK
          refine wpOpIn_go (o := ⟨none, _, _, _, _, _⟩) rfl rfl ?_
          obtain ⟨n5, G5, hf5, e5, hz5, hr5⟩ : LdIn r x.2.1 x.2.2 Z.heap.size (xs 5) y := hV 5 (by kernel_rfl)
          clear hV
          simp only [putsF, List.foldl_cons, List.foldl_nil, Act.put, List.setIfInBounds_toArray, List.set_cons_zero, List.set_cons_succ] at hK ⊢
          simp only [e5] at hK ⊢
          clear e5
          obtain ⟨v0, hr0⟩ := hI.r1
          have g0 := hr0.cell (j := 0) (by simp)
          simp only [List.getElem?_cons_zero] at g0
          have g1 := hr0.frozen 0
          gi_wp2
          exact hK.out undef _ (hI.set (c := 1) (by omega) (by omega) (by omega) _) ⟨_, LdIn.keep ⟨n5, G5, hf5, rfl, hz5, hr5⟩ (fun b hb1 _ => Below.heap_setCell y ⟨w.heap.size + 1, 0, none⟩ _ b (by show b ≠ w.heap.size + 1; omega)), hr0.set 0 _⟩ (fun j u _ hne _ h => h.set zS (c := 1) (by omega) (by omega) _)
        case sa11 =>
          intro xs done y hI hd0 hdn hup hV K hK
          refine wpOpIn_go (o := ⟨none, _, _, _, _, _⟩) rfl rfl ?_
          have e7 : xs 7 = .int .i64 (x.2.1 : Int) := hV 7 (by kernel_rfl)
          clear hV
          simp only [putsF, List.foldl_cons, List.foldl_nil, Act.put, List.setIfInBounds_toArray, List.set_cons_zero, List.set_cons_succ] at hK ⊢
          simp only [e7] at hK ⊢
          clear e7
          obtain ⟨v0, hr0⟩ := hI.r2
          have g0 := hr0.cell (j := 0) (by simp)
          simp only [List.getElem?_cons_zero] at g0
          have g1 := hr0.frozen 0
          gi_wp2
          exact hK.out undef _ (hI.set (c := 2) (by omega) (by omega) (by omega) _) (hr0.set 0 _) (fun j u _ hne _ h => h.set zS (c := 2) (by omega) (by omega) _)
        case sa12 =>
          intro xs done y hI hd0 hdn hup hV K hK
          refine wpOpIn_go (o := ⟨none, _, _, _, _, _⟩) rfl rfl ?_
          have e9 : xs 9 = .int .i64 (x.2.2 : Int) := hV 9 (by kernel_rfl)
          clear hV
          simp only [putsF, List.foldl_cons, List.foldl_nil, Act.put, List.setIfInBounds_toArray, List.set_cons_zero, List.set_cons_succ] at hK ⊢
          simp only [e9] at hK ⊢
          clear e9
          obtain ⟨v0, hr0⟩ := hI.r3
          have g0 := hr0.cell (j := 0) (by simp)
          simp only [List.getElem?_cons_zero] at g0
          have g1 := hr0.frozen 0
          gi_wp2
          exact hK.out undef _ (hI.set (c := 3) (by omega) (by omega) (by omega) _) (hr0.set 0 _) (fun j u _ hne _ h => h.set zS (c := 3) (by omega) (by omega) _)
        case sa13 =>
          intro xs done y hI hd0 hdn hup hV K hK
          refine wpOpIn_go (o := ⟨none, _, _, _, _, _⟩) rfl rfl ?_
          clear hV
          simp only [putsF, List.foldl_cons, List.foldl_nil, Act.put, List.setIfInBounds_toArray, List.set_cons_zero, List.set_cons_succ] at hK ⊢
          obtain ⟨v0, hr0⟩ := hI.r4
          have g0 := hr0.cell (j := 0) (by simp)
          simp only [List.getElem?_cons_zero] at g0
          have g1 := hr0.frozen 0
          gi_wp2
          exact hK.out undef _ (hI.set (c := 4) (by omega) (by omega) (by omega) _) (hr0.set 0 _) (fun j u _ hne _ h => h.set zS (c := 4) (by omega) (by omega) _)
        case sa14 =>
          intro xs done y hI hd0 hdn hup hV K hK
          refine wpOpIn_go (o := ⟨none, _, _, _, _, _⟩) rfl rfl ?_
          clear hV
          simp only [putsF, List.foldl_cons, List.foldl_nil, Act.put, List.setIfInBounds_toArray, List.set_cons_zero, List.set_cons_succ] at hK ⊢
          obtain ⟨v0, hr0⟩ := hI.r5
          have g0 := hr0.cell (j := 0) (by simp)
          simp only [List.getElem?_cons_zero] at g0
          have g1 := hr0.frozen 0
          gi_wp2
          exact hK.out undef _ (hI.set (c := 5) (by omega) (by omega) (by omega) _) (hr0.set 0 _) (fun j u _ hne _ h => h.set zS (c := 5) (by omega) (by omega) _)
        case fina =>
          intro xs done y hI hdone hV
          obtain ⟨v, h10, h11⟩ : ∃ v, LdIn r x.2.1 x.2.2 Z.heap.size v y ∧ Row y (w.heap.size + 1) 64 [v] := hV 10 (by decide)
          have g11 : Row y (w.heap.size + 2) 3 [.int .i64 (x.2.1 : Int)] := hV 11 (by decide)
          have g12 : Row y (w.heap.size + 3) 3 [.int .i64 (x.2.2 : Int)] := hV 12 (by decide)
          have g13 : Row y (w.heap.size + 4) 4 [.bool true] := hV 13 (by decide)
          have g14 : Row y (w.heap.size + 5) 29 [.int .i64 0] := hV 14 (by decide)
          clear hV
          simp only [putsF, List.foldl_cons, List.foldl_nil, Act.put, List.setIfInBounds_toArray, List.set_cons_zero, List.set_cons_succ]
          gi_wp2
          exact ⟨hI.oth.from _, rfl, pre, x, v, rfl, hI1, hneg, ⟨hI.bel, h11, g11, g12, g13, g14⟩, h10.mono (by omega)⟩
      · gi_wp2
        refine ⟨(KeepsOthers.refl _).from _, KeptC.refl _ _, ?_, hI2⟩
        intro y hy
        rcases List.mem_append.1 hy with hy | hy
        · exact hI1 y hy
        · obtain rfl : y = x := by simpa using hy
          omega
    case done =>
      rintro D Z hD ⟨hI1, hI2⟩ hK
      have RZ := RV.below hI2
      have zZ := RV.bel.size
      clear q0 q1 q2 q3 q4 q5 q6 q7 q8 q9 c1 f1 c2 f2 c3 f3 c4 f4 c5 f5
      obtain ⟨⟨c1, f1⟩, ⟨c2, f2⟩, ⟨c3, f3⟩, ⟨c4, f4⟩, ⟨c5, f5⟩⟩ := RZ.cells
      gi_wp2
      refine tips_end (w := w) (v := .slice none 0 0) (p := 0) (k := 0) (b := false) ?_ (by omega) (RZ.set (.slice none 0 0) 0 0 false 0) (fun Y hY _ => ⟨hY, .inr (.inl ⟨h1, hI1, rfl⟩)⟩) _ rfl rfl rfl rfl rfl
      exact ((KeepsOthers.setCell _ _ _).trans ((KeepsOthers.setCell _ _ _).trans ((KeepsOthers.setCell _ _ _).trans ((KeepsOthers.setCell _ _ _).trans (KeepsOthers.setCell _ _ _))))).same D _ hK rfl
    case stop =>
      rintro D cd pre Z hD hpre ⟨rfl, pre', x, v, rfl, h2, h3, h4, h5⟩ hK
      have zZ := RV.bel.size
      gi_wp2
      exact tips_end (w := w) hK (by omega) h4 (fun Y hY hk => ⟨hY, .inr (.inr ⟨h1, x, v, ⟨pre', h2, h3, hpre⟩, h5.away hk, rfl⟩)⟩) _ rfl rfl rfl rfl rfl
end Go.Proofs.Ytkmiapfkebdpbaa
