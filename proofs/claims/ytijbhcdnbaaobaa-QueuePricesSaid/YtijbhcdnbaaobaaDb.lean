/- The specification's evening in memory, and what a store leaves of it. No program beyond the types' numbers. -/
import Derived.Test.YtijbhcdnbaaobaaJd
import Derived.Test.YtijbhcdnbaaobaaHt
import Derived.Test.YtijbhcdnbaaobaaJi
namespace Go.Proofs.Ytijbhcdnbaaobaa
open Go.RowKit

/-- What the specification's play holds: now; of each group where it is, its wish, since when, its tokens; the queues; five lists (when each ride began, when it ended, what it has taken, its longest queue; when each group went home); the visits. -/
structure RawR where
  now : Int
  gu : Nat → Nat → Int
  q : Nat → List Nat
  tab : Nat → Nat → Int
  vis : List VisZ
def upd2 (g : Nat → Nat → Int) (i j : Nat) (v : Int) : Nat → Nat → Int := fun a b => if a = i ∧ b = j then v else g a b
def RawR.setGu (x : RawR) (i j : Nat) (v : Int) : RawR := { x with gu := upd2 x.gu i j v }
def RawR.setT (x : RawR) (k i : Nat) (v : Int) : RawR := { x with tab := upd2 x.tab k i v }
def RawR.setQ (x : RawR) (r : Nat) (l : List Nat) : RawR := { x with q := fun k => if k = r then l else x.q k }
def RawR.addV (x : RawR) (v : VisZ) : RawR := { x with vis := x.vis ++ [v] }
/-- Where it lies. -/
structure RfE where
  base : Nat
  v : Nat
  G : Nat
  Q : Nat
  T : Nat → Nat
  A : Option Addr
  A2 : Option Addr
  c : Nat
  c2 : Nat
  rs : List (Option Addr × Nat)
  aG : Option Addr
  aQ : Option Addr
  aT : Nat → Option Addr
  cG : Nat
  cQ : Nat
  cT : Nat → Nat
  f : EveZ
  l : List GrpZ
  pr : List (Nat × Obj)
def RfE.tn (E : RfE) (k : Nat) : Nat := if k = 4 then E.l.length else E.f.rides.length
def RfE.sT (E : RfE) (k : Nat) : Value := .slice (E.aT k) (E.tn k) (E.cT k)
def rfL (E : RfE) (now : Int) (uv : Value) : List Value := [.slice E.A E.f.rides.length E.c, .int .i64 E.f.walk, .slice E.A2 E.l.length E.c2, .int .i64 now, .slice E.aG E.l.length E.cG, .slice E.aQ E.f.rides.length E.cQ, E.sT 0, E.sT 1, uv, E.sT 2, E.sT 3, E.sT 4]
/-- A block that no step touches. -/
structure PrOff (E : RfE) (qs : Nat → Value) (uv : Value) (k : Nat) : Prop where
  v : k ≠ E.v
  G : 0 < E.l.length → k ≠ E.G
  Q : 0 < E.f.rides.length → k ≠ E.Q
  T : ∀ j, j < 5 → 0 < E.tn j → k ≠ E.T j
  q : ∀ r, r < E.f.rides.length → (qs r).ownBlock ≠ some k
  u : uv.ownBlock ≠ some k
structure RfIn (E : RfE) (w : World) (x : RawR) (qs : Nat → Value) (uv : Value) : Prop where
  bv : E.base ≤ E.v
  bG : E.base ≤ E.G
  bQ : E.base ≤ E.Q
  bT : ∀ k, k < 5 → E.base ≤ E.T k
  bW : E.base ≤ w.heap.size
  aG : 0 < E.l.length → E.aG = some ⟨E.G, 0, none⟩
  aQ : 0 < E.f.rides.length → E.aQ = some ⟨E.Q, 0, none⟩
  aT : ∀ k, k < 5 → 0 < E.tn k → E.aT k = some ⟨E.T k, 0, none⟩
  pl : Row w E.v 71 (rfL E x.now uv)
  gu : 0 < E.l.length → Blk w E.G 86 E.l.length 4 (fun i j => .int .i64 (x.gu i j))
  qu : 0 < E.f.rides.length → Blk w E.Q 37 E.f.rides.length 1 (fun r _ => qs r)
  q : ∀ r, r < E.f.rides.length → w.ownsRow E.base 3 1 (qs r) (x.q r).length (qL (x.q r))
  qd : ∀ r r', r < E.f.rides.length → r' < E.f.rides.length → r ≠ r' → (qs r).ownBlock = none ∨ (qs r).ownBlock ≠ (qs r').ownBlock
  tab : ∀ k, k < 5 → 0 < E.tn k → Blk w (E.T k) 3 (E.tn k) 1 (fun i _ => .int .i64 (x.tab k i))
  td : ∀ k k', k < 5 → k' < 5 → k ≠ k' → E.T k ≠ E.T k'
  tq : ∀ k, k < 5 → 0 < E.tn k → ∀ r, r < E.f.rides.length → (qs r).ownBlock ≠ some (E.T k)
  vis : w.ownsRow E.base 57 6 uv x.vis.length (x.vis.flatMap visL)
  rides : Reads w E.base 5 E.A E.f.rides.length (bthCells E.f.rides)
  grps : GrpsIn w E.base E.A2 E.rs E.l
  pr : ∀ p, p ∈ E.pr → w.heap[p.1]? = some p.2
  prf : ∀ p, p ∈ E.pr → PrOff E qs uv p.1
def RfAt (E : RfE) (w : World) (x : RawR) : Prop := ∃ qs uv, RfIn E w x qs uv
section
variable {E : RfE} {w w' X : World} {x : RawR} {qs : Nat → Value} {uv : Value}
theorem RfIn.at_ (h : RfIn E w x qs uv) : RfAt E w x := ⟨qs, uv, h⟩
theorem RfIn.grow (h : RfIn E w x qs uv) (hb : Below w.heap.size w w') : RfIn E w' x qs uv :=
  ⟨h.bv, h.bG, h.bQ, h.bT, Nat.le_trans h.bW hb.size, h.aG, h.aQ, h.aT, h.pl.below hb h.pl.lt, fun h0 => (h.gu h0).below hb (h.gu h0).lt, fun h0 => (h.qu h0).below hb (h.qu h0).lt,
    fun r hr => own_keep (h.q r hr) hb, h.qd, fun k hk h0 => (h.tab k hk h0).below hb (h.tab k hk h0).lt, h.td, h.tq, own_keep h.vis hb, h.rides.below (hb.mono h.bW), h.grps.below (hb.mono h.bW), fun p hp => (hb.block p.1 (Array.getElem?_eq_some_iff.1 (h.pr p hp)).1).trans (h.pr p hp), h.prf⟩
theorem bel_set {B : Nat} {p : Addr} (hp : B ≤ p.block) (u : Value) : Below B w (w.setCell p u) := (Below.refl _ _).setCell hp u
theorem RfIn.setGu (h : RfIn E w x qs uv) {i j : Nat} (hi : i < E.l.length) (hj : j < 4) (v : Int) : RfIn E (w.setCell ⟨E.G, i * 4 + j, none⟩ (.int .i64 v)) (x.setGu i j v) qs uv := by
  have hgr := grown_set w ⟨E.G, i * 4 + j, none⟩ (.int .i64 v)
  have hG := (h.gu (by omega)).ty
  have hb : Below E.base w (w.setCell ⟨E.G, i * 4 + j, none⟩ (.int .i64 v)) := bel_set h.bG _
  refine ⟨h.bv, h.bG, h.bQ, h.bT, Nat.le_trans h.bW hgr.size, h.aG, h.aQ, h.aT, h.pl.far (p := ⟨E.G, i * 4 + j, none⟩) (h.pl.ty.ne hG (by decide)) _, fun h0 => ?_, fun h0 => (h.qu h0).far (p := ⟨E.G, i * 4 + j, none⟩) ((h.qu h0).ty.ne hG (by decide)) _, fun r hr => (h.q r hr).kept hgr (own_off (h.q r hr) hG (by decide)), h.qd, fun k hk h0 => (h.tab k hk h0).far (p := ⟨E.G, i * 4 + j, none⟩) ((h.tab k hk h0).ty.ne hG (by decide)) _, h.td, h.tq, h.vis.kept hgr (own_off h.vis hG (by decide)), h.rides.below hb, h.grps.below hb, fun p hp => (Below.heap_setCell w _ _ p.1 ((h.prf p hp).G (by omega))).trans (h.pr p hp), h.prf⟩
  refine (h.gu h0).set hj _ fun a ha b hb => ?_
  show Value.int .i64 (upd2 x.gu i j v a b) = _
  unfold upd2
  split <;> rfl
theorem RfIn.setT (h : RfIn E w x qs uv) {k i : Nat} (hk : k < 5) (hi : i < E.tn k) (v : Int) : RfIn E (w.setCell ⟨E.T k, i, none⟩ (.int .i64 v)) (x.setT k i v) qs uv := by
  have h0 : 0 < E.tn k := by omega
  have hgr := grown_set w ⟨E.T k, i, none⟩ (.int .i64 v)
  have hT := (h.tab k hk h0).ty
  have hb : Below E.base w (w.setCell ⟨E.T k, i, none⟩ (.int .i64 v)) := bel_set (h.bT k hk) _
  refine ⟨h.bv, h.bG, h.bQ, h.bT, Nat.le_trans h.bW hgr.size, h.aG, h.aQ, h.aT, h.pl.far (p := ⟨E.T k, i, none⟩) (h.pl.ty.ne hT (by decide)) _, fun h0 => (h.gu h0).far (p := ⟨E.T k, i, none⟩) ((h.gu h0).ty.ne hT (by decide)) _, fun h0 => (h.qu h0).far (p := ⟨E.T k, i, none⟩) ((h.qu h0).ty.ne hT (by decide)) _, fun r hr => (h.q r hr).kept hgr ?_, h.qd, fun k' hk' h0' => ?_, h.td, h.tq, h.vis.kept hgr (own_off h.vis hT (by decide)), h.rides.below hb, h.grps.below hb, fun p hp => (Below.heap_setCell w _ _ p.1 ((h.prf p hp).T k hk h0)).trans (h.pr p hp), h.prf⟩
  · exact .inr (h.tq k hk h0 r hr)
  · by_cases e : k' = k
    · subst e
      have := (h.tab k' hk' h0').set (i := i) (j := 0) (by omega) (.int .i64 v) (f' := fun i' _ => .int .i64 ((x.setT k' i v).tab k' i')) fun a ha b hb => ?_
      · simpa using this
      · obtain rfl : b = 0 := by omega
        show Value.int .i64 (upd2 x.tab k' i v k' a) = _
        unfold upd2
        by_cases e : a = i
        · simp [e]
        · simp [e]
    · refine ((h.tab k' hk' h0').far (p := ⟨E.T k, i, none⟩) (h.td k' k hk' hk e) _).to fun a ha b hb => ?_
      show Value.int .i64 (upd2 x.tab k i v k' a) = _
      unfold upd2
      rw [if_neg (fun h => e h.1)]
theorem RfIn.setN (h : RfIn E w x qs uv) (n : Int) : RfIn E (w.setCell ⟨E.v, 3, none⟩ (.int .i64 n)) { x with now := n } qs uv := by
  have hgr := grown_set w ⟨E.v, 3, none⟩ (.int .i64 n)
  have hV := h.pl.ty
  have hb : Below E.base w (w.setCell ⟨E.v, 3, none⟩ (.int .i64 n)) := bel_set h.bv _
  exact ⟨h.bv, h.bG, h.bQ, h.bT, Nat.le_trans h.bW hgr.size, h.aG, h.aQ, h.aT, h.pl.set 3 _, fun h0 => (h.gu h0).far (p := ⟨E.v, 3, none⟩) ((h.gu h0).ty.ne hV (by decide)) _, fun h0 => (h.qu h0).far (p := ⟨E.v, 3, none⟩) ((h.qu h0).ty.ne hV (by decide)) _, fun r hr => (h.q r hr).kept hgr (own_off (h.q r hr) hV (by decide)), h.qd, fun k hk h0 => (h.tab k hk h0).far (p := ⟨E.v, 3, none⟩) ((h.tab k hk h0).ty.ne hV (by decide)) _, h.td, h.tq, h.vis.kept hgr (own_off h.vis hV (by decide)), h.rides.below hb, h.grps.below hb, fun p hp => (Below.heap_setCell w _ _ p.1 (h.prf p hp).v).trans (h.pr p hp), h.prf⟩
theorem RfIn.offQ (h : RfIn E w x qs uv) {r g : Nat} {t : TypeId} (hr : r < E.f.rides.length) (hg : TyAt w g t) (ht : 3 ≠ t) : some g ≠ (qs r).ownBlock := fun e => by
  rcases own_off (h.q r hr) hg ht with h1 | h1
  · rw [h1] at e; cases e
  · exact h1 e.symm
theorem RfIn.offV (h : RfIn E w x qs uv) {g : Nat} {t : TypeId} (hg : TyAt w g t) (ht : 57 ≠ t) : some g ≠ uv.ownBlock := fun e => by
  rcases own_off h.vis hg ht with h1 | h1
  · rw [h1] at e; cases e
  · exact h1 e.symm
theorem RfIn.belQ (h : RfIn E w x qs uv) {r : Nat} (hr : r < E.f.rides.length) (hX : w.grownBy X (qs r).ownBlock) : Below E.base w X := (Below.refl _ _).grown hX h.bW fun k hk => ((h.q r hr).lt k hk).1
theorem RfIn.belV (h : RfIn E w x qs uv) (hX : w.grownBy X uv.ownBlock) : Below E.base w X := (Below.refl _ _).grown hX h.bW fun k hk => (h.vis.lt k hk).1
/-- A queue's slice has been made anew, or turned in its own row; then it is stored. -/
theorem RfIn.setQ (h : RfIn E w x qs uv) {r : Nat} {u : Value} {l : List Nat} (hr : r < E.f.rides.length) (hX : w.grownBy X (qs r).ownBlock)
    (ho : X.ownsRow E.base 3 1 u l.length (qL l)) (hu : u.ownBlock = none ∨ u.ownBlock = (qs r).ownBlock ∨ ∃ g, u.ownBlock = some g ∧ w.heap.size ≤ g) :
    RfIn E (X.setCell ⟨E.Q, r, none⟩ u) (x.setQ r l) (fun k => if k = r then u else qs k) uv := by
  have h0 : 0 < E.f.rides.length := by omega
  have hQ0 := (h.qu h0).ty
  have hQX := (h.qu h0).grown hX (h.offQ hr hQ0 (by decide))
  have hQ := hQX.ty
  have hgr := grown_set X ⟨E.Q, r, none⟩ u
  have hbl := h.belQ hr hX
  have hb : Below E.base w (X.setCell ⟨E.Q, r, none⟩ u) := hbl.setCell h.bQ _
  have hold : ∀ k, k < E.f.rides.length → k ≠ r → u.ownBlock = none ∨ ((qs k).ownBlock = none ∨ (qs k).ownBlock ≠ u.ownBlock) := fun k hk hkr => by
    rcases hu with h1 | h1 | ⟨g, h1, h2⟩
    · exact .inl h1
    · rw [h1]; exact .inr (h.qd k r hk hr hkr)
    · refine .inr ?_
      cases hq : (qs k).ownBlock with
      | none => exact .inl rfl
      | some g' =>
        refine .inr fun e => ?_
        rw [h1] at e
        injection e with e
        have := ((h.q k hk).lt g' hq).2
        omega
  refine ⟨h.bv, h.bG, h.bQ, h.bT, Nat.le_trans h.bW (Nat.le_trans hX.size hgr.size), h.aG, h.aQ, h.aT, ?_, fun h0 => ?_, fun _ => ?_, fun k hk => ?_, fun k k' hk hk' hne => ?_, fun k hk h0 => ?_, h.td, fun k hk h0 r' hr' => ?_, ?_, h.rides.below hb, h.grps.below hb, fun p hp => ?_, fun p hp => ⟨(h.prf p hp).v, (h.prf p hp).G, (h.prf p hp).Q, (h.prf p hp).T, fun r' hr' => ?_, (h.prf p hp).u⟩⟩
  · have h1 := h.pl.keep (hX.block _ h.pl.lt (h.offQ hr h.pl.ty (by decide)))
    exact h1.far (p := ⟨E.Q, r, none⟩) (h1.ty.ne hQ (by decide)) u
  · have h1 := (h.gu h0).grown hX (h.offQ hr (h.gu h0).ty (by decide))
    exact h1.far (p := ⟨E.Q, r, none⟩) (h1.ty.ne hQ (by decide)) u
  · have := hQX.set (i := r) (j := 0) (by omega) u (f' := fun k _ => if k = r then u else qs k) fun a ha b hb => ?_
    · simpa using this
    · obtain rfl : b = 0 := by omega
      by_cases e : a = r
      · simp [e]
      · simp [e]
  · show World.ownsRow _ _ _ _ _ ((if k = r then l else x.q k) : List Nat).length (qL (if k = r then l else x.q k))
    by_cases e : k = r
    · subst e
      rw [if_pos rfl, if_pos rfl]
      exact ho.kept hgr (own_off ho hQ (by decide))
    · rw [if_neg e, if_neg e]
      have h1 := (h.q k hk).kept hX (h.qd k r hk hr e)
      exact h1.kept hgr (own_off h1 hQ (by decide))
  · by_cases e : k = r
    · subst e
      rw [if_pos rfl, if_neg (Ne.symm hne)]
      rcases hold k' hk' (Ne.symm hne) with h1 | h1 | h1
      · exact .inl h1
      · cases hu2 : u.ownBlock with
        | none => exact .inl rfl
        | some g => exact .inr (by rw [h1]; exact fun e => by cases e)
      · exact .inr (Ne.symm h1)
    · rw [if_neg e]
      by_cases e' : k' = r
      · subst e'
        rw [if_pos rfl]
        rcases hold k hk e with h1 | h1 | h1
        · cases hq : (qs k).ownBlock with
          | none => exact .inl rfl
          | some g => exact .inr (by rw [h1]; exact fun e => by cases e)
        · exact .inl h1
        · exact .inr h1
      · rw [if_neg e']
        exact h.qd k k' hk hk' hne
  · have h1 := (h.tab k hk h0).grown hX (fun e => h.tq k hk h0 r hr e.symm)
    exact h1.far (p := ⟨E.Q, r, none⟩) (h1.ty.ne hQ (by decide)) u
  · by_cases e : r' = r
    · rw [if_pos e]
      rcases hu with h1 | h1 | ⟨g, h1, h2⟩
      · rw [h1]; exact fun e => by cases e
      · rw [h1]; exact h.tq k hk h0 r hr
      · rw [h1]
        intro e
        injection e with e
        have := (h.tab k hk h0).lt
        omega
    · rw [if_neg e]; exact h.tq k hk h0 r' hr'
  · have h1 : X.ownsRow E.base 57 6 uv x.vis.length (x.vis.flatMap visL) := h.vis.kept hX (by
      cases hv : uv.ownBlock with
      | none => exact .inl rfl
      | some g => exact .inr (h.offQ hr (own_ty h.vis hv) (by decide)))
    exact h1.kept hgr (own_off h1 hQ (by decide))
  · have hlt := (Array.getElem?_eq_some_iff.1 (h.pr p hp)).1
    exact (Below.heap_setCell X _ _ p.1 ((h.prf p hp).Q h0)).trans ((hX.block p.1 hlt (fun e => (h.prf p hp).q r hr e.symm)).trans (h.pr p hp))
  · have hlt := (Array.getElem?_eq_some_iff.1 (h.pr p hp)).1
    by_cases e : r' = r
    · rw [if_pos e]
      rcases hu with h1 | h1 | ⟨g, h1, h2⟩
      · rw [h1]; exact fun e => by cases e
      · rw [h1]; exact (h.prf p hp).q r hr
      · rw [h1]
        intro e
        injection e with e
        omega
    · rw [if_neg e]; exact (h.prf p hp).q r' hr'
/-- A visit has been added to the row of the visits; then the slice is stored. -/
theorem RfIn.setV (h : RfIn E w x qs uv) {u : Value} {v : VisZ} (hX : w.grownBy X uv.ownBlock)
    (ho : X.ownsRow E.base 57 6 u (x.vis.length + 1) (x.vis.flatMap visL ++ visL v)) (hu : u.ownBlock = uv.ownBlock ∨ u.ownBlock = some w.heap.size) :
    RfIn E (X.setCell ⟨E.v, 8, none⟩ u) (x.addV v) qs u := by
  have hv1 := h.pl.keep (hX.block _ h.pl.lt (h.offV h.pl.ty (by decide)))
  have hV := hv1.ty
  have hgr := grown_set X ⟨E.v, 8, none⟩ u
  have hbl := h.belV hX
  have hb : Below E.base w (X.setCell ⟨E.v, 8, none⟩ u) := hbl.setCell h.bv _
  refine ⟨h.bv, h.bG, h.bQ, h.bT, Nat.le_trans h.bW (Nat.le_trans hX.size hgr.size), h.aG, h.aQ, h.aT, hv1.set 8 u, fun h0 => ?_, fun h0 => ?_, fun k hk => ?_, h.qd, fun k hk h0 => ?_, h.td, h.tq, ?_, h.rides.below hb, h.grps.below hb, fun p hp => ?_, fun p hp => ⟨(h.prf p hp).v, (h.prf p hp).G, (h.prf p hp).Q, (h.prf p hp).T, (h.prf p hp).q, ?_⟩⟩
  · have h1 := (h.gu h0).grown hX (h.offV (h.gu h0).ty (by decide))
    exact h1.far (p := ⟨E.v, 8, none⟩) (h1.ty.ne hV (by decide)) u
  · have h1 := (h.qu h0).grown hX (h.offV (h.qu h0).ty (by decide))
    exact h1.far (p := ⟨E.v, 8, none⟩) (h1.ty.ne hV (by decide)) u
  · have h1 : X.ownsRow E.base 3 1 (qs k) (x.q k).length (qL (x.q k)) := (h.q k hk).kept hX (by
      cases hv : (qs k).ownBlock with
      | none => exact .inl rfl
      | some g => exact .inr (h.offV (own_ty (h.q k hk) hv) (by decide)))
    exact h1.kept hgr (own_off h1 hV (by decide))
  · have h1 := (h.tab k hk h0).grown hX (h.offV (h.tab k hk h0).ty (by decide))
    exact h1.far (p := ⟨E.v, 8, none⟩) (h1.ty.ne hV (by decide)) u
  · have h1 : (x.addV v).vis.length = x.vis.length + 1 := by simp [RawR.addV]
    have h2 : (x.addV v).vis.flatMap visL = x.vis.flatMap visL ++ visL v := by simp [RawR.addV]
    rw [h1, h2]
    exact ho.kept hgr (own_off ho hV (by decide))
  · have hlt := (Array.getElem?_eq_some_iff.1 (h.pr p hp)).1
    exact (Below.heap_setCell X _ _ p.1 (h.prf p hp).v).trans ((hX.block p.1 hlt (fun e => (h.prf p hp).u e.symm)).trans (h.pr p hp))
  · have hlt := (Array.getElem?_eq_some_iff.1 (h.pr p hp)).1
    rcases hu with h1 | h1
    · rw [h1]; exact (h.prf p hp).u
    · rw [h1]
      intro e
      injection e with e
      omega
/-- One block more that no step touches, new since then; one less. -/
def RfE.with (E : RfE) (k : Nat) (o : Obj) : RfE := { E with pr := (k, o) :: E.pr }
theorem RfIn.more (h : RfIn E w x qs uv) {k : Nat} {o : Obj} (hk : w.heap.size ≤ k) (hX : Below w.heap.size w X) (ho : X.heap[k]? = some o) : RfIn (E.with k o) X x qs uv := by
  have g := h.grow hX
  refine ⟨g.bv, g.bG, g.bQ, g.bT, g.bW, g.aG, g.aQ, g.aT, g.pl, g.gu, g.qu, g.q, g.qd, g.tab, g.td, g.tq, g.vis, g.rides, g.grps, fun p hp => ?_, fun p hp => ?_⟩
  · rcases List.mem_cons.1 hp with rfl | hp
    · exact ho
    · exact g.pr p hp
  · rcases List.mem_cons.1 hp with rfl | hp
    · refine ⟨?_, fun h0 => ?_, fun h0 => ?_, fun j hj h0 => ?_, fun r hr e => ?_, fun e => ?_⟩
      · have := h.pl.lt; show k ≠ E.v; omega
      · have := (h.gu h0).lt; show k ≠ E.G; omega
      · have := (h.qu h0).lt; show k ≠ E.Q; omega
      · have := (h.tab j hj h0).lt; show k ≠ E.T j; omega
      · have := ((h.q r hr).lt k e).2; omega
      · have := (h.vis.lt k e).2; omega
    · have k := g.prf p hp
      exact ⟨k.v, k.G, k.Q, k.T, k.q, k.u⟩
theorem RfAt.less {k : Nat} {o : Obj} (h : RfAt (E.with k o) w x) : RfAt E w x := by
  obtain ⟨qs, uv, g⟩ := h
  exact ⟨qs, uv, g.bv, g.bG, g.bQ, g.bT, g.bW, g.aG, g.aQ, g.aT, g.pl, g.gu, g.qu, g.q, g.qd, g.tab, g.td, g.tq, g.vis, g.rides, g.grps, fun p hp => g.pr p (List.mem_cons_of_mem _ hp), fun p hp => by
    have k := g.prf p (List.mem_cons_of_mem _ hp)
    exact ⟨k.v, k.G, k.Q, k.T, k.q, k.u⟩⟩
theorem RfAt.have_ {k : Nat} {o : Obj} (h : RfAt (E.with k o) w x) : w.heap[k]? = some o := by
  obtain ⟨qs, uv, g⟩ := h
  exact g.pr (k, o) List.mem_cons_self
/-- The cells of the play. -/
theorem RfIn.pc (h : RfIn E w x qs uv) : w.cell? ⟨E.v, 0, none⟩ = some (.slice E.A E.f.rides.length E.c) ∧ w.cell? ⟨E.v, 1, none⟩ = some (.int .i64 E.f.walk) ∧ w.cell? ⟨E.v, 2, none⟩ = some (.slice E.A2 E.l.length E.c2) ∧ w.cell? ⟨E.v, 3, none⟩ = some (.int .i64 x.now) ∧ w.cell? ⟨E.v, 8, none⟩ = some uv ∧ E.v < w.heap.size :=
  ⟨h.pl.cell (j := 0) (by simp [rfL]), h.pl.cell (j := 1) (by simp [rfL]), h.pl.cell (j := 2) (by simp [rfL]), h.pl.cell (j := 3) (by simp [rfL]), h.pl.cell (j := 8) (by simp [rfL]), h.pl.lt⟩
theorem RfIn.pG (h : RfIn E w x qs uv) (h0 : 0 < E.l.length) : w.cell? ⟨E.v, 4, none⟩ = some (.slice (some ⟨E.G, 0, none⟩) E.l.length E.cG) := by
  rw [← h.aG h0]; exact h.pl.cell (j := 4) (by simp [rfL])
theorem RfIn.pQ (h : RfIn E w x qs uv) (h0 : 0 < E.f.rides.length) : w.cell? ⟨E.v, 5, none⟩ = some (.slice (some ⟨E.Q, 0, none⟩) E.f.rides.length E.cQ) := by
  rw [← h.aQ h0]; exact h.pl.cell (j := 5) (by simp [rfL])
theorem RfE.sT_eq {E : RfE} {k : Nat} {a : Addr} {n : Nat} (h : E.aT k = some a) (hn : E.tn k = n) : E.sT k = .slice (some a) n (E.cT k) := by unfold RfE.sT; rw [h, hn]
theorem RfIn.pB (h : RfIn E w x qs uv) (h0 : 0 < E.f.rides.length) : w.cell? ⟨E.v, 6, none⟩ = some (.slice (some ⟨E.T 0, 0, none⟩) E.f.rides.length (E.cT 0)) := by
  rw [← RfE.sT_eq (n := E.f.rides.length) (h.aT 0 (by omega) h0) rfl]; exact h.pl.cell (j := 6) (by simp [rfL])
theorem RfIn.pE (h : RfIn E w x qs uv) (h0 : 0 < E.f.rides.length) : w.cell? ⟨E.v, 7, none⟩ = some (.slice (some ⟨E.T 1, 0, none⟩) E.f.rides.length (E.cT 1)) := by
  rw [← RfE.sT_eq (n := E.f.rides.length) (h.aT 1 (by omega) h0) rfl]; exact h.pl.cell (j := 7) (by simp [rfL])
theorem RfIn.pT (h : RfIn E w x qs uv) (h0 : 0 < E.f.rides.length) : w.cell? ⟨E.v, 9, none⟩ = some (.slice (some ⟨E.T 2, 0, none⟩) E.f.rides.length (E.cT 2)) := by
  rw [← RfE.sT_eq (n := E.f.rides.length) (h.aT 2 (by omega) h0) rfl]; exact h.pl.cell (j := 9) (by simp [rfL])
theorem RfIn.pL (h : RfIn E w x qs uv) (h0 : 0 < E.f.rides.length) : w.cell? ⟨E.v, 10, none⟩ = some (.slice (some ⟨E.T 3, 0, none⟩) E.f.rides.length (E.cT 3)) := by
  rw [← RfE.sT_eq (n := E.f.rides.length) (h.aT 3 (by omega) h0) rfl]; exact h.pl.cell (j := 10) (by simp [rfL])
theorem RfIn.pH (h : RfIn E w x qs uv) (h0 : 0 < E.l.length) : w.cell? ⟨E.v, 11, none⟩ = some (.slice (some ⟨E.T 4, 0, none⟩) E.l.length (E.cT 4)) := by
  rw [← RfE.sT_eq (n := E.l.length) (h.aT 4 (by omega) h0) rfl]; exact h.pl.cell (j := 11) (by simp [rfL])
theorem RfIn.gc (h : RfIn E w x qs uv) {i : Nat} (hi : i < E.l.length) : w.cell? ⟨E.G, i * 4, none⟩ = some (.int .i64 (x.gu i 0)) ∧ w.cell? ⟨E.G, i * 4 + 1, none⟩ = some (.int .i64 (x.gu i 1)) ∧ w.cell? ⟨E.G, i * 4 + 2, none⟩ = some (.int .i64 (x.gu i 2)) ∧ w.cell? ⟨E.G, i * 4 + 3, none⟩ = some (.int .i64 (x.gu i 3)) ∧ E.G < w.heap.size :=
  have k := h.gu (by omega)
  ⟨k.cell0 hi (by omega), k.cell hi (j := 1) (by omega), k.cell hi (j := 2) (by omega), k.cell hi (j := 3) (by omega), k.lt⟩
theorem RfIn.qc (h : RfIn E w x qs uv) {r : Nat} (hr : r < E.f.rides.length) : w.cell? ⟨E.Q, r, none⟩ = some (qs r) ∧ E.Q < w.heap.size := by
  have k := h.qu (by omega)
  exact ⟨by simpa using k.cell0 hr (by omega), k.lt⟩
theorem RfIn.tc (h : RfIn E w x qs uv) {k i : Nat} (hk : k < 5) (hi : i < E.tn k) : w.cell? ⟨E.T k, i, none⟩ = some (.int .i64 (x.tab k i)) ∧ E.T k < w.heap.size ∧ ∀ j, w.frozen? ⟨E.T k, j, none⟩ = false := by
  have b := h.tab k hk (by omega)
  exact ⟨by simpa using b.cell0 hi (by omega), b.lt, b.frozen⟩
theorem RfIn.frG (h : RfIn E w x qs uv) {i : Nat} (hi : i < E.l.length) (k : Nat) : w.frozen? ⟨E.G, k, none⟩ = false := (h.gu (by omega)).frozen k
theorem RfIn.frQ (h : RfIn E w x qs uv) {r : Nat} (hr : r < E.f.rides.length) (k : Nat) : w.frozen? ⟨E.Q, k, none⟩ = false := (h.qu (by omega)).frozen k
theorem RfIn.frv (h : RfIn E w x qs uv) (k : Nat) : w.frozen? ⟨E.v, k, none⟩ = false := h.pl.frozen k
theorem RfIn.atQ (h : RfIn E w x qs uv) {r : Nat} (hr : r < E.f.rides.length) (hX : w.grownBy X (qs r).ownBlock) : X.frozen? ⟨E.Q, r, none⟩ = false ∧ X.cell? ⟨E.Q, r, none⟩ = some (qs r) ∧ E.Q < X.heap.size := by
  have k := (h.qu (by omega)).grown hX (h.offQ hr (h.qu (by omega)).ty (by decide))
  exact ⟨k.frozen _, by simpa using k.cell0 hr (by omega), k.lt⟩
theorem RfIn.atV (h : RfIn E w x qs uv) (hX : w.grownBy X uv.ownBlock) : X.frozen? ⟨E.v, 8, none⟩ = false ∧ X.cell? ⟨E.v, 8, none⟩ = some uv ∧ E.v < X.heap.size := by
  have k := h.pl.keep (hX.block _ h.pl.lt (h.offV h.pl.ty (by decide)))
  exact ⟨k.frozen _, k.cell (j := 8) (by simp [rfL]), k.lt⟩
/-- A group's cells among the arguments. -/
theorem RfIn.lc (h : RfIn E w x qs uv) {i : Nat} (hi : i < E.l.length) : ∃ b o, E.A2 = some ⟨b, o, none⟩ ∧ b < w.heap.size ∧ w.cell? ⟨b, o + i * 5, none⟩ = some (.int .i64 (E.l.getD i default).at_) ∧ w.cell? ⟨b, o + i * 5 + 1, none⟩ = some (.int .i64 (E.l.getD i default).size) ∧ w.cell? ⟨b, o + i * 5 + 2, none⟩ = some (.int .i64 (E.l.getD i default).tokens) ∧ w.cell? ⟨b, o + i * 5 + 3, none⟩ = some (.slice (E.rs.getD i default).1 (E.l.getD i default).wants.length (E.rs.getD i default).2) ∧ w.cell? ⟨b, o + i * 5 + 4, none⟩ = some (.int .i64 (E.l.getD i default).patience) := by
  obtain ⟨b, o, e, hb, hc⟩ := h.grps.outer (by omega)
  exact ⟨b, o, e, Nat.lt_of_lt_of_le hb h.bW, hc i hi⟩
/-- The wish that a group goes after, in memory. -/
def RfE.goal (E : RfE) (i : Nat) (w : Int) : Nat := ((E.l.getD i default).wants.getD w.toNat 0).toNat
theorem RfIn.wish (h : RfIn E w x qs uv) {i : Nat} (hi : i < E.l.length) (hv : ∀ z ∈ (E.l.getD i default).wants, 0 ≤ z ∧ z < (E.f.rides.length : Int)) (h0 : 0 ≤ x.gu i 1) (h1 : x.gu i 1 < ((E.l.getD i default).wants.length : Int)) :
    ∃ b o k, x.gu i 1 = ((k : Nat) : Int) ∧ k < (E.l.getD i default).wants.length ∧ (E.rs.getD i default).1 = some ⟨b, o, none⟩ ∧ b < w.heap.size ∧ w.cell? ⟨b, o + k, none⟩ = some (.int .i64 (E.goal i (x.gu i 1) : Int)) ∧ E.goal i (x.gu i 1) < E.f.rides.length := by
  obtain ⟨k, hk⟩ := Int.eq_ofNat_of_zero_le h0
  have hkl : k < (E.l.getD i default).wants.length := by omega
  obtain ⟨b, o, e, hb, hc⟩ := (h.grps.inner i hi).at1 hkl
  have hw := hv _ (List.getElem_mem hkl)
  have hgo : E.goal i (x.gu i 1) = (E.l.getD i default).wants[k].toNat := by
    unfold RfE.goal
    rw [hk, Int.toNat_natCast, List.getD_eq_getElem?_getD (l := (E.l.getD i default).wants), List.getElem?_eq_getElem hkl]
    rfl
  refine ⟨b, o, k, hk, hkl, e, Nat.lt_of_lt_of_le hb h.bW, ?_, by omega⟩
  rw [hc k hkl, List.getElem?_eq_getElem hkl, hgo]
  show some (Value.int .i64 (E.l.getD i default).wants[k]) = _
  congr 2
  omega
end
end Go.Proofs.Ytijbhcdnbaaobaa
