/- Contract of the specification's played. Conditions: a valid evening with its groups, which read as data. -/
import Derived.Test.YtijbhcdnbaaobaaDg
import Derived.Test.YtijbhcdnbaaobaaJx
import Derived.Deep.OwnRows
namespace Go.Proofs.Ytijbhcdnbaaobaa
open Go.RowKit

theorem blk_mk {w : World} {M : Array Value} {z : Value} {e : TypeId} {n : Nat} (hM : M.toList = List.replicate n z) : Blk (w.alloc (.cells M e)) w.heap.size e n 1 (fun _ _ => z) := by
  have hs : M.size = n := by rw [← Array.length_toList, hM]; simp
  refine ⟨M, heap_alloc_new _ _, by omega, fun i hi j hj => ?_⟩
  obtain rfl : j = 0 := by omega
  rw [Nat.mul_one, Nat.add_zero, ← Array.getElem?_toList, hM, List.getElem?_replicate, if_pos hi]
theorem Try.info_intP : (Try.prog.info? 3).map (fun i => (i.zero, i.size, i.bytes)) = some (some (.int .i64 0), 1, 8) := by kernel_rfl
theorem Try.info_slP : (Try.prog.info? 37).map (fun i => (i.zero, i.size, i.bytes)) = some (some (.slice none 0 0), 1, 24) := by kernel_rfl
theorem mk_rep (z : Value) (n : Nat) : (madeCells #[z] n).toList = List.replicate n z := by
  refine List.ext_getElem? fun i => ?_
  simp only [madeCells, List.getElem?_replicate, Array.getElem?_toList, Array.getElem?_map, Array.getElem?_range]
  by_cases hi : i < n
  · simp [hi, Nat.mod_one]
  · simp [hi]
theorem run_mkI (n : Nat) (hn : n ≤ 100) (w : World) : ∃ M : Array Value, M.toList = List.replicate n (.int .i64 0) ∧ (Instr.makeSlice 37 (.int .i64 (n : Int)) (.int .i64 (n : Int))).run Try.prog w = .ok (.slice (some ⟨w.heap.size, 0, none⟩) n n) (w.alloc (.cells M 3)) :=
  ⟨_, mk_rep _ n, run_make_row' _ _ _ _ Try.underlying37 Try.info_intP rfl .i64 .i64 n (by omega) (by omega) w⟩
theorem run_mkQ (n : Nat) (hn : n ≤ 100) (w : World) : ∃ M : Array Value, M.toList = List.replicate n (.slice none 0 0) ∧ (Instr.makeSlice 69 (.int .i64 (n : Int)) (.int .i64 (n : Int))).run Try.prog w = .ok (.slice (some ⟨w.heap.size, 0, none⟩) n n) (w.alloc (.cells M 37)) :=
  ⟨_, mk_rep _ n, run_make_row' _ _ _ _ Try.underlying69 Try.info_slP rfl .i64 .i64 n (by omega) (by omega) w⟩
def isT (i : Nat) : Bool := i == 5 || i == 7 || i == 9 || i == 11 || i == 14
def lenT (n m i : Nat) : Nat := if i = 14 then m else n
/-- The five rows of numbers that have come up. -/
structure MkI (B n m : Nat) (done : Nat → Bool) (xs : Nat → Value) (y : World) : Prop where
  at_ : ∀ i, isT i = true → done i = true → ∃ g : Nat, xs i = .slice (some ⟨g, 0, none⟩) (lenT n m i) (lenT n m i) ∧ B ≤ g ∧ Blk y g 3 (lenT n m i) 1 (fun _ _ => .int .i64 0)
  ne : ∀ i j, isT i = true → isT j = true → done i = true → done j = true → i ≠ j → (xs i).ownBlock ≠ (xs j).ownBlock
theorem MkI.start (B n m : Nat) (xs : Nat → Value) (y : World) : MkI B n m (fun _ => false) xs y := ⟨fun _ _ h => Bool.noConfusion h, fun _ _ _ _ h => Bool.noConfusion h⟩
section
variable {B n m : Nat} {done : Nat → Bool} {xs : Nat → Value} {y z : World}
theorem MkI.keep (h : MkI B n m done xs y) {k : Nat} (hb : Below y.heap.size y z) (hk : isT k = false) (v : Value) : MkI B n m (setD done k) (setX xs k v) z := by
  have hd : ∀ i, isT i = true → setD done k i = done i ∧ setX xs k v i = xs i := fun i hi => by
    have : i ≠ k := fun e => by rw [e, hk] at hi; cases hi
    exact ⟨if_neg this, if_neg this⟩
  refine ⟨fun i hi hdi => ?_, fun i j hi hj hdi hdj hne => ?_⟩
  · rw [(hd i hi).1] at hdi
    rw [(hd i hi).2]
    obtain ⟨g, h1, h2, h3⟩ := h.at_ i hi hdi
    exact ⟨g, h1, h2, h3.below hb h3.lt⟩
  · rw [(hd i hi).1] at hdi
    rw [(hd j hj).1] at hdj
    rw [(hd i hi).2, (hd j hj).2]
    exact h.ne i j hi hj hdi hdj hne
theorem MkI.new (h : MkI B n m done xs y) {k : Nat} (hB : B ≤ y.heap.size) (hk : isT k = true) (N : Nat) (hN : N = lenT n m k) {M : Array Value} (hM : M.toList = List.replicate N (.int .i64 0)) : MkI B n m (setD done k) (setX xs k (.slice (some ⟨y.heap.size, 0, none⟩) N N)) (y.alloc (.cells M 3)) := by
  have hb : Below y.heap.size y (y.alloc (.cells M 3)) := (Below.refl _ _).alloc (Nat.le_refl _) _
  have hd : ∀ i, i ≠ k → setD done k i = done i ∧ setX xs k (.slice (some ⟨y.heap.size, 0, none⟩) N N) i = xs i := fun i hi => ⟨if_neg hi, if_neg hi⟩
  have hn : setX xs k (.slice (some ⟨y.heap.size, 0, none⟩) N N) k = .slice (some ⟨y.heap.size, 0, none⟩) N N := if_pos rfl
  have hold : ∀ i, isT i = true → done i = true → (xs i).ownBlock ≠ some y.heap.size := fun i hi hdi e => by
    obtain ⟨g, h1, h2, h3⟩ := h.at_ i hi hdi
    rw [h1] at e
    simp only [Value.ownBlock, Option.some.injEq] at e
    have := h3.lt
    omega
  refine ⟨fun i hi hdi => ?_, fun i j hi hj hdi hdj hne => ?_⟩
  · by_cases e : i = k
    · subst e
      rw [hn, hN]
      exact ⟨_, rfl, hB, by rw [hN] at hM; exact blk_mk hM⟩
    · rw [(hd i e).1] at hdi
      rw [(hd i e).2]
      obtain ⟨g, h1, h2, h3⟩ := h.at_ i hi hdi
      exact ⟨g, h1, h2, h3.below hb h3.lt⟩
  · by_cases ei : i = k
    · subst ei
      have ej : j ≠ i := fun e => hne e.symm
      rw [(hd j ej).1] at hdj
      rw [hn, (hd j ej).2]
      exact fun e => hold j hj hdj e.symm
    · rw [(hd i ei).1] at hdi
      rw [(hd i ei).2]
      by_cases ej : j = k
      · subst ej
        rw [hn]
        exact hold i hi hdi
      · rw [(hd j ej).1] at hdj
        rw [(hd j ej).2]
        exact h.ne i j hi hj hdi hdj hne
end
structure PyI (U : World) (f : EveZ) (l : List GrpZ) (A A2 : Option Addr) (c c2 : Nat) (done : Nat → Bool) (xs : Nat → Value) (y : World) : Prop where
  b : Below U.heap.size U y
  ms : MkI U.heap.size f.rides.length l.length done xs y
  m3 : done 3 = true → ∃ g : Nat, xs 3 = .slice (some ⟨g, 0, none⟩) f.rides.length f.rides.length ∧ U.heap.size ≤ g ∧ Blk y g 37 f.rides.length 1 (fun _ _ => .slice none 0 0)
  m16 : done 16 = true → ∃ g : Nat, xs 16 = .pointer (some ⟨g, 0, none⟩) ∧ U.heap.size ≤ g ∧ Row y g 71 [.slice A f.rides.length c, .int .i64 f.walk, .slice A2 l.length c2, .int .i64 0, .slice none 0 0, xs 3, xs 5, xs 7, .slice none 0 0, xs 9, xs 11, xs 14]
  v0 : done 0 = true → xs 0 = .agg #[.slice A f.rides.length c, .int .i64 f.walk]
  v1 : done 1 = true → xs 1 = .slice A2 l.length c2
  v2 : done 2 = true → xs 2 = .int .i64 (f.rides.length : Int)
  v4 : done 4 = true → xs 4 = .int .i64 (f.rides.length : Int)
  v6 : done 6 = true → xs 6 = .int .i64 (f.rides.length : Int)
  v8 : done 8 = true → xs 8 = .int .i64 (f.rides.length : Int)
  v10 : done 10 = true → xs 10 = .int .i64 (f.rides.length : Int)
  v12 : done 12 = true → xs 12 = .slice A2 l.length c2
  v13 : done 13 = true → xs 13 = .int .i64 (l.length : Int)
  v15 : done 15 = true → xs 15 = .agg #[.slice A f.rides.length c, .int .i64 f.walk, .slice A2 l.length c2, .int .i64 0, .slice none 0 0, xs 3, xs 5, xs 7, .slice none 0 0, xs 9, xs 11, xs 14]
  v17 : done 17 = true → xs 17 = xs 16

/-- The play as played has made it. -/
structure Py0 (w : World) (f : EveZ) (l : List GrpZ) (A A2 : Option Addr) (c c2 v Q : Nat) (T : Nat → Nat) (y : World) : Prop where
  b : Below w.heap.size w y
  lv : w.heap.size ≤ v
  lQ : w.heap.size ≤ Q
  lT : ∀ k, k < 5 → w.heap.size ≤ T k
  pl : Row y v 71 [.slice A f.rides.length c, .int .i64 f.walk, .slice A2 l.length c2, .int .i64 0, .slice none 0 0, .slice (some ⟨Q, 0, none⟩) f.rides.length f.rides.length, .slice (some ⟨T 0, 0, none⟩) f.rides.length f.rides.length, .slice (some ⟨T 1, 0, none⟩) f.rides.length f.rides.length, .slice none 0 0, .slice (some ⟨T 2, 0, none⟩) f.rides.length f.rides.length, .slice (some ⟨T 3, 0, none⟩) f.rides.length f.rides.length, .slice (some ⟨T 4, 0, none⟩) l.length l.length]
  qu : Blk y Q 37 f.rides.length 1 (fun _ _ => .slice none 0 0)
  tab : ∀ k, k < 5 → Blk y (T k) 3 (if k = 4 then l.length else f.rides.length) 1 (fun _ _ => .int .i64 0)
  td : ∀ k k', k < 5 → k' < 5 → k ≠ k' → T k ≠ T k'
def slotT (k : Nat) : Nat := if k = 0 then 5 else if k = 1 then 7 else if k = 2 then 9 else if k = 3 then 11 else 14
theorem slot_ok : ∀ k, k < 5 → isT (slotT k) = true ∧ ((slotT k = 14) ↔ k = 4) ∧ slotT k < 18 := by decide
theorem slot_inj : ∀ k, k < 5 → ∀ k', k' < 5 → slotT k = slotT k' → k = k' := by decide
theorem py_start {w U : World} {f : EveZ} {l : List GrpZ} {A A2 : Option Addr} {c c2 : Nat} {done : Nat → Bool} {xs : Nat → Value} {y : World} (hU : Below w.heap.size w U) (h : PyI U f l A A2 c c2 done xs y) (hd : ∀ j, j < 18 → done j = true) :
    ∃ v Q T, xs 17 = .pointer (some ⟨v, 0, none⟩) ∧ Py0 w f l A A2 c c2 v Q T y := by
  obtain ⟨v, e16, lv, hr⟩ := h.m16 (hd 16 (by decide))
  obtain ⟨Q, e3, lQ, hq⟩ := h.m3 (hd 3 (by decide))
  have hT : ∀ k, k < 5 → ∃ g : Nat, xs (slotT k) = .slice (some ⟨g, 0, none⟩) (if k = 4 then l.length else f.rides.length) (if k = 4 then l.length else f.rides.length) ∧ U.heap.size ≤ g ∧ Blk y g 3 (if k = 4 then l.length else f.rides.length) 1 (fun _ _ => .int .i64 0) := fun k hk => by
    obtain ⟨h1, h2, h3⟩ := slot_ok k hk
    have := h.ms.at_ _ h1 (hd _ h3)
    have hl : lenT f.rides.length l.length (slotT k) = if k = 4 then l.length else f.rides.length := by
      unfold lenT
      by_cases e : k = 4
      · rw [if_pos e, if_pos (h2.2 e)]
      · rw [if_neg e, if_neg (fun h => e (h2.1 h))]
    rw [hl] at this
    exact this
  have hc : ∃ T : Nat → Nat, ∀ k, k < 5 → xs (slotT k) = .slice (some ⟨T k, 0, none⟩) (if k = 4 then l.length else f.rides.length) (if k = 4 then l.length else f.rides.length) ∧ U.heap.size ≤ T k ∧ Blk y (T k) 3 (if k = 4 then l.length else f.rides.length) 1 (fun _ _ => .int .i64 0) := by
    refine ⟨fun k => if h : k < 5 then (hT k h).choose else 0, fun k hk => ?_⟩
    simp only [dif_pos hk]
    exact (hT k hk).choose_spec
  obtain ⟨T, hT⟩ := hc
  have e0 := (hT 0 (by omega)).1
  have e1 := (hT 1 (by omega)).1
  have e2 := (hT 2 (by omega)).1
  have e4 := (hT 3 (by omega)).1
  have e5 := (hT 4 (by omega)).1
  refine ⟨v, Q, T, (h.v17 (hd 17 (by decide))).trans e16, hU.trans (h.b.mono hU.size), Nat.le_trans hU.size lv, Nat.le_trans hU.size lQ, fun k hk => Nat.le_trans hU.size (hT k hk).2.1, ?_, hq, fun k hk => (hT k hk).2.2, fun k k' hk hk' hne e => ?_⟩
  · have h5 : xs 5 = .slice (some ⟨T 0, 0, none⟩) f.rides.length f.rides.length := e0
    have h7 : xs 7 = .slice (some ⟨T 1, 0, none⟩) f.rides.length f.rides.length := e1
    have h9 : xs 9 = .slice (some ⟨T 2, 0, none⟩) f.rides.length f.rides.length := e2
    have h11 : xs 11 = .slice (some ⟨T 3, 0, none⟩) f.rides.length f.rides.length := e4
    have h14 : xs 14 = .slice (some ⟨T 4, 0, none⟩) l.length l.length := e5
    rw [← e3, ← h5, ← h7, ← h9, ← h11, ← h14]
    exact hr
  · refine h.ms.ne (slotT k) (slotT k') (slot_ok k hk).1 (slot_ok k' hk').1 (hd _ (slot_ok k hk).2.2) (hd _ (slot_ok k' hk').2.2) (fun e' => hne (slot_inj k hk k' hk' e')) ?_
    rw [(hT k hk).1, (hT k' hk').1]
    simp [Value.ownBlock, e]
/-- The guests that have been laid, the play around them, and what has been written into the tables. -/
def guL (l : List GrpZ) (j : Nat) : List Value := (List.range j).flatMap fun i => [.int .i64 0, .int .i64 (-1), .int .i64 0, .int .i64 (l.getD i default).tokens]
theorem guL_succ (l : List GrpZ) (j : Nat) : guL l (j + 1) = guL l j ++ [.int .i64 0, .int .i64 (-1), .int .i64 0, .int .i64 (l.getD j default).tokens] := by
  unfold guL
  rw [List.range_succ, List.flatMap_append]
  simp
structure PyC where
  f : EveZ
  l : List GrpZ
  A : Option Addr
  A2 : Option Addr
  c : Nat
  c2 : Nat
  v : Nat
  Q : Nat
  T : Nat → Nat
def PyC.tn (C : PyC) (k : Nat) : Nat := if k = 4 then C.l.length else C.f.rides.length
def PyC.plL (C : PyC) (ug : Value) : List Value := [.slice C.A C.f.rides.length C.c, .int .i64 C.f.walk, .slice C.A2 C.l.length C.c2, .int .i64 0, ug, .slice (some ⟨C.Q, 0, none⟩) C.f.rides.length C.f.rides.length, .slice (some ⟨C.T 0, 0, none⟩) C.f.rides.length C.f.rides.length, .slice (some ⟨C.T 1, 0, none⟩) C.f.rides.length C.f.rides.length, .slice none 0 0, .slice (some ⟨C.T 2, 0, none⟩) C.f.rides.length C.f.rides.length, .slice (some ⟨C.T 3, 0, none⟩) C.f.rides.length C.f.rides.length, .slice (some ⟨C.T 4, 0, none⟩) C.l.length C.l.length]
structure LayP (w : World) (C : PyC) (wr : World) (ug : Value) (tab : Nat → Nat → Int) (j : Nat) : Prop where
  b : Below w.heap.size w wr
  lv : w.heap.size ≤ C.v
  lQ : w.heap.size ≤ C.Q
  lT : ∀ k, k < 5 → w.heap.size ≤ C.T k
  pl : Row wr C.v 71 (C.plL ug)
  qu : Blk wr C.Q 37 C.f.rides.length 1 (fun _ _ => .slice none 0 0)
  tab : ∀ k, k < 5 → Blk wr (C.T k) 3 (C.tn k) 1 (fun i _ => .int .i64 (tab k i))
  td : ∀ k k', k < 5 → k' < 5 → k ≠ k' → C.T k ≠ C.T k'
  gu : wr.ownsRow w.heap.size 86 4 ug j (guL C.l j)
section
variable {w wr X : World} {C : PyC} {ug u : Value} {tab : Nat → Nat → Int} {j : Nat}
theorem LayP.grow (h : LayP w C wr ug tab j) (hb : Below wr.heap.size wr X) : LayP w C X ug tab j :=
  ⟨h.b.trans (hb.mono h.b.size), h.lv, h.lQ, h.lT, h.pl.below hb h.pl.lt, h.qu.below hb h.qu.lt, fun k hk => (h.tab k hk).below hb (h.tab k hk).lt, h.td, own_keep h.gu hb⟩
theorem LayP.setT (h : LayP w C wr ug tab j) {k i : Nat} (hk : k < 5) (hi : i < C.tn k) (v : Int) : LayP w C (wr.setCell ⟨C.T k, i, none⟩ (.int .i64 v)) ug (upd2 tab k i v) j := by
  have hT := (h.tab k hk).ty
  have hgr := grown_set wr ⟨C.T k, i, none⟩ (.int .i64 v)
  refine ⟨h.b.setCell (p := ⟨C.T k, i, none⟩) (h.lT k hk) _, h.lv, h.lQ, h.lT, h.pl.far (p := ⟨C.T k, i, none⟩) (h.pl.ty.ne hT (by decide)) _, h.qu.far (p := ⟨C.T k, i, none⟩) (h.qu.ty.ne hT (by decide)) _, fun k' hk' => ?_, h.td, h.gu.kept hgr (own_off h.gu hT (by decide))⟩
  by_cases e : k' = k
  · subst e
    have := (h.tab k' hk').set (i := i) (j := 0) (by omega) (.int .i64 v) (f' := fun i' _ => .int .i64 (upd2 tab k' i v k' i')) fun a ha b hb => ?_
    · simpa using this
    · obtain rfl : b = 0 := by omega
      unfold upd2
      by_cases e : a = i
      · simp [e]
      · simp [e]
  · refine ((h.tab k' hk').far (p := ⟨C.T k, i, none⟩) (h.td k' k hk' hk e) _).to fun a ha b hb => ?_
    unfold upd2
    rw [if_neg (fun h => e h.1)]
theorem LayP.offG (h : LayP w C wr ug tab j) {g : Nat} {t : TypeId} (hg : TyAt wr g t) (ht : 86 ≠ t) : some g ≠ ug.ownBlock := fun e => by
  rcases own_off h.gu hg ht with h1 | h1
  · rw [h1] at e; cases e
  · exact h1 e.symm
theorem LayP.plG (h : LayP w C wr ug tab j) (hX : wr.grownBy X ug.ownBlock) : Row X C.v 71 (C.plL ug) := h.pl.keep (hX.block _ h.pl.lt (h.offG h.pl.ty (by decide)))
theorem LayP.addG (h : LayP w C wr ug tab j) (hX : wr.grownBy X ug.ownBlock) (ho : X.ownsRow w.heap.size 86 4 u (j + 1) (guL C.l (j + 1))) : LayP w C (X.setCell ⟨C.v, 4, none⟩ u) u tab (j + 1) := by
  have hp := h.plG hX
  have hV := hp.ty
  have hgr := grown_set X ⟨C.v, 4, none⟩ u
  have hb : Below w.heap.size w X := h.b.grown hX h.b.size fun k hk => (h.gu.lt k hk).1
  refine ⟨hb.setCell (p := ⟨C.v, 4, none⟩) h.lv _, h.lv, h.lQ, h.lT, hp.set 4 u, ?_, fun k hk => ?_, h.td, ho.kept hgr (own_off ho hV (by decide))⟩
  · have h1 := h.qu.grown hX (h.offG h.qu.ty (by decide))
    exact h1.far (p := ⟨C.v, 4, none⟩) (h1.ty.ne hV (by decide)) u
  · have h1 := (h.tab k hk).grown hX (h.offG (h.tab k hk).ty (by decide))
    exact h1.far (p := ⟨C.v, 4, none⟩) (h1.ty.ne hV (by decide)) u
def tabS (_ _ r j : Nat) (k i : Nat) : Int := if k < 2 ∧ i < r ∨ k = 4 ∧ i < j then -1 else 0
def raw0 (f : EveZ) (l : List GrpZ) : RawR := ⟨0, fun i j => if j = 1 then -1 else if j = 3 then (l.getD i default).tokens else 0, fun _ => [], tabS 0 0 f.rides.length l.length, []⟩
theorem tabS_r (n m r j : Nat) : upd2 (upd2 (tabS n m r j) 0 r (-1)) 1 r (-1) = tabS n m (r + 1) j := by
  funext k i
  unfold upd2 tabS
  by_cases h1 : k = 1 ∧ i = r
  · rw [if_pos h1, if_pos (.inl (by omega))]
  · rw [if_neg h1]
    by_cases h0 : k = 0 ∧ i = r
    · rw [if_pos h0, if_pos (.inl (by omega))]
    · rw [if_neg h0]
      have : (k < 2 ∧ i < r ∨ k = 4 ∧ i < j) ↔ (k < 2 ∧ i < r + 1 ∨ k = 4 ∧ i < j) := by omega
      simp only [this]
theorem tabS_j (n m r j : Nat) : upd2 (tabS n m r j) 4 j (-1) = tabS n m r (j + 1) := by
  funext k i
  unfold upd2 tabS
  by_cases h1 : k = 4 ∧ i = j
  · rw [if_pos h1, if_pos (.inr (by omega))]
  · rw [if_neg h1]
    have : (k < 2 ∧ i < r ∨ k = 4 ∧ i < j) ↔ (k < 2 ∧ i < r ∨ k = 4 ∧ i < j + 1) := by omega
    simp only [this]
theorem LayP.toRf (h : LayP w C wr ug (tabS 0 0 C.f.rides.length C.l.length) C.l.length) {rs : List (Option Addr × Nat)} (hr : Reads w w.heap.size 5 C.A C.f.rides.length (bthCells C.f.rides)) (hl : GrpsIn w w.heap.size C.A2 rs C.l) :
    ∃ E : RfE, E.v = C.v ∧ E.base = w.heap.size ∧ E.f = C.f ∧ E.l = C.l ∧ RfAt E wr (raw0 C.f C.l) := by
  obtain ⟨uA, uc, rfl⟩ := own_slice h.gu
  have hG : ∃ G, w.heap.size ≤ G ∧ (0 < C.l.length → uA = some ⟨G, 0, none⟩) := by
    rcases Nat.eq_zero_or_pos C.l.length with h0 | h0
    · exact ⟨w.heap.size, Nat.le_refl _, fun h1 => by omega⟩
    · obtain ⟨g, cap, cur, e, hg, -⟩ := own_row3 h.gu h0
      injection e with e1 e2 e3
      exact ⟨g, hg, fun _ => e1⟩
  obtain ⟨G, hG1, hG2⟩ := hG
  refine ⟨⟨w.heap.size, C.v, G, C.Q, C.T, C.A, C.A2, C.c, C.c2, rs, uA, some ⟨C.Q, 0, none⟩, fun k => some ⟨C.T k, 0, none⟩, uc, C.f.rides.length, C.tn, C.f, C.l, []⟩, rfl, rfl, rfl, rfl, fun _ => .slice none 0 0, .slice none 0 0, h.lv, hG1, h.lQ, h.lT, h.b.size, hG2, fun _ => rfl, fun _ _ _ => rfl, h.pl, fun h0 => ?_, fun _ => h.qu, fun _ _ => World.ownsRow_nil _ _ _ _, fun _ _ _ _ _ => .inl rfl, fun k hk _ => h.tab k hk, h.td, fun _ _ _ _ _ e => (by cases e), World.ownsRow_nil _ _ _ _, hr.below h.b, hl.below h.b, fun _ hp => (List.not_mem_nil hp).elim, fun _ hp => (List.not_mem_nil hp).elim⟩
  have hgu := h.gu
  have e := hG2 h0
  subst e
  have hlen : (guL C.l C.l.length).length = C.l.length * 4 := by
    have := flat_len (fun i => [Value.int .i64 0, .int .i64 (-1), .int .i64 0, .int .i64 (C.l.getD i default).tokens]) 4 (fun _ => rfl) (List.range C.l.length)
    rw [List.length_range] at this
    exact this
  refine (Blk.of_own hgu hlen fun i hi j hj => ?_).1
  have h1 := flat_at (fun i => [Value.int .i64 0, .int .i64 (-1), .int .i64 0, .int .i64 (C.l.getD i default).tokens]) 4 (fun _ => rfl) 0 (List.range C.l.length) i (by simpa using hi) j hj
  have h2 : (List.range C.l.length).getD i 0 = i := by
    rw [List.getD_eq_getElem?_getD, List.getElem?_range hi]
    rfl
  rw [h2] at h1
  refine h1.trans ?_
  have : j = 0 ∨ j = 1 ∨ j = 2 ∨ j = 3 := by omega
  rcases this with rfl | rfl | rfl | rfl <;> rfl
end
def Py0.c {w : World} {f : EveZ} {l : List GrpZ} {A A2 : Option Addr} {c c2 v Q : Nat} {T : Nat → Nat} {y : World} (_ : Py0 w f l A A2 c c2 v Q T y) : PyC := ⟨f, l, A, A2, c, c2, v, Q, T⟩
theorem Py0.lay {w : World} {f : EveZ} {l : List GrpZ} {A A2 : Option Addr} {c c2 v Q : Nat} {T : Nat → Nat} {y : World} (h : Py0 w f l A A2 c c2 v Q T y) : LayP w ⟨f, l, A, A2, c, c2, v, Q, T⟩ y (.slice none 0 0) (tabS 0 0 0 0) 0 := by
  refine ⟨h.b, h.lv, h.lQ, h.lT, h.pl, h.qu, fun k hk => (h.tab k hk).to fun i hi j hj => ?_, h.td, World.ownsRow_nil _ _ _ _⟩
  unfold tabS
  rw [if_neg (by omega)]
/-- The ticks that are left. -/
def PlayGo (E : RfE) : Nat → RawR → RawR → Prop
  | 0, x, y => x = y
  | k + 1, x, y => ∃ x1 x2 x3 x4 x5 x6, TickGo E x x1 x2 x3 x4 x5 x6 ∧ x6.now = x.now ∧ PlayGo E k { x6 with now := x.now + 1 } y
theorem Try.info_gst : (Try.prog.info? 86).map (fun i => (i.zero, i.size, i.bytes)) = some (some (.agg #[.int .i64 0, .int .i64 0, .int .i64 0, .int .i64 0]), 4, 32) := by kernel_rfl
structure PgI (w : World) (C : PyC) (U : World) (ug : Value) (tab : Nat → Nat → Int) (j b2 o2 : Nat) (tk : Int) (done : Nat → Bool) (xs : Nat → Value) (y : World) : Prop where
  lv : C.v < y.heap.size
  b : done 12 = false → Below U.heap.size U y
  m11 : done 11 = true → done 12 = false → ∃ g : Nat, xs 11 = .slice (some ⟨g, 0, none⟩) 1 1 ∧ Row y g 86 [.int .i64 0, .int .i64 (-1), .int .i64 0, .int .i64 tk]
  c4 : done 12 = true → done 15 = false → y.frozen? ⟨C.v, 4, none⟩ = false ∧ y.cell? ⟨C.v, 4, none⟩ = some ug
  m12 : done 12 = true → done 15 = false → ∃ uA uc, xs 12 = .slice uA (j + 1) uc ∧ ∃ y0, LayP w C y0 ug tab j ∧ y0.grownBy y ug.ownBlock ∧ y.ownsRow w.heap.size 86 4 (.slice uA (j + 1) uc) (j + 1) (guL C.l (j + 1))
  e15 : done 15 = true → ∃ u, LayP w C y u tab (j + 1)
  v0 : done 0 = true → xs 0 = .pointer (some ⟨C.v, 0, none⟩)
  v1 : done 1 = true → xs 1 = .pointer (some ⟨C.v, 0, none⟩)
  v2 : done 2 = true → xs 2 = .pointer (some ⟨C.v, 0, none⟩)
  v3 : done 3 = true → xs 3 = .pointer (some ⟨C.v, 4, none⟩)
  v4 : done 4 = true → xs 4 = ug
  v5 : done 5 = true → xs 5 = .slice C.A2 C.l.length C.c2
  v6 : done 6 = true → xs 6 = .int .i64 (j : Int)
  v7 : done 7 = true → xs 7 = .pointer (some ⟨b2, o2 + j * 5, none⟩)
  v8 : done 8 = true → xs 8 = .pointer (some ⟨b2, o2 + j * 5 + 2, none⟩)
  v9 : done 9 = true → xs 9 = .int .i64 tk
  v10 : done 10 = true → xs 10 = .agg #[.int .i64 0, .int .i64 (-1), .int .i64 0, .int .i64 tk]
  v13 : done 13 = true → xs 13 = .pointer (some ⟨C.v, 0, none⟩)
  v14 : done 14 = true → xs 14 = .pointer (some ⟨C.v, 4, none⟩)

set_option maxRecDepth 100000 in
set_option maxHeartbeats 4000000 in
theorem rplayed_any (f : EveZ) (l : List GrpZ) (A A2 : Option Addr) (c c2 : Nat) (rs : List (Option Addr × Nat)) (w : World) (h1 : f.rides.length ≤ 8) (h2 : l.length ≤ 60)
    (hr : Reads w w.heap.size 5 A f.rides.length (bthCells f.rides)) (hl : GrpsIn w w.heap.size A2 rs l) (hS : ∀ E : RfE, E.f = f → E.l = l → StatE E) (x9 : RawR) (N : Nat) (hN : N = 4001) (hgo : ∀ E : RfE, E.f = f → E.l = l → PlayGo E N (raw0 f l) x9) :
    Calls Try.prog 48 #[eveV f A c, .slice A2 l.length c2] w fun e w' => ∃ E : RfE, e = .returned (.pointer (some ⟨E.v, 0, none⟩)) ∧ E.base = w.heap.size ∧ E.f = f ∧ E.l = l ∧ Below w.heap.size w w' ∧ RfAt E w' x9 := by
  obtain ⟨U, hU⟩ : ∃ U, U = w.alloc (.cells #[.slice A f.rides.length c, .int .i64 f.walk] 24) := ⟨_, rfl⟩
  have bU : Below w.heap.size w U := by subst hU; exact (Below.refl _ _).alloc (Nat.le_refl _) _
  have r0 : Row U w.heap.size 24 [.slice A f.rides.length c, .int .i64 f.walk] := by subst hU; exact Row.new w _ _
  obtain ⟨g0, hg0⟩ : ∃ g, g = w.heap.size := ⟨_, rfl⟩
  rw [← hg0] at r0
  have lW : g0 < U.heap.size := r0.lt
  have q0 : U.cell? ⟨g0, 0, none⟩ = some (.slice A f.rides.length c) := r0.cell (j := 0) (by simp)
  have q1 : U.cell? ⟨g0, 1, none⟩ = some (.int .i64 f.walk) := r0.cell (j := 1) (by simp)
  have Q0 := Lib.hid q0
  have Q1 := Lib.hid q1
  have BU := Lib.hid bU
  have HRR := Lib.hid hr
  have HLL := Lib.hid hl
  have HS := Lib.hid hS
  have HGO := Lib.hid hgo
  have HNN := Lib.hid hN
  unfold eveV
  clear r0 bU hr hl hS hgo hN
  go_enter Try.func48, Try.ntmps48
  go_upto_region 2 with (fail)
  rw [← hU, ← hg0]
  clear hU hg0 q0 q1
  refine wp_region_stepsY 18 (ord := [0, 1, 2, 3, 4, 5, 6, 7, 8, 9, 10, 11, 12, 13, 14, 15, 16, 17]) (ds := [(0, 12), (1, 13), (2, 14), (3, 15), (4, 16), (5, 17), (6, 18), (7, 19), (8, 20), (9, 21), (10, 22), (11, 23), (12, 24), (13, 25), (14, 26), (15, 27), (16, 28), (17, 6)]) (I := PyI U f l A A2 c c2) (by kernel_rfl) (by kernel_rfl) rfl ?iz (StepsY.cons (k := 0) (k' := 1) (o := ⟨some 12, _, _, _, _, _⟩) rfl rfl ?sz0 (StepsY.cons (k := 1) (k' := 2) (o := ⟨some 13, _, _, _, _, _⟩) rfl rfl ?sz1 (StepsY.cons (k := 2) (k' := 3) (o := ⟨some 14, _, _, _, _, _⟩) rfl rfl ?sz2 (StepsY.cons (k := 3) (k' := 4) (o := ⟨some 15, _, _, _, _, _⟩) rfl rfl ?sz3 (StepsY.cons (k := 4) (k' := 5) (o := ⟨some 16, _, _, _, _, _⟩) rfl rfl ?sz4 (StepsY.cons (k := 5) (k' := 6) (o := ⟨some 17, _, _, _, _, _⟩) rfl rfl ?sz5 (StepsY.cons (k := 6) (k' := 7) (o := ⟨some 18, _, _, _, _, _⟩) rfl rfl ?sz6 (StepsY.cons (k := 7) (k' := 8) (o := ⟨some 19, _, _, _, _, _⟩) rfl rfl ?sz7 (StepsY.cons (k := 8) (k' := 9) (o := ⟨some 20, _, _, _, _, _⟩) rfl rfl ?sz8 (StepsY.cons (k := 9) (k' := 10) (o := ⟨some 21, _, _, _, _, _⟩) rfl rfl ?sz9 (StepsY.cons (k := 10) (k' := 11) (o := ⟨some 22, _, _, _, _, _⟩) rfl rfl ?sz10 (StepsY.cons (k := 11) (k' := 12) (o := ⟨some 23, _, _, _, _, _⟩) rfl rfl ?sz11 (StepsY.cons (k := 12) (k' := 13) (o := ⟨some 24, _, _, _, _, _⟩) rfl rfl ?sz12 (StepsY.cons (k := 13) (k' := 14) (o := ⟨some 25, _, _, _, _, _⟩) rfl rfl ?sz13 (StepsY.cons (k := 14) (k' := 15) (o := ⟨some 26, _, _, _, _, _⟩) rfl rfl ?sz14 (StepsY.cons (k := 15) (k' := 16) (o := ⟨some 27, _, _, _, _, _⟩) rfl rfl ?sz15 (StepsY.cons (k := 16) (k' := 17) (o := ⟨some 28, _, _, _, _, _⟩) rfl rfl ?sz16 (StepsY.cons (k := 17) (k' := 18) (o := ⟨some 6, _, _, _, _, _⟩) rfl rfl ?sz17 StepsY.nil)))))))))))))))))) ?finz
  case iz => exact fun xs => ⟨(Below.refl _ _).drew, MkI.start _ _ _ _ _, fun h => Bool.noConfusion h, fun h => Bool.noConfusion h, fun h => Bool.noConfusion h, fun h => Bool.noConfusion h, fun h => Bool.noConfusion h, fun h => Bool.noConfusion h, fun h => Bool.noConfusion h, fun h => Bool.noConfusion h, fun h => Bool.noConfusion h, fun h => Bool.noConfusion h, fun h => Bool.noConfusion h, fun h => Bool.noConfusion h, fun h => Bool.noConfusion h⟩
  case sz0 =>
    intro xs done y hI hd0 hup hdn K hK
    refine wpOp_go (o := ⟨some 12, _, _, _, _, _⟩) rfl rfl ?_
    simp only [putsF, List.foldl_cons, List.foldl_nil, Act.put, List.setIfInBounds_toArray, List.set_cons_zero, List.set_cons_succ] at hK ⊢
    have q0 := (hI.b.cell (p := ⟨g0, 0, none⟩) lW).trans Q0.out
    have q1 := (hI.b.cell (p := ⟨g0, 1, none⟩) lW).trans Q1.out
    have lg := Nat.lt_of_lt_of_le lW hI.b.size
    go_wp2_with fail
    exact hK.out _ _ ⟨hI.b, (hI.ms.keep (k := 0) (Below.refl _ _) (by decide) _), hI.m3, hI.m16, fun _ => rfl, hI.v1, hI.v2, hI.v4, hI.v6, hI.v8, hI.v10, hI.v12, hI.v13, hI.v15, hI.v17⟩
  case sz1 =>
    intro xs done y hI hd0 hup hdn K hK
    refine wpOp_go (o := ⟨some 13, _, _, _, _, _⟩) rfl rfl ?_
    simp only [putsF, List.foldl_cons, List.foldl_nil, Act.put, List.setIfInBounds_toArray, List.set_cons_zero, List.set_cons_succ] at hK ⊢
    go_wp2_with fail
    exact hK.out _ _ ⟨hI.b, (hI.ms.keep (k := 1) (Below.refl _ _) (by decide) _), hI.m3, hI.m16, hI.v0, fun _ => rfl, hI.v2, hI.v4, hI.v6, hI.v8, hI.v10, hI.v12, hI.v13, hI.v15, hI.v17⟩
  case sz2 =>
    intro xs done y hI hd0 hup hdn K hK
    refine wpOp_go (o := ⟨some 14, _, _, _, _, _⟩) rfl rfl ?_
    simp only [putsF, List.foldl_cons, List.foldl_nil, Act.put, List.setIfInBounds_toArray, List.set_cons_zero, List.set_cons_succ] at hK ⊢
    go_wp2_with fail
    exact hK.out _ _ ⟨hI.b, (hI.ms.keep (k := 2) (Below.refl _ _) (by decide) _), hI.m3, hI.m16, hI.v0, hI.v1, fun _ => rfl, hI.v4, hI.v6, hI.v8, hI.v10, hI.v12, hI.v13, hI.v15, hI.v17⟩
  case sz3 =>
    intro xs done y hI hd0 hup hdn K hK
    refine wpOp_go (o := ⟨some 15, _, _, _, _, _⟩) rfl rfl ?_
    have e2 := hI.v2 (hdn 2 (by kernel_rfl))
    simp only [putsF, List.foldl_cons, List.foldl_nil, Act.put, List.setIfInBounds_toArray, List.set_cons_zero, List.set_cons_succ] at hK ⊢
    obtain ⟨M, hM, hmk⟩ := run_mkQ f.rides.length (by omega) y
    simp only [e2] at hK ⊢
    go_wp2_with fail
    have hb4 := (Below.refl y.heap.size y).alloc (Nat.le_refl _) (.cells M 37)
    exact hK.out _ _ ⟨(hI.b.trans (hb4.mono hI.b.size)), (hI.ms.keep (k := 3) hb4 (by decide) _), (fun _ => ⟨_, rfl, hI.b.size, blk_mk hM⟩), (fun h => Bool.noConfusion ((hup 16 (by kernel_rfl)).symm.trans h)), hI.v0, hI.v1, hI.v2, hI.v4, hI.v6, hI.v8, hI.v10, hI.v12, hI.v13, (fun h => Bool.noConfusion ((hup 15 (by kernel_rfl)).symm.trans h)), hI.v17⟩
  case sz4 =>
    intro xs done y hI hd0 hup hdn K hK
    refine wpOp_go (o := ⟨some 16, _, _, _, _, _⟩) rfl rfl ?_
    simp only [putsF, List.foldl_cons, List.foldl_nil, Act.put, List.setIfInBounds_toArray, List.set_cons_zero, List.set_cons_succ] at hK ⊢
    go_wp2_with fail
    exact hK.out _ _ ⟨hI.b, (hI.ms.keep (k := 4) (Below.refl _ _) (by decide) _), hI.m3, hI.m16, hI.v0, hI.v1, hI.v2, fun _ => rfl, hI.v6, hI.v8, hI.v10, hI.v12, hI.v13, hI.v15, hI.v17⟩
  case sz5 =>
    intro xs done y hI hd0 hup hdn K hK
    refine wpOp_go (o := ⟨some 17, _, _, _, _, _⟩) rfl rfl ?_
    have e4 := hI.v4 (hdn 4 (by kernel_rfl))
    simp only [putsF, List.foldl_cons, List.foldl_nil, Act.put, List.setIfInBounds_toArray, List.set_cons_zero, List.set_cons_succ] at hK ⊢
    obtain ⟨M, hM, hmk⟩ := run_mkI f.rides.length (by omega) y
    simp only [e4] at hK ⊢
    go_wp2_with fail
    have hb4 := (Below.refl y.heap.size y).alloc (Nat.le_refl _) (.cells M 3)
    exact hK.out _ _ ⟨(hI.b.trans (hb4.mono hI.b.size)), (hI.ms.new (k := 5) hI.b.size (by decide) f.rides.length rfl hM), (fun h => ((hI.m3 h).imp fun g hg => ⟨hg.1, hg.2.1, hg.2.2.below hb4 hg.2.2.lt⟩)), (fun h => Bool.noConfusion ((hup 16 (by kernel_rfl)).symm.trans h)), hI.v0, hI.v1, hI.v2, hI.v4, hI.v6, hI.v8, hI.v10, hI.v12, hI.v13, (fun h => Bool.noConfusion ((hup 15 (by kernel_rfl)).symm.trans h)), hI.v17⟩
  case sz6 =>
    intro xs done y hI hd0 hup hdn K hK
    refine wpOp_go (o := ⟨some 18, _, _, _, _, _⟩) rfl rfl ?_
    simp only [putsF, List.foldl_cons, List.foldl_nil, Act.put, List.setIfInBounds_toArray, List.set_cons_zero, List.set_cons_succ] at hK ⊢
    go_wp2_with fail
    exact hK.out _ _ ⟨hI.b, (hI.ms.keep (k := 6) (Below.refl _ _) (by decide) _), hI.m3, hI.m16, hI.v0, hI.v1, hI.v2, hI.v4, fun _ => rfl, hI.v8, hI.v10, hI.v12, hI.v13, hI.v15, hI.v17⟩
  case sz7 =>
    intro xs done y hI hd0 hup hdn K hK
    refine wpOp_go (o := ⟨some 19, _, _, _, _, _⟩) rfl rfl ?_
    have e6 := hI.v6 (hdn 6 (by kernel_rfl))
    simp only [putsF, List.foldl_cons, List.foldl_nil, Act.put, List.setIfInBounds_toArray, List.set_cons_zero, List.set_cons_succ] at hK ⊢
    obtain ⟨M, hM, hmk⟩ := run_mkI f.rides.length (by omega) y
    simp only [e6] at hK ⊢
    go_wp2_with fail
    have hb4 := (Below.refl y.heap.size y).alloc (Nat.le_refl _) (.cells M 3)
    exact hK.out _ _ ⟨(hI.b.trans (hb4.mono hI.b.size)), (hI.ms.new (k := 7) hI.b.size (by decide) f.rides.length rfl hM), (fun h => ((hI.m3 h).imp fun g hg => ⟨hg.1, hg.2.1, hg.2.2.below hb4 hg.2.2.lt⟩)), (fun h => Bool.noConfusion ((hup 16 (by kernel_rfl)).symm.trans h)), hI.v0, hI.v1, hI.v2, hI.v4, hI.v6, hI.v8, hI.v10, hI.v12, hI.v13, (fun h => Bool.noConfusion ((hup 15 (by kernel_rfl)).symm.trans h)), hI.v17⟩
  case sz8 =>
    intro xs done y hI hd0 hup hdn K hK
    refine wpOp_go (o := ⟨some 20, _, _, _, _, _⟩) rfl rfl ?_
    simp only [putsF, List.foldl_cons, List.foldl_nil, Act.put, List.setIfInBounds_toArray, List.set_cons_zero, List.set_cons_succ] at hK ⊢
    go_wp2_with fail
    exact hK.out _ _ ⟨hI.b, (hI.ms.keep (k := 8) (Below.refl _ _) (by decide) _), hI.m3, hI.m16, hI.v0, hI.v1, hI.v2, hI.v4, hI.v6, fun _ => rfl, hI.v10, hI.v12, hI.v13, hI.v15, hI.v17⟩
  case sz9 =>
    intro xs done y hI hd0 hup hdn K hK
    refine wpOp_go (o := ⟨some 21, _, _, _, _, _⟩) rfl rfl ?_
    have e8 := hI.v8 (hdn 8 (by kernel_rfl))
    simp only [putsF, List.foldl_cons, List.foldl_nil, Act.put, List.setIfInBounds_toArray, List.set_cons_zero, List.set_cons_succ] at hK ⊢
    obtain ⟨M, hM, hmk⟩ := run_mkI f.rides.length (by omega) y
    simp only [e8] at hK ⊢
    go_wp2_with fail
    have hb4 := (Below.refl y.heap.size y).alloc (Nat.le_refl _) (.cells M 3)
    exact hK.out _ _ ⟨(hI.b.trans (hb4.mono hI.b.size)), (hI.ms.new (k := 9) hI.b.size (by decide) f.rides.length rfl hM), (fun h => ((hI.m3 h).imp fun g hg => ⟨hg.1, hg.2.1, hg.2.2.below hb4 hg.2.2.lt⟩)), (fun h => Bool.noConfusion ((hup 16 (by kernel_rfl)).symm.trans h)), hI.v0, hI.v1, hI.v2, hI.v4, hI.v6, hI.v8, hI.v10, hI.v12, hI.v13, (fun h => Bool.noConfusion ((hup 15 (by kernel_rfl)).symm.trans h)), hI.v17⟩
  case sz10 =>
    intro xs done y hI hd0 hup hdn K hK
    refine wpOp_go (o := ⟨some 22, _, _, _, _, _⟩) rfl rfl ?_
    simp only [putsF, List.foldl_cons, List.foldl_nil, Act.put, List.setIfInBounds_toArray, List.set_cons_zero, List.set_cons_succ] at hK ⊢
    go_wp2_with fail
    exact hK.out _ _ ⟨hI.b, (hI.ms.keep (k := 10) (Below.refl _ _) (by decide) _), hI.m3, hI.m16, hI.v0, hI.v1, hI.v2, hI.v4, hI.v6, hI.v8, fun _ => rfl, hI.v12, hI.v13, hI.v15, hI.v17⟩
  case sz11 =>
    intro xs done y hI hd0 hup hdn K hK
    refine wpOp_go (o := ⟨some 23, _, _, _, _, _⟩) rfl rfl ?_
    have e10 := hI.v10 (hdn 10 (by kernel_rfl))
    simp only [putsF, List.foldl_cons, List.foldl_nil, Act.put, List.setIfInBounds_toArray, List.set_cons_zero, List.set_cons_succ] at hK ⊢
    obtain ⟨M, hM, hmk⟩ := run_mkI f.rides.length (by omega) y
    simp only [e10] at hK ⊢
    go_wp2_with fail
    have hb4 := (Below.refl y.heap.size y).alloc (Nat.le_refl _) (.cells M 3)
    exact hK.out _ _ ⟨(hI.b.trans (hb4.mono hI.b.size)), (hI.ms.new (k := 11) hI.b.size (by decide) f.rides.length rfl hM), (fun h => ((hI.m3 h).imp fun g hg => ⟨hg.1, hg.2.1, hg.2.2.below hb4 hg.2.2.lt⟩)), (fun h => Bool.noConfusion ((hup 16 (by kernel_rfl)).symm.trans h)), hI.v0, hI.v1, hI.v2, hI.v4, hI.v6, hI.v8, hI.v10, hI.v12, hI.v13, (fun h => Bool.noConfusion ((hup 15 (by kernel_rfl)).symm.trans h)), hI.v17⟩
  case sz12 =>
    intro xs done y hI hd0 hup hdn K hK
    refine wpOp_go (o := ⟨some 24, _, _, _, _, _⟩) rfl rfl ?_
    simp only [putsF, List.foldl_cons, List.foldl_nil, Act.put, List.setIfInBounds_toArray, List.set_cons_zero, List.set_cons_succ] at hK ⊢
    go_wp2_with fail
    exact hK.out _ _ ⟨hI.b, (hI.ms.keep (k := 12) (Below.refl _ _) (by decide) _), hI.m3, hI.m16, hI.v0, hI.v1, hI.v2, hI.v4, hI.v6, hI.v8, hI.v10, fun _ => rfl, hI.v13, hI.v15, hI.v17⟩
  case sz13 =>
    intro xs done y hI hd0 hup hdn K hK
    refine wpOp_go (o := ⟨some 25, _, _, _, _, _⟩) rfl rfl ?_
    have e12 := hI.v12 (hdn 12 (by kernel_rfl))
    simp only [putsF, List.foldl_cons, List.foldl_nil, Act.put, List.setIfInBounds_toArray, List.set_cons_zero, List.set_cons_succ] at hK ⊢
    simp only [e12] at hK ⊢
    go_wp2_with fail
    exact hK.out _ _ ⟨hI.b, (hI.ms.keep (k := 13) (Below.refl _ _) (by decide) _), hI.m3, hI.m16, hI.v0, hI.v1, hI.v2, hI.v4, hI.v6, hI.v8, hI.v10, hI.v12, fun _ => rfl, hI.v15, hI.v17⟩
  case sz14 =>
    intro xs done y hI hd0 hup hdn K hK
    refine wpOp_go (o := ⟨some 26, _, _, _, _, _⟩) rfl rfl ?_
    have e13 := hI.v13 (hdn 13 (by kernel_rfl))
    simp only [putsF, List.foldl_cons, List.foldl_nil, Act.put, List.setIfInBounds_toArray, List.set_cons_zero, List.set_cons_succ] at hK ⊢
    obtain ⟨M, hM, hmk⟩ := run_mkI l.length (by omega) y
    simp only [e13] at hK ⊢
    go_wp2_with fail
    have hb4 := (Below.refl y.heap.size y).alloc (Nat.le_refl _) (.cells M 3)
    exact hK.out _ _ ⟨(hI.b.trans (hb4.mono hI.b.size)), (hI.ms.new (k := 14) hI.b.size (by decide) l.length rfl hM), (fun h => ((hI.m3 h).imp fun g hg => ⟨hg.1, hg.2.1, hg.2.2.below hb4 hg.2.2.lt⟩)), (fun h => Bool.noConfusion ((hup 16 (by kernel_rfl)).symm.trans h)), hI.v0, hI.v1, hI.v2, hI.v4, hI.v6, hI.v8, hI.v10, hI.v12, hI.v13, (fun h => Bool.noConfusion ((hup 15 (by kernel_rfl)).symm.trans h)), hI.v17⟩
  case sz15 =>
    intro xs done y hI hd0 hup hdn K hK
    refine wpOp_go (o := ⟨some 27, _, _, _, _, _⟩) rfl rfl ?_
    have e0 := hI.v0 (hdn 0 (by kernel_rfl))
    have e1 := hI.v1 (hdn 1 (by kernel_rfl))
    have h3 := hI.m3 (hdn 3 (by kernel_rfl))
    have h5 := hI.ms.at_ 5 (by decide) (hdn 5 (by kernel_rfl))
    have h7 := hI.ms.at_ 7 (by decide) (hdn 7 (by kernel_rfl))
    have h9 := hI.ms.at_ 9 (by decide) (hdn 9 (by kernel_rfl))
    have h11 := hI.ms.at_ 11 (by decide) (hdn 11 (by kernel_rfl))
    have h14 := hI.ms.at_ 14 (by decide) (hdn 14 (by kernel_rfl))
    simp only [putsF, List.foldl_cons, List.foldl_nil, Act.put, List.setIfInBounds_toArray, List.set_cons_zero, List.set_cons_succ] at hK ⊢
    obtain ⟨g3, e3, -, -⟩ := h3
    obtain ⟨g5, e5, -, -⟩ := h5
    obtain ⟨g7, e7, -, -⟩ := h7
    obtain ⟨g9, e9, -, -⟩ := h9
    obtain ⟨g11, e11, -, -⟩ := h11
    obtain ⟨g14, e14, -, -⟩ := h14
    simp only [e0, e1, e3, e5, e7, e9, e11, e14] at hK ⊢
    go_wp2_with fail
    exact hK.out _ _ ⟨hI.b, (hI.ms.keep (k := 15) (Below.refl _ _) (by decide) _), hI.m3, (fun h => Bool.noConfusion ((hup 16 (by kernel_rfl)).symm.trans h)), hI.v0, hI.v1, hI.v2, hI.v4, hI.v6, hI.v8, hI.v10, hI.v12, hI.v13, (fun _ => by show _ = Value.agg #[.slice A f.rides.length c, .int .i64 f.walk, .slice A2 l.length c2, .int .i64 0, .slice none 0 0, xs 3, xs 5, xs 7, .slice none 0 0, xs 9, xs 11, xs 14]; rw [e3, e5, e7, e9, e11, e14]; rfl), hI.v17⟩
  case sz16 =>
    intro xs done y hI hd0 hup hdn K hK
    refine wpOp_go (o := ⟨some 28, _, _, _, _, _⟩) rfl rfl ?_
    have e15 := hI.v15 (hdn 15 (by kernel_rfl))
    simp only [putsF, List.foldl_cons, List.foldl_nil, Act.put, List.setIfInBounds_toArray, List.set_cons_zero, List.set_cons_succ] at hK ⊢
    simp only [e15] at hK ⊢
    go_wp2_with fail
    have hb4 := (Below.refl y.heap.size y).alloc (Nat.le_refl _) (.cells #[.slice A f.rides.length c, .int .i64 f.walk, .slice A2 l.length c2, .int .i64 0, .slice none 0 0, xs 3, xs 5, xs 7, .slice none 0 0, xs 9, xs 11, xs 14] 71)
    exact hK.out _ _ ⟨(hI.b.trans (hb4.mono hI.b.size)), (hI.ms.keep (k := 16) hb4 (by decide) _), (fun h => ((hI.m3 h).imp fun g hg => ⟨hg.1, hg.2.1, hg.2.2.below hb4 hg.2.2.lt⟩)), (fun _ => ⟨_, rfl, hI.b.size, Row.new y 71 #[.slice A f.rides.length c, .int .i64 f.walk, .slice A2 l.length c2, .int .i64 0, .slice none 0 0, xs 3, xs 5, xs 7, .slice none 0 0, xs 9, xs 11, xs 14]⟩), hI.v0, hI.v1, hI.v2, hI.v4, hI.v6, hI.v8, hI.v10, hI.v12, hI.v13, hI.v15, (fun h => Bool.noConfusion ((hup 17 (by kernel_rfl)).symm.trans h))⟩
  case sz17 =>
    intro xs done y hI hd0 hup hdn K hK
    refine wpOp_go (o := ⟨some 6, _, _, _, _, _⟩) rfl rfl ?_
    simp only [putsF, List.foldl_cons, List.foldl_nil, Act.put, List.setIfInBounds_toArray, List.set_cons_zero, List.set_cons_succ] at hK ⊢
    go_wp2_with fail
    exact hK.out _ _ ⟨hI.b, (hI.ms.keep (k := 17) (Below.refl _ _) (by decide) _), hI.m3, hI.m16, hI.v0, hI.v1, hI.v2, hI.v4, hI.v6, hI.v8, hI.v10, hI.v12, hI.v13, hI.v15, fun _ => rfl⟩
  case finz =>

    intro xs done y hI hd
    obtain ⟨v, Q, T, e17, hpy⟩ := py_start BU.out hI hd
    simp only [putsF, List.foldl_cons, List.foldl_nil, Act.put, List.setIfInBounds_toArray, List.set_cons_zero, List.set_cons_succ]
    simp only [e17]
    have hL0 := hpy.lay
    obtain ⟨C, hC⟩ : ∃ C : PyC, C = ⟨f, l, A, A2, c, c2, v, Q, T⟩ := ⟨_, rfl⟩
    rw [← hC] at hL0
    have hCv : v = C.v := by rw [hC]
    have hCf : f = C.f := by rw [hC]
    have hCl : l = C.l := by rw [hC]
    have hCA : A = C.A := by rw [hC]
    have hCA2 : A2 = C.A2 := by rw [hC]
    have hCc : c = C.c := by rw [hC]
    have hCc2 : c2 = C.c2 := by rw [hC]
    have HL0 := Lib.hid hL0
    clear hI hd hpy hL0 hC e17 Q0 Q1 BU lW
    subst hCv hCf hCl hCA hCA2 hCc hCc2
    go_upto_region 4 with fail
    go_loopw [7] (fun jv wr => ∃ r : Nat, r ≤ C.f.rides.length ∧ jv = .int .i64 r ∧ LayP w C wr (.slice none 0 0) (tabS 0 0 r 0) 0) (fun jv _ => C.f.rides.length - (intOf jv).toNat)
    case atStart => exact ⟨0, Nat.zero_le _, rfl, HL0.out⟩
    case round =>
      clear HL0
      obtain ⟨r, hr, rfl, hL⟩ := hrel
      by_cases hlt : r < C.f.rides.length
      · as_aux_lemma =>
          have hlt' : (r : Int) < (C.f.rides.length : Int) := by omega
          have e1 : IntKind.i64.wrap ((r : Int) + 1) = (r : Int) + 1 := IntWalk.i64_in _ (by omega)
          have lv : C.v < wr.heap.size := hL.pl.lt
          have v6 : wr.cell? ⟨C.v, 6, none⟩ = some (.slice (some ⟨C.T 0, 0, none⟩) C.f.rides.length C.f.rides.length) := hL.pl.cell (j := 6) (by simp [PyC.plL])
          have t0 := hL.tab 0 (by omega)
          have lt0 := t0.lt
          have f0 := t0.frozen r
          have c0 : wr.cell? ⟨C.T 0, r, none⟩ = some (.int .i64 (tabS 0 0 r 0 0 r)) := by simpa using t0.cell0 (i := r) hlt (by omega)
          have k1 := hL.setT (k := 0) (i := r) (by omega) hlt (-1)
          have K1 := Lib.hid k1
          clear hL t0 k1
          go_upto_region 7 with fail
          obtain ⟨X, hX⟩ : ∃ X, X = wr.setCell ⟨C.T 0, r, none⟩ (.int .i64 (-1)) := ⟨_, rfl⟩
          rw [← hX] at K1 ⊢
          clear hX lv v6 lt0 f0 c0
          have k := K1.out
          have lv : C.v < X.heap.size := k.pl.lt
          have v7 : X.cell? ⟨C.v, 7, none⟩ = some (.slice (some ⟨C.T 1, 0, none⟩) C.f.rides.length C.f.rides.length) := k.pl.cell (j := 7) (by simp [PyC.plL])
          have t1 := k.tab 1 (by omega)
          have lt1 := t1.lt
          have f1 := t1.frozen r
          have c1 : X.cell? ⟨C.T 1, r, none⟩ = some (.int .i64 (upd2 (tabS 0 0 r 0) 0 r (-1) 1 r)) := by simpa using t1.cell0 (i := r) hlt (by omega)
          have k2 := k.setT (k := 1) (i := r) (by omega) hlt (-1)
          rw [tabS_r] at k2
          have K2 := Lib.hid k2
          clear k k2 K1 t1
          go_wp2_with fail
          go_roundw
          case rel => exact ⟨r + 1, hlt, by go_num, K2.out⟩
          case measure => simp [intOf]; omega
      · have hge : ¬ (r : Int) < (C.f.rides.length : Int) := by omega
        obtain rfl : r = C.f.rides.length := by omega
        have HL := Lib.hid hL
        clear hL
        go_upto_region 9 with fail
        clear hge hlt hr
        go_loopw [8] (fun jv wr => ∃ (j : Nat) (ug : Value), j ≤ C.l.length ∧ jv = .int .i64 j ∧ LayP w C wr ug (tabS 0 0 C.f.rides.length j) j) (fun jv _ => C.l.length - (intOf jv).toNat)
        case atStart => exact ⟨0, _, Nat.zero_le _, rfl, HL.out⟩
        case round =>
          clear HL
          obtain ⟨j, ug, hj, rfl, hL⟩ := hrel
          by_cases hlt : j < C.l.length
          ·
              have hlt' : (j : Int) < (C.l.length : Int) := by omega
              have e1 : IntKind.i64.wrap ((j : Int) + 1) = (j : Int) + 1 := IntWalk.i64_in _ (by omega)
              obtain ⟨b2, o2, ha2, hb2, hc⟩ := (HLL.out.below hL.b).outer (by omega)
              have l2 := (hc j hlt).2.2.1
              have lb2 : b2 < wr.heap.size := Nat.lt_of_lt_of_le hb2 hL.b.size
              have HSN := Lib.hid (guL_succ C.l j)
              generalize (C.l.getD j default).tokens = tk at l2 HSN
              have HA2 := Lib.hid ha2
              have LT := Lib.hid l2
              obtain ⟨tab, htab⟩ : ∃ t, t = tabS 0 0 C.f.rides.length j := ⟨_, rfl⟩
              rw [← htab] at hL
              have HTAB := Lib.hid htab
              have hU0 := hL
              have HX : Hid (∀ y, Below wr.heap.size wr y → LayP w C y ug tab j) := fun y hy => hU0.grow hy
              obtain ⟨iG, hig, hg0, hg1, hg2⟩ := info_parts Try.info_gst
              obtain ⟨U, hUU⟩ : ∃ U, U = wr := ⟨_, rfl⟩
              rw [← hUU] at lb2 LT hU0 HX
              clear hL ha2 l2 hc hb2 htab hj HGO HS HRR HLL
              go_upto_region 11 with fail
              rw [← hUU]
              clear hUU
              refine wp_region_stepsY 16 (ord := [0, 1, 2, 3, 4, 5, 6, 7, 8, 9, 10, 11, 12, 13, 14, 15]) (ds := [(0, 52), (1, 53), (2, 54), (3, 55), (4, 56), (5, 57), (6, 58), (7, 59), (8, 60), (9, 61), (10, 62), (11, 63), (12, 64), (13, 65), (14, 66)]) (I := PgI w C U ug tab j b2 o2 tk) (by kernel_rfl) (by kernel_rfl) rfl ?iy (StepsY.cons (k := 0) (k' := 1) (o := ⟨some 52, _, _, _, _, _⟩) rfl rfl ?sy0 (StepsY.cons (k := 1) (k' := 2) (o := ⟨some 53, _, _, _, _, _⟩) rfl rfl ?sy1 (StepsY.cons (k := 2) (k' := 3) (o := ⟨some 54, _, _, _, _, _⟩) rfl rfl ?sy2 (StepsY.cons (k := 3) (k' := 4) (o := ⟨some 55, _, _, _, _, _⟩) rfl rfl ?sy3 (StepsY.cons (k := 4) (k' := 5) (o := ⟨some 56, _, _, _, _, _⟩) rfl rfl ?sy4 (StepsY.cons (k := 5) (k' := 6) (o := ⟨some 57, _, _, _, _, _⟩) rfl rfl ?sy5 (StepsY.cons (k := 6) (k' := 7) (o := ⟨some 58, _, _, _, _, _⟩) rfl rfl ?sy6 (StepsY.cons (k := 7) (k' := 8) (o := ⟨some 59, _, _, _, _, _⟩) rfl rfl ?sy7 (StepsY.cons (k := 8) (k' := 9) (o := ⟨some 60, _, _, _, _, _⟩) rfl rfl ?sy8 (StepsY.cons (k := 9) (k' := 10) (o := ⟨some 61, _, _, _, _, _⟩) rfl rfl ?sy9 (StepsY.cons (k := 10) (k' := 11) (o := ⟨some 62, _, _, _, _, _⟩) rfl rfl ?sy10 (StepsY.cons (k := 11) (k' := 12) (o := ⟨some 63, _, _, _, _, _⟩) rfl rfl ?sy11 (StepsY.cons (k := 12) (k' := 13) (o := ⟨some 64, _, _, _, _, _⟩) rfl rfl ?sy12 (StepsY.cons (k := 13) (k' := 14) (o := ⟨some 65, _, _, _, _, _⟩) rfl rfl ?sy13 (StepsY.cons (k := 14) (k' := 15) (o := ⟨some 66, _, _, _, _, _⟩) rfl rfl ?sy14 (StepsY.cons (k := 15) (k' := 16) (o := ⟨none, _, _, _, _, _⟩) rfl rfl ?sy15 StepsY.nil)))))))))))))))) ?finy
              case iy => exact fun xs => ⟨hU0.pl.lt, fun _ => (Below.refl _ _).drew, fun h => Bool.noConfusion h, fun h => Bool.noConfusion h, fun h => Bool.noConfusion h, fun h => Bool.noConfusion h, fun h => Bool.noConfusion h, fun h => Bool.noConfusion h, fun h => Bool.noConfusion h, fun h => Bool.noConfusion h, fun h => Bool.noConfusion h, fun h => Bool.noConfusion h, fun h => Bool.noConfusion h, fun h => Bool.noConfusion h, fun h => Bool.noConfusion h, fun h => Bool.noConfusion h, fun h => Bool.noConfusion h, fun h => Bool.noConfusion h, fun h => Bool.noConfusion h⟩
              case sy0 =>
                intro xs done y hI hd0 hup hdn K hK
                refine wpOp_go (o := ⟨some 52, _, _, _, _, _⟩) rfl rfl ?_
                simp only [putsF, List.foldl_cons, List.foldl_nil, Act.put, List.setIfInBounds_toArray, List.set_cons_zero, List.set_cons_succ] at hK ⊢
                go_wp2_with fail
                exact hK.out _ _ ⟨hI.lv, hI.b, hI.m11, hI.c4, hI.m12, hI.e15, fun _ => rfl, hI.v1, hI.v2, hI.v3, hI.v4, hI.v5, hI.v6, hI.v7, hI.v8, hI.v9, hI.v10, hI.v13, hI.v14⟩
              case sy1 =>
                intro xs done y hI hd0 hup hdn K hK
                refine wpOp_go (o := ⟨some 53, _, _, _, _, _⟩) rfl rfl ?_
                simp only [putsF, List.foldl_cons, List.foldl_nil, Act.put, List.setIfInBounds_toArray, List.set_cons_zero, List.set_cons_succ] at hK ⊢
                go_wp2_with fail
                exact hK.out _ _ ⟨hI.lv, hI.b, hI.m11, hI.c4, hI.m12, hI.e15, hI.v0, fun _ => rfl, hI.v2, hI.v3, hI.v4, hI.v5, hI.v6, hI.v7, hI.v8, hI.v9, hI.v10, hI.v13, hI.v14⟩
              case sy2 =>
                intro xs done y hI hd0 hup hdn K hK
                refine wpOp_go (o := ⟨some 54, _, _, _, _, _⟩) rfl rfl ?_
                have e1 := hI.v1 (hdn 1 (by kernel_rfl))
                simp only [putsF, List.foldl_cons, List.foldl_nil, Act.put, List.setIfInBounds_toArray, List.set_cons_zero, List.set_cons_succ] at hK ⊢
                simp only [e1] at hK ⊢
                have lv := hI.lv
                go_wp2_with fail
                exact hK.out _ _ ⟨hI.lv, hI.b, hI.m11, hI.c4, hI.m12, hI.e15, hI.v0, hI.v1, fun _ => rfl, hI.v3, hI.v4, hI.v5, hI.v6, hI.v7, hI.v8, hI.v9, hI.v10, hI.v13, hI.v14⟩
              case sy3 =>
                intro xs done y hI hd0 hup hdn K hK
                refine wpOp_go (o := ⟨some 55, _, _, _, _, _⟩) rfl rfl ?_
                have e2 := hI.v2 (hdn 2 (by kernel_rfl))
                simp only [putsF, List.foldl_cons, List.foldl_nil, Act.put, List.setIfInBounds_toArray, List.set_cons_zero, List.set_cons_succ] at hK ⊢
                simp only [e2] at hK ⊢
                go_wp2_with fail
                exact hK.out _ _ ⟨hI.lv, hI.b, hI.m11, hI.c4, hI.m12, hI.e15, hI.v0, hI.v1, hI.v2, fun _ => rfl, hI.v4, hI.v5, hI.v6, hI.v7, hI.v8, hI.v9, hI.v10, hI.v13, hI.v14⟩
              case sy4 =>
                intro xs done y hI hd0 hup hdn K hK
                refine wpOp_go (o := ⟨some 56, _, _, _, _, _⟩) rfl rfl ?_
                have e3 := hI.v3 (hdn 3 (by kernel_rfl))
                simp only [putsF, List.foldl_cons, List.foldl_nil, Act.put, List.setIfInBounds_toArray, List.set_cons_zero, List.set_cons_succ] at hK ⊢
                simp only [e3] at hK ⊢
                have lv := hI.lv
                have c4 : y.cell? ⟨C.v, 4, none⟩ = some ug := (HX.out y (hI.b (hup 12 (by kernel_rfl)))).pl.cell (j := 4) (by simp [PyC.plL])
                go_wp2_with fail
                exact hK.out _ _ ⟨hI.lv, hI.b, hI.m11, hI.c4, hI.m12, hI.e15, hI.v0, hI.v1, hI.v2, hI.v3, fun _ => rfl, hI.v5, hI.v6, hI.v7, hI.v8, hI.v9, hI.v10, hI.v13, hI.v14⟩
              case sy5 =>
                intro xs done y hI hd0 hup hdn K hK
                refine wpOp_go (o := ⟨some 57, _, _, _, _, _⟩) rfl rfl ?_
                simp only [putsF, List.foldl_cons, List.foldl_nil, Act.put, List.setIfInBounds_toArray, List.set_cons_zero, List.set_cons_succ] at hK ⊢
                go_wp2_with fail
                exact hK.out _ _ ⟨hI.lv, hI.b, hI.m11, hI.c4, hI.m12, hI.e15, hI.v0, hI.v1, hI.v2, hI.v3, hI.v4, fun _ => rfl, hI.v6, hI.v7, hI.v8, hI.v9, hI.v10, hI.v13, hI.v14⟩
              case sy6 =>
                intro xs done y hI hd0 hup hdn K hK
                refine wpOp_go (o := ⟨some 58, _, _, _, _, _⟩) rfl rfl ?_
                simp only [putsF, List.foldl_cons, List.foldl_nil, Act.put, List.setIfInBounds_toArray, List.set_cons_zero, List.set_cons_succ] at hK ⊢
                go_wp2_with fail
                exact hK.out _ _ ⟨hI.lv, hI.b, hI.m11, hI.c4, hI.m12, hI.e15, hI.v0, hI.v1, hI.v2, hI.v3, hI.v4, hI.v5, fun _ => rfl, hI.v7, hI.v8, hI.v9, hI.v10, hI.v13, hI.v14⟩
              case sy7 =>
                intro xs done y hI hd0 hup hdn K hK
                refine wpOp_go (o := ⟨some 59, _, _, _, _, _⟩) rfl rfl ?_
                have e5 := hI.v5 (hdn 5 (by kernel_rfl))
                have e6 := hI.v6 (hdn 6 (by kernel_rfl))
                simp only [putsF, List.foldl_cons, List.foldl_nil, Act.put, List.setIfInBounds_toArray, List.set_cons_zero, List.set_cons_succ] at hK ⊢
                simp only [e5, e6, HA2.out] at hK ⊢
                go_wp2_with fail
                exact hK.out _ _ ⟨hI.lv, hI.b, hI.m11, hI.c4, hI.m12, hI.e15, hI.v0, hI.v1, hI.v2, hI.v3, hI.v4, hI.v5, hI.v6, fun _ => rfl, hI.v8, hI.v9, hI.v10, hI.v13, hI.v14⟩
              case sy8 =>
                intro xs done y hI hd0 hup hdn K hK
                refine wpOp_go (o := ⟨some 60, _, _, _, _, _⟩) rfl rfl ?_
                have e7 := hI.v7 (hdn 7 (by kernel_rfl))
                simp only [putsF, List.foldl_cons, List.foldl_nil, Act.put, List.setIfInBounds_toArray, List.set_cons_zero, List.set_cons_succ] at hK ⊢
                simp only [e7] at hK ⊢
                go_wp2_with fail
                exact hK.out _ _ ⟨hI.lv, hI.b, hI.m11, hI.c4, hI.m12, hI.e15, hI.v0, hI.v1, hI.v2, hI.v3, hI.v4, hI.v5, hI.v6, hI.v7, fun _ => rfl, hI.v9, hI.v10, hI.v13, hI.v14⟩
              case sy9 =>
                intro xs done y hI hd0 hup hdn K hK
                refine wpOp_go (o := ⟨some 61, _, _, _, _, _⟩) rfl rfl ?_
                have e8 := hI.v8 (hdn 8 (by kernel_rfl))
                simp only [putsF, List.foldl_cons, List.foldl_nil, Act.put, List.setIfInBounds_toArray, List.set_cons_zero, List.set_cons_succ] at hK ⊢
                simp only [e8] at hK ⊢
                have l2 := (hI.b (hup 12 (by kernel_rfl))).cell (p := ⟨b2, o2 + j * 5 + 2, none⟩) lb2 |>.trans LT.out
                have lb := Nat.lt_of_lt_of_le lb2 (hI.b (hup 12 (by kernel_rfl))).size
                go_wp2_with fail
                exact hK.out _ _ ⟨hI.lv, hI.b, hI.m11, hI.c4, hI.m12, hI.e15, hI.v0, hI.v1, hI.v2, hI.v3, hI.v4, hI.v5, hI.v6, hI.v7, hI.v8, fun _ => rfl, hI.v10, hI.v13, hI.v14⟩
              case sy10 =>
                intro xs done y hI hd0 hup hdn K hK
                refine wpOp_go (o := ⟨some 62, _, _, _, _, _⟩) rfl rfl ?_
                have e9 := hI.v9 (hdn 9 (by kernel_rfl))
                simp only [putsF, List.foldl_cons, List.foldl_nil, Act.put, List.setIfInBounds_toArray, List.set_cons_zero, List.set_cons_succ] at hK ⊢
                simp only [e9] at hK ⊢
                go_wp2_with fail
                exact hK.out _ _ ⟨hI.lv, hI.b, hI.m11, hI.c4, hI.m12, hI.e15, hI.v0, hI.v1, hI.v2, hI.v3, hI.v4, hI.v5, hI.v6, hI.v7, hI.v8, hI.v9, fun _ => rfl, hI.v13, hI.v14⟩
              case sy11 =>
                intro xs done y hI hd0 hup hdn K hK
                refine wpOp_go (o := ⟨some 63, _, _, _, _, _⟩) rfl rfl ?_
                have e10 := hI.v10 (hdn 10 (by kernel_rfl))
                simp only [putsF, List.foldl_cons, List.foldl_nil, Act.put, List.setIfInBounds_toArray, List.set_cons_zero, List.set_cons_succ] at hK ⊢
                simp only [e10] at hK ⊢
                have hd12 := hup 12 (by kernel_rfl)
                have hbel := hI.b hd12
                go_wp2_with fail
                have hb4 := (Below.refl y.heap.size y).alloc (Nat.le_refl _) (.cells #[.int .i64 0, .int .i64 (-1), .int .i64 0, .int .i64 tk] 86)
                have hg := Row.new y 86 #[.int .i64 0, .int .i64 (-1), .int .i64 0, .int .i64 tk]
                exact hK.out _ _ ⟨(Nat.lt_of_lt_of_le hI.lv hb4.size), (fun _ => hbel.trans (hb4.mono hbel.size)), (fun _ _ => ⟨_, rfl, hg⟩), (fun h => Bool.noConfusion (hd12.symm.trans h)), (fun h => Bool.noConfusion (hd12.symm.trans h)), (fun h => Bool.noConfusion ((hup 15 (by kernel_rfl)).symm.trans h)), hI.v0, hI.v1, hI.v2, hI.v3, hI.v4, hI.v5, hI.v6, hI.v7, hI.v8, hI.v9, hI.v10, hI.v13, hI.v14⟩
              case sy12 =>
                intro xs done y hI hd0 hup hdn K hK
                refine wpOp_go (o := ⟨some 64, _, _, _, _, _⟩) rfl rfl ?_
                have e4 := hI.v4 (hdn 4 (by kernel_rfl))
                have hm11 := hI.m11 (hdn 11 (by kernel_rfl)) hd0
                have hbel := hI.b hd0
                simp only [putsF, List.foldl_cons, List.foldl_nil, Act.put, List.setIfInBounds_toArray, List.set_cons_zero, List.set_cons_succ] at hK ⊢
                obtain ⟨g, e11, hrow⟩ := hm11
                simp only [e4, e11] at hK ⊢
                have hin := HX.out y hbel
                refine wp_appAt y (.tmp 56) (.tmp 63) 68 (by rfl) w.heap.size 86 iG _ 4 32 Try.underlying68 hig hg0 hg1 hg2 rfl (by decide) ug j (guL C.l j) (by rfl) hin.gu ⟨g, 0, none⟩ 1 1 [.int .i64 0, .int .i64 (-1), .int .i64 0, .int .i64 tk] (by rfl) rfl (row_news hrow) (by intro u hu; simp at hu; rcases hu with rfl | rfl | rfl | rfl <;> rfl) (by unfold maxLen; omega) (by omega) hin.b.size ?_
                intro u z ho hg hat
                obtain ⟨uA, uc, rfl⟩ := own_slice ho
                have hp := hin.plG hg
                have ho2 : z.ownsRow w.heap.size 86 4 (.slice uA (j + 1) uc) (j + 1) (guL C.l (j + 1)) := by rw [HSN.out]; exact ho
                exact hK.out _ _ ⟨hp.lt, (fun h => Bool.noConfusion h), (fun _ h => Bool.noConfusion h), (fun _ _ => ⟨hp.frozen _, hp.cell (j := 4) (by simp [PyC.plL])⟩), (fun _ _ => ⟨uA, uc, rfl, y, hin, hg, ho2⟩), (fun h => Bool.noConfusion ((hup 15 (by kernel_rfl)).symm.trans h)), hI.v0, hI.v1, hI.v2, hI.v3, hI.v4, hI.v5, hI.v6, hI.v7, hI.v8, hI.v9, hI.v10, hI.v13, hI.v14⟩
              case sy13 =>
                intro xs done y hI hd0 hup hdn K hK
                refine wpOp_go (o := ⟨some 65, _, _, _, _, _⟩) rfl rfl ?_
                have e0 := hI.v0 (hdn 0 (by kernel_rfl))
                simp only [putsF, List.foldl_cons, List.foldl_nil, Act.put, List.setIfInBounds_toArray, List.set_cons_zero, List.set_cons_succ] at hK ⊢
                simp only [e0] at hK ⊢
                have lv := hI.lv
                go_wp2_with fail
                exact hK.out _ _ ⟨hI.lv, hI.b, hI.m11, hI.c4, hI.m12, hI.e15, hI.v0, hI.v1, hI.v2, hI.v3, hI.v4, hI.v5, hI.v6, hI.v7, hI.v8, hI.v9, hI.v10, fun _ => rfl, hI.v14⟩
              case sy14 =>
                intro xs done y hI hd0 hup hdn K hK
                refine wpOp_go (o := ⟨some 66, _, _, _, _, _⟩) rfl rfl ?_
                have e13 := hI.v13 (hdn 13 (by kernel_rfl))
                simp only [putsF, List.foldl_cons, List.foldl_nil, Act.put, List.setIfInBounds_toArray, List.set_cons_zero, List.set_cons_succ] at hK ⊢
                simp only [e13] at hK ⊢
                go_wp2_with fail
                exact hK.out _ _ ⟨hI.lv, hI.b, hI.m11, hI.c4, hI.m12, hI.e15, hI.v0, hI.v1, hI.v2, hI.v3, hI.v4, hI.v5, hI.v6, hI.v7, hI.v8, hI.v9, hI.v10, hI.v13, fun _ => rfl⟩
              case sy15 =>
                intro xs done y hI hd0 hup hdn K hK
                refine wpOp_go (o := ⟨none, _, _, _, _, _⟩) rfl rfl ?_
                have e14 := hI.v14 (hdn 14 (by kernel_rfl))
                have hm12 := hI.m12 (hdn 12 (by kernel_rfl)) hd0
                have hc4 := hI.c4 (hdn 12 (by kernel_rfl)) hd0
                have hlv := hI.lv
                simp only [putsF, List.foldl_cons, List.foldl_nil, Act.put, List.setIfInBounds_toArray, List.set_cons_zero, List.set_cons_succ] at hK ⊢
                obtain ⟨uA, uc, e12, y0, hin, hg, ho⟩ := hm12
                obtain ⟨f4, c4⟩ := hc4
                simp only [e14, e12] at hK ⊢
                have hY := hin.addG hg ho
                go_wp2_with fail
                exact hK.out undef _ ⟨hY.pl.lt, (fun h => Bool.noConfusion ((hdn 12 (by kernel_rfl)).symm.trans h)), (fun _ => (fun h => Bool.noConfusion ((hdn 12 (by kernel_rfl)).symm.trans h))), (fun _ h => Bool.noConfusion h), (fun _ h => Bool.noConfusion h), (fun _ => ⟨_, hY⟩), hI.v0, hI.v1, hI.v2, hI.v3, hI.v4, hI.v5, hI.v6, hI.v7, hI.v8, hI.v9, hI.v10, hI.v13, hI.v14⟩
              case finy =>

                intro xs done y hI hd
                obtain ⟨u, hY⟩ := hI.e15 (hd 15 (by decide))
                simp only [putsF, List.foldl_cons, List.foldl_nil, Act.put, List.setIfInBounds_toArray, List.set_cons_zero, List.set_cons_succ]
                clear hI hd
                have lv : C.v < y.heap.size := hY.pl.lt
                have v11 : y.cell? ⟨C.v, 11, none⟩ = some (.slice (some ⟨C.T 4, 0, none⟩) C.l.length C.l.length) := hY.pl.cell (j := 11) (by simp [PyC.plL])
                have t4 := hY.tab 4 (by omega)
                have lt4 := t4.lt
                have f4 := t4.frozen j
                have c4 : y.cell? ⟨C.T 4, j, none⟩ = some (.int .i64 (tab 4 j)) := by simpa using t4.cell0 (i := j) hlt (by omega)
                have k2 := hY.setT (k := 4) (i := j) (by omega) hlt (-1)
                rw [HTAB.out, tabS_j] at k2
                have K2 := Lib.hid k2
                clear hY t4 k2 HX HTAB LT HA2 HSN hU0
                go_wp2_with fail
                go_roundw
                case rel => exact ⟨j + 1, _, hlt, by go_num, K2.out⟩
                case measure => simp [intOf]; omega
          · have hge : ¬ (j : Int) < (C.l.length : Int) := by omega
            obtain rfl : j = C.l.length := by omega
            have hb := hL.b
            obtain ⟨E, hEv, hEb, hEf, hEl, hE⟩ := hL.toRf HRR.out HLL.out
            have S := HS.out E hEf hEl
            have G0 := Lib.hid (HGO.out E hEf hEl)
            have HE := Lib.hid hE
            have HB := Lib.hid hb
            have HX := Lib.hid (And.intro hEb (And.intro hEf hEl))
            rw [← hEv]
            have hbv : w.heap.size ≤ E.v := by rw [hEv]; exact hL.lv
            clear hL hE hb hge hlt hj HS HGO HRR HLL hEb hEf hEl hEv h1 h2
            obtain ⟨qs, uv, hin⟩ := HE.out
            have v3 : wr.cell? ⟨E.v, 3, none⟩ = some (.int .i64 (raw0 C.f C.l).now) := hin.pc.2.2.2.1
            have lv : E.v < wr.heap.size := hin.pl.lt
            have f3 := hin.frv 3
            have K0 : Hid (RfIn E (wr.setCell ⟨E.v, 3, none⟩ (.int .i64 0)) (raw0 C.f C.l) qs uv) := hin.setN 0
            have B0 := Lib.hid (HB.out.setCell (p := ⟨E.v, 3, none⟩) hbv (.int .i64 0))
            clear hin HE HB
            go_upto_region 14 with fail
            clear v3 lv f3
            go_loopg [] N (fun k wr => ∃ x' : RawR, RfAt E wr x' ∧ Below w.heap.size w wr ∧ PlayGo E k x' x9 ∧ k ≤ N ∧ x'.now = 4001 - (k : Int))
            case atStart => exact ⟨raw0 C.f C.l, ⟨_, _, K0.out⟩, B0.out, G0.out, Nat.le_refl _, by rw [HNN.out]; rfl⟩
            case round =>
              clear K0 B0 G0
              obtain ⟨x', hat, hb, hg, hk4, hn⟩ := hrel
              obtain ⟨qs, uv, hin⟩ := hat
              have v3 : wr.cell? ⟨E.v, 3, none⟩ = some (.int .i64 x'.now) := hin.pc.2.2.2.1
              have lv : E.v < wr.heap.size := hin.pl.lt
              cases gk with
              | zero =>
                have hn : x'.now = 4001 := by rw [hn]; rfl
                rw [hn] at v3
                have hg : x' = x9 := hg
                subst hg
                have HE := Lib.hid hin
                have HB := Lib.hid hb
                clear hin hb hn hk4
                go_wp2_with fail
                go_ret
                exact ⟨E, rfl, HX.out.1, HX.out.2.1, HX.out.2.2, HB.out, _, _, HE.out⟩
              | succ k =>
                obtain ⟨x1, x2, x3, x4, x5, x6, ht, hn6, hg⟩ := hg
                have HT := Lib.hid (rtick_any ⟨_, _, hin⟩ S ht)
                obtain ⟨nn, hnn⟩ : ∃ z, z = x'.now := ⟨_, rfl⟩
                rw [← hnn] at v3 hn hn6 hg
                have HN6 := Lib.hid hn6
                have HG := Lib.hid hg
                have HB := Lib.hid hb
                have hN := HNN.out
                have hle : nn ≤ 4000 := by omega
                have hge0 : 0 ≤ nn := by omega
                have e1 : IntKind.i64.wrap (nn + 1) = nn + 1 := IntWalk.i64_in _ (by omega)
                have HN := Lib.hid hn
                clear hin hb hn6 hg ht hnn hN hn
                go_upto_region 15 with (go_at_call 67; refine HT.out.mono ?_; rintro e w9 ⟨rfl, hb9, hr9⟩; have HB9 := Lib.hid hb9; have HR9 := Lib.hid hr9; clear hb9 hr9 HT)
                clear v3 lv
                obtain ⟨qs2, uv2, k9⟩ := HR9.out
                have v3 : w9.cell? ⟨E.v, 3, none⟩ = some (.int .i64 nn) := by rw [← HN6.out]; exact k9.pc.2.2.2.1
                have lv : E.v < w9.heap.size := k9.pl.lt
                have f3 := k9.frv 3
                have K9 := Lib.hid (k9.setN (nn + 1))
                have B9 := Lib.hid ((HB.out.trans (by have h := HB9.out; rw [HX.out.1] at h; exact h)).setCell (p := ⟨E.v, 3, none⟩) hbv (.int .i64 (nn + 1)))
                clear k9 HB9 HR9 HB
                go_wp2_with fail
                go_roundg k
                case measure => omega
                case rel => exact ⟨_, ⟨_, _, K9.out⟩, B9.out, HG.out, by omega, by have := HN.out; show nn + 1 = _; omega⟩
end Go.Proofs.Ytijbhcdnbaaobaa
