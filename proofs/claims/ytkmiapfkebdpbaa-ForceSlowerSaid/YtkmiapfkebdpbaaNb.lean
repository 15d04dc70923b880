/- Contract of Worst. Conditions: a path reads as points. -/
import Derived.Test.YtkmiapfkebdpbaaNa
import Derived.Test.YtkmiapfkebdpbaaRi
import Derived.Test.YtkmiapfkebdpbaaZe
namespace Go.Proofs.Ytkmiapfkebdpbaa
open Go Go.RowKit Go.Shelf
attribute [local go_sem] Oper.semAt_some

def wrS (t : List Pt) (m : Mot) (fails : Bool) : Wst × Int :=
  if motionE t m ≠ 0 then (⟨0, 0, 0⟩, motionE t m) else (worstP t (chgs t.length m.top.toNat (stepOf m fails).toNat), 0)
def wsE (s : Wst × Int) : Ending := .returned (.tuple #[.int .i64 s.1.side, .int .i64 s.1.low, .int .i64 s.1.high, .int .i64 s.2])
def WsPost (w : World) (t : List Pt) (m : Mot) (fails : Bool) (e : Ending) (w' : World) : Prop := Below w.heap.size w w' ∧ e = wsE (wrS t m fails)
def wstX (t : List Pt) (w : Wst) (c : Chg) : Wst := ⟨max w.side (sideZ (feltX t c)), min w.low (feltX t c).z, max w.high (feltX t c).z⟩
def worstX (t : List Pt) (l : List Chg) : Wst := l.foldl (wstX t) ⟨0, 9223372036854775807, -9223372036854775808⟩
theorem worstX_snoc (t : List Pt) (l : List Chg) (c : Chg) : worstX t (l ++ [c]) = wstX t (worstX t l) c := by unfold worstX; rw [List.foldl_append]; rfl
theorem worstX_eq {t : List Pt} {T s : Nat} (hn : t.length ≤ 100) (hT : T ≤ 10) : worstX t (phL T s t.length) = worstP t (chgs t.length T s) := by
  rw [chgs_ph]
  unfold worstX worstP
  have h : ∀ (l : List Chg) (a : Wst), (∀ c ∈ l, c ∈ phL T s t.length) → l.foldl (wstX t) a = l.foldl (wstep t) a := by
    intro l
    induction l with
    | nil => intro a _; rfl
    | cons c l ih =>
      intro a hl
      simp only [List.foldl_cons]
      have e : wstX t a c = wstep t a c := by unfold wstX wstep; rw [feltX_in rfl hn hT (hl c List.mem_cons_self)]
      rw [e]
      exact ih _ fun c hc => hl c (List.mem_cons_of_mem _ hc)
  exact h _ _ fun c hc => hc
/-- What holds between the rounds: the three results, the path. -/
structure WIn (w : World) (wt : Nat) (slc : Value) (y : World) (s : Wst) : Prop where
  bel : Below w.heap.size w y
  r1 : Row y (w.heap.size + 1) 3 [.int .i64 s.side]
  r2 : Row y (w.heap.size + 2) 3 [.int .i64 s.low]
  r3 : Row y (w.heap.size + 3) 3 [.int .i64 s.high]
  tr : Row y wt 76 [slc]
theorem WIn.below {w y z : World} {wt : Nat} {slc : Value} {s : Wst} (h : WIn w wt slc y s) (hb : Below y.heap.size y z) : WIn w wt slc z s :=
  ⟨h.bel.trans (hb.mono h.bel.size), h.r1.below hb h.r1.lt, h.r2.below hb h.r2.lt, h.r3.below hb h.r3.lt, h.tr.below hb h.tr.lt⟩
theorem WIn.set1 {w y : World} {wt : Nat} {slc : Value} {s : Wst} (h : WIn w wt slc y s) (hw : w.heap.size + 4 ≤ wt) (v : Int) : WIn w wt slc (y.setCell ⟨w.heap.size + 1, 0, none⟩ (.int .i64 v)) ⟨v, s.low, s.high⟩ :=
  ⟨h.bel.setCell (p := ⟨w.heap.size + 1, 0, none⟩) (by show _ ≤ w.heap.size + 1; omega) _, h.r1.set 0 _, h.r2.far (show w.heap.size + 2 ≠ w.heap.size + 1 by omega) _, h.r3.far (show w.heap.size + 3 ≠ w.heap.size + 1 by omega) _, h.tr.far (show wt ≠ w.heap.size + 1 by omega) _⟩
theorem WIn.set2 {w y : World} {wt : Nat} {slc : Value} {s : Wst} (h : WIn w wt slc y s) (hw : w.heap.size + 4 ≤ wt) (v : Int) : WIn w wt slc (y.setCell ⟨w.heap.size + 2, 0, none⟩ (.int .i64 v)) ⟨s.side, v, s.high⟩ :=
  ⟨h.bel.setCell (p := ⟨w.heap.size + 2, 0, none⟩) (by show _ ≤ w.heap.size + 2; omega) _, h.r1.far (show w.heap.size + 1 ≠ w.heap.size + 2 by omega) _, h.r2.set 0 _, h.r3.far (show w.heap.size + 3 ≠ w.heap.size + 2 by omega) _, h.tr.far (show wt ≠ w.heap.size + 2 by omega) _⟩
theorem WIn.set3 {w y : World} {wt : Nat} {slc : Value} {s : Wst} (h : WIn w wt slc y s) (hw : w.heap.size + 4 ≤ wt) (v : Int) : WIn w wt slc (y.setCell ⟨w.heap.size + 3, 0, none⟩ (.int .i64 v)) ⟨s.side, s.low, v⟩ :=
  ⟨h.bel.setCell (p := ⟨w.heap.size + 3, 0, none⟩) (by show _ ≤ w.heap.size + 3; omega) _, h.r1.far (show w.heap.size + 1 ≠ w.heap.size + 3 by omega) _, h.r2.far (show w.heap.size + 2 ≠ w.heap.size + 3 by omega) _, h.r3.set 0 _, h.tr.far (show wt ≠ w.heap.size + 3 by omega) _⟩
theorem WIn.own {w X Y : World} {wt : Nat} {slc : Value} {s : Wst} {row : Option Nat} (h : WIn w wt slc X s) (hg : X.grownBy Y row) (hr : ∀ r, row = some r → w.heap.size ≤ r ∧ ∃ o : Obj, X.heap[r]? = some o ∧ o.isCells = false) : WIn w wt slc Y s :=
  ⟨h.bel.grown hg h.bel.size fun k e => (hr k e).1, row_turn h.r1 hg fun r e => (hr r e).2, row_turn h.r2 hg fun r e => (hr r e).2, row_turn h.r3 hg fun r e => (hr r e).2, row_turn h.tr hg fun r e => (hr r e).2⟩

theorem int_eq {a b : Int} (h : a = b) : Value.int .i64 a = Value.int .i64 b := by rw [h]
/-- What holds in the round's last statement. -/
def RI (w : World) (wt bm bs px : Nat) (slc : Value) (p : Pt) (X : World) (s n : Wst) (done : Nat → Bool) (y : World) : Prop :=
  WIn w wt slc y ⟨if done 12 = true then n.side else s.side, if done 13 = true then n.low else s.low, if done 14 = true then n.high else s.high⟩ ∧ Row y px 28 [.int .i64 p.x, .int .i64 p.y, .int .i64 p.z] ∧ KeptTwo bm bs X y ∧ KeepsOthers X y
section
variable {w : World} {wt bm bs px : Nat} {slc : Value} {p : Pt} {X : World} {s n : Wst} {done : Nat → Bool} {y z : World}
theorem RI.same (h : RI w wt bm bs px slc p X s n done y) {i : Nat} (h1 : i ≠ 12) (h2 : i ≠ 13) (h3 : i ≠ 14) : RI w wt bm bs px slc p X s n (setD done i) y := by
  have e : ∀ k, k ≠ i → setD done i k = done k := fun k hk => if_neg hk
  unfold RI
  rw [e 12 (Ne.symm h1), e 13 (Ne.symm h2), e 14 (Ne.symm h3)]
  exact h
theorem RI.below (h : RI w wt bm bs px slc p X s n done y) (hb : Below y.heap.size y z) (hm : bm < X.heap.size) (hs : bs < X.heap.size) : RI w wt bm bs px slc p X s n done z :=
  ⟨h.1.below hb, h.2.1.below hb h.2.1.lt, h.2.2.1.trans (KeptTwo.below hb (Nat.lt_of_lt_of_le hm h.2.2.2.size) (Nat.lt_of_lt_of_le hs h.2.2.2.size)), h.2.2.2.trans (others_below hb)⟩
theorem RI.st12 (h : RI w wt bm bs px slc p X s n done y) (h0 : w.heap.size + 4 ≤ wt) (h1 : w.heap.size + 4 ≤ bm) (h2 : w.heap.size + 4 ≤ bs) (h3 : w.heap.size + 4 ≤ px) : RI w wt bm bs px slc p X s n (setD done 12) (y.setCell ⟨w.heap.size + 1, 0, none⟩ (.int .i64 n.side)) := by
  have e : ∀ k, k ≠ 12 → setD done 12 k = done k := fun k hk => if_neg hk
  have e0 : setD done 12 12 = true := if_pos rfl
  refine ⟨?_, h.2.1.far (show px ≠ w.heap.size + 1 by omega) _, h.2.2.1.trans (KeptTwo.setCell y _ _ (show bm ≠ w.heap.size + 1 by omega) (show bs ≠ w.heap.size + 1 by omega)), h.2.2.2.trans (KeepsOthers.setCell _ _ _)⟩
  rw [e0, e 13 (by decide), e 14 (by decide), if_pos rfl]
  exact h.1.set1 h0 _
theorem RI.st13 (h : RI w wt bm bs px slc p X s n done y) (h0 : w.heap.size + 4 ≤ wt) (h1 : w.heap.size + 4 ≤ bm) (h2 : w.heap.size + 4 ≤ bs) (h3 : w.heap.size + 4 ≤ px) : RI w wt bm bs px slc p X s n (setD done 13) (y.setCell ⟨w.heap.size + 2, 0, none⟩ (.int .i64 n.low)) := by
  have e : ∀ k, k ≠ 13 → setD done 13 k = done k := fun k hk => if_neg hk
  have e0 : setD done 13 13 = true := if_pos rfl
  refine ⟨?_, h.2.1.far (show px ≠ w.heap.size + 2 by omega) _, h.2.2.1.trans (KeptTwo.setCell y _ _ (show bm ≠ w.heap.size + 2 by omega) (show bs ≠ w.heap.size + 2 by omega)), h.2.2.2.trans (KeepsOthers.setCell _ _ _)⟩
  rw [e0, e 12 (by decide), e 14 (by decide), if_pos rfl]
  exact h.1.set2 h0 _
theorem RI.st14 (h : RI w wt bm bs px slc p X s n done y) (h0 : w.heap.size + 4 ≤ wt) (h1 : w.heap.size + 4 ≤ bm) (h2 : w.heap.size + 4 ≤ bs) (h3 : w.heap.size + 4 ≤ px) : RI w wt bm bs px slc p X s n (setD done 14) (y.setCell ⟨w.heap.size + 3, 0, none⟩ (.int .i64 n.high)) := by
  have e : ∀ k, k ≠ 14 → setD done 14 k = done k := fun k hk => if_neg hk
  have e0 : setD done 14 14 = true := if_pos rfl
  refine ⟨?_, h.2.1.far (show px ≠ w.heap.size + 3 by omega) _, h.2.2.1.trans (KeptTwo.setCell y _ _ (show bm ≠ w.heap.size + 3 by omega) (show bs ≠ w.heap.size + 3 by omega)), h.2.2.2.trans (KeepsOthers.setCell _ _ _)⟩
  rw [e0, e 12 (by decide), e 13 (by decide), if_pos rfl]
  exact h.1.set3 h0 _
end

set_option maxRecDepth 100000 in
theorem worst_end {w Z : World} {t : List Pt} {m : Mot} {fails : Bool} {D wt : Nat} {slc : Value} {s : Wst} (hK : Z.heap[D]? = some (.deferred (some []))) (hD : w.heap.size ≤ D) (hI : WIn w wt slc Z s) (hs : wrS t m fails = (s, 0)) (a : Act) (hd : a.defers = [{ target := .collected D, args := #[] }])
    (h6 : a.tmps[6]? = some (.pointer (some ⟨w.heap.size + 1, 0, none⟩))) (h7 : a.tmps[7]? = some (.pointer (some ⟨w.heap.size + 2, 0, none⟩))) (h8 : a.tmps[8]? = some (.pointer (some ⟨w.heap.size + 3, 0, none⟩))) (h9 : a.tmps[9]? = some (.int .i64 0)) :
    bodyPostM Fence.wide 8 Try.prog Try.f22 (WsPost w t m fails) Exit.ret a Z := by
  obtain ⟨tmps, defers⟩ := a
  dsimp only at *
  subst hd
  refine ⟨by simp, .inl ⟨_, _, rfl, run_takeDeferred hK, ?_⟩⟩
  have hg := grownBy_putObj' Z D (.deferred none)
  have hr : ∀ r, some D = some r → w.heap.size ≤ r ∧ ∃ o : Obj, Z.heap[r]? = some o ∧ o.isCells = false := fun r e => by cases e; exact ⟨hD, _, hK, rfl⟩
  have hY := hI.own hg hr
  generalize Z.putObj D (.deferred none) = Y at *
  have a1 : Y.cell? ⟨w.heap.size + 1, 0, none⟩ = some (.int .i64 s.side) := hY.r1.cell (j := 0) (by simp)
  have a2 : Y.cell? ⟨w.heap.size + 2, 0, none⟩ = some (.int .i64 s.low) := hY.r2.cell (j := 0) (by simp)
  have a3 : Y.cell? ⟨w.heap.size + 3, 0, none⟩ = some (.int .i64 s.high) := hY.r3.cell (j := 0) (by simp)
  refine ⟨.tuple #[.int .i64 s.side, .int .i64 s.low, .int .i64 s.high, .int .i64 0], by simp [results, Try.results22, go_sem, *], hY.bel, ?_⟩
  rw [hs]
  rfl
set_option maxRecDepth 100000 in
set_option maxHeartbeats 4000000 in
theorem Worst_any (t : List Pt) (m : Mot) (fails : Bool) (A : Option Addr) (c B : Nat) (w : World) (hB : B ≤ w.heap.size) (hr : Reads w B 3 A t.length (ptCells t)) (hn : t.length ≤ maxLen) :
    Calls Try.prog 22 #[.slice A t.length c, motV m, .bool fails] w (WsPost w t m fails) := by
  obtain ⟨W, hW⟩ : ∃ W, W = (((w.alloc (.cells #[.int .i64 m.top, .int .i64 m.ease, .int .i64 m.jerk] 35)).alloc (.cells #[.int .i64 0] 3)).alloc (.cells #[.int .i64 0] 3)).alloc (.cells #[.int .i64 0] 3) := ⟨_, rfl⟩
  have sW : W.heap.size = w.heap.size + 4 := by subst hW; simp
  have bW : Below w.heap.size w W := by subst hW; exact ((((Below.refl _ _).alloc (Nat.le_refl _) _).alloc (by simp) _).alloc (by simp; omega) _).alloc (by simp; omega) _
  have r0 : Row W w.heap.size 35 [.int .i64 m.top, .int .i64 m.ease, .int .i64 m.jerk] := by subst hW; exact (((Row.new w _ _).alloc _).alloc _).alloc _
  have r1 : Row W (w.heap.size + 1) 3 [.int .i64 0] := by
    subst hW
    have h := ((Row.new (w.alloc (.cells #[.int .i64 m.top, .int .i64 m.ease, .int .i64 m.jerk] 35)) 3 #[.int .i64 0]).alloc (.cells #[.int .i64 0] 3)).alloc (.cells #[.int .i64 0] 3)
    simpa only [World.size_alloc] using h
  have r2 : Row W (w.heap.size + 2) 3 [.int .i64 0] := by
    subst hW
    have h := (Row.new ((w.alloc (.cells #[.int .i64 m.top, .int .i64 m.ease, .int .i64 m.jerk] 35)).alloc (.cells #[.int .i64 0] 3)) 3 #[.int .i64 0]).alloc (.cells #[.int .i64 0] 3)
    simpa only [World.size_alloc] using h
  have r3 : Row W (w.heap.size + 3) 3 [.int .i64 0] := by
    subst hW
    have h := Row.new (((w.alloc (.cells #[.int .i64 m.top, .int .i64 m.ease, .int .i64 m.jerk] 35)).alloc (.cells #[.int .i64 0] 3)).alloc (.cells #[.int .i64 0] 3)) 3 #[.int .i64 0]
    simpa only [World.size_alloc] using h
  unfold motV
  refine (callsIn_wide (n := 8)).1 ?_
  refine callsIn_of_wp_marks Try.func22 rfl trivial ?_ rfl
  simp only [Try.ntmps22, List.size_toArray, List.length_cons, List.length_nil, Nat.reduceAdd, Nat.reduceSub, Array.replicate_succ, Array.replicate_zero, List.push_toArray, List.append_toArray, List.nil_append, List.cons_append]
  gi_wp2
  rw [← hW]
  clear hW
  refine ⟨trivial, ?_⟩
  refine (callsIn_wide.2 (checkMotion_any t m A c B W (by omega) (hr.below (bW.mono hB)) hn)).mono ?_
  rintro e w1 ⟨rfl, hb1⟩
  have b1 := bW.trans (hb1.mono bW.size)
  have s0 := r0.below hb1 r0.lt
  have s1 := r1.below hb1 r1.lt
  have s2 := r2.below hb1 r2.lt
  have s3 := r3.below hb1 r3.lt
  have zz : w.heap.size + 4 ≤ w1.heap.size := by have := hb1.size; omega
  obtain ⟨q, hq⟩ : ∃ q, q = motionE t m := ⟨_, rfl⟩
  rw [← hq]
  have Hq := Lib.hid hq
  clear hq r0 r1 r2 r3 bW
  have l1 : w1.cell? ⟨w.heap.size + 1, 0, none⟩ = some (.int .i64 0) := s1.cell (j := 0) (by simp)
  have l2 : w1.cell? ⟨w.heap.size + 2, 0, none⟩ = some (.int .i64 0) := s2.cell (j := 0) (by simp)
  have l3 : w1.cell? ⟨w.heap.size + 3, 0, none⟩ = some (.int .i64 0) := s3.cell (j := 0) (by simp)
  have f1 := s1.frozen 0
  have f2 := s2.frozen 0
  have f3 := s3.frozen 0
  obtain ⟨_, m0, m1, m2⟩ := Row.at_3 s0
  by_cases h0 : q = 0
  case neg =>
    have h1 : (q != 0) = true := by simpa using h0
    gi_wp2
    obtain ⟨Z, hZ⟩ : ∃ Z, Z = ((w1.setCell ⟨w.heap.size + 1, 0, none⟩ (.int .i64 0)).setCell ⟨w.heap.size + 2, 0, none⟩ (.int .i64 0)).setCell ⟨w.heap.size + 3, 0, none⟩ (.int .i64 0) := ⟨_, rfl⟩
    have bZ : Below w.heap.size w Z := by subst hZ; exact ((b1.setCell (by simp) _).setCell (by simp) _).setCell (by simp) _
    have t1 : Row Z (w.heap.size + 1) 3 [.int .i64 0] := by subst hZ; exact ((s1.set 0 _).far (by simp) _).far (by simp) _
    have t2 : Row Z (w.heap.size + 2) 3 [.int .i64 0] := by subst hZ; exact ((s2.far (by simp) _).set 0 _).far (by simp) _
    have t3 : Row Z (w.heap.size + 3) 3 [.int .i64 0] := by subst hZ; exact ((s3.far (by simp) _).far (by simp) _).set 0 _
    rw [show w.heap.size + 1 + 1 = w.heap.size + 2 from rfl, show w.heap.size + 2 + 1 = w.heap.size + 3 from rfl]
    rw [← hZ]
    clear hZ
    have a1 : Z.cell? ⟨w.heap.size + 1, 0, none⟩ = some (.int .i64 0) := t1.cell (j := 0) (by simp)
    have a2 : Z.cell? ⟨w.heap.size + 2, 0, none⟩ = some (.int .i64 0) := t2.cell (j := 0) (by simp)
    have a3 : Z.cell? ⟨w.heap.size + 3, 0, none⟩ = some (.int .i64 0) := t3.cell (j := 0) (by simp)
    refine ⟨.tuple #[.int .i64 0, .int .i64 0, .int .i64 0, .int .i64 q], by simp [results, Try.results22, go_sem, *], bZ, ?_⟩
    unfold wrS wsE
    rw [← Hq.out, if_pos h0]
  case pos =>
    subst h0
    obtain ⟨hpa, hmo⟩ := motionE_zero.1 Hq.out.symm
    have hmo' := (motB_iff m).1 hmo
    obtain ⟨p1, p2, p3⟩ := (pathB_iff t).1 hpa
    obtain ⟨V0, hV0⟩ : ∃ V0, V0 = (w1.setCell ⟨w.heap.size + 2, 0, none⟩ (.int .i64 9223372036854775807)).setCell ⟨w.heap.size + 3, 0, none⟩ (.int .i64 (-9223372036854775808)) := ⟨_, rfl⟩
    have sV0 : V0.heap.size = w1.heap.size := by subst hV0; simp [World.setCell]
    have bV0 : Below w.heap.size w V0 := by subst hV0; exact (b1.setCell (by simp) _).setCell (by simp) _
    have hrV0 := hr.below (bV0.mono hB)
    have v0 : Row V0 w.heap.size 35 [.int .i64 m.top, .int .i64 m.ease, .int .i64 m.jerk] := by subst hV0; exact (s0.far (by simp) _).far (by simp) _
    have v1 : Row V0 (w.heap.size + 1) 3 [.int .i64 0] := by subst hV0; exact (s1.far (by simp) _).far (by simp) _
    have v2 : Row V0 (w.heap.size + 2) 3 [.int .i64 9223372036854775807] := by subst hV0; exact (s2.set 0 _).far (by simp) _
    have v3 : Row V0 (w.heap.size + 3) 3 [.int .i64 (-9223372036854775808)] := by subst hV0; exact (s3.far (by simp) _).set 0 _
    obtain ⟨V, hV⟩ : ∃ V, V = V0.alloc (.cells #[.slice A t.length c] 76) := ⟨_, rfl⟩
    have sV : V.heap.size = w1.heap.size + 1 := by subst hV; simp [sV0]
    have bV1 : Below V0.heap.size V0 V := by subst hV; exact (Below.refl _ _).alloc (Nat.le_refl _) _
    have rV : Row V w1.heap.size 76 [.slice A t.length c] := by subst hV; rw [← sV0]; exact Row.new V0 _ _
    have bV := bV0.trans (bV1.mono bV0.size)
    have zz0 : w.heap.size < V0.heap.size := by omega
    have zz1 : w.heap.size < w1.heap.size := by omega
    obtain ⟨_, i0, i1, i2⟩ := Row.at_3 (v0.below bV1 v0.lt)
    gi_wp2
    rw [show w.heap.size + 1 + 1 = w.heap.size + 2 from rfl, show w.heap.size + 2 + 1 = w.heap.size + 3 from rfl]
    rw [← hV0, ← hV]
    clear hV0 hV
    refine ⟨trivial, ?_⟩
    refine (callsIn_wide.2 (changes_any A t.length c m fails V)).mono ?_
    rintro e w3 ⟨rfl, hb3, z3, c0, c1, c2⟩
    gi_wp2
    obtain ⟨T, hT⟩ := Int.eq_ofNat_of_zero_le (show 0 ≤ m.top by omega)
    obtain ⟨sp, hsp⟩ := Int.eq_ofNat_of_zero_le (show 0 ≤ (if fails = true then m.jerk else m.ease) by split <;> omega)
    have hsp10 : sp ≤ 10 := by have : (sp : Int) ≤ 10 := by rw [← hsp]; split <;> omega
                               omega
    rw [sV] at z3
    have b3 := bV.trans (hb3.mono bV.size)
    have I0 : WIn w w1.heap.size (.slice A t.length c) w3 (worstX t []) := ⟨b3, (v1.below bV1 v1.lt).below hb3 (by omega), (v2.below bV1 v2.lt).below hb3 (by omega), (v3.below bV1 v3.lt).below hb3 (by omega), rV.below hb3 rV.lt⟩
    have d0 : w3.cell? ⟨w1.heap.size + 1, 0, none⟩ = some (.slice A t.length c) := by rw [← sV]; exact c0.cell (j := 0) (by simp)
    have d1 : w3.cell? ⟨w1.heap.size + 1 + 1, 0, none⟩ = some (.int .i64 (T : Int)) := by rw [← sV, ← hT]; exact c1.cell (j := 0) (by simp)
    have d2 : w3.cell? ⟨w1.heap.size + 1 + 1, 1, none⟩ = some (.int .i64 m.ease) := by rw [← sV]; exact c1.cell (j := 1) (by simp)
    have d3 : w3.cell? ⟨w1.heap.size + 1 + 1, 2, none⟩ = some (.int .i64 m.jerk) := by rw [← sV]; exact c1.cell (j := 2) (by simp)
    have d4 : w3.cell? ⟨w1.heap.size + 1 + 2, 0, none⟩ = some (.int .i64 (sp : Int)) := by rw [← sV, ← hsp]; exact c2.cell (j := 0) (by simp)
    have hT10 : T ≤ 10 := by omega
    have HT := Lib.hid hT
    have Hsp := Lib.hid hsp
    have hx3 : w.heap.size + 4 ≤ w3.heap.size := by omega
    clear hT hsp c0 c1 c2 s0 s1 s2 s3 f1 f2 f3 l1 l2 l3 m0 m1 m2 v0 v1 v2 v3 i0 i1 i2 rV hb3
    refine wpIn_rangeFunc_ownH rfl (by omega) (gf := 82) (lb := #[.pointer (some ⟨w1.heap.size + 1, 0, none⟩), .pointer (some ⟨w1.heap.size + 1 + 1, 0, none⟩), .pointer (some ⟨w1.heap.size + 1 + 2, 0, none⟩)]) rfl trivial (enters_of Try.func82 (by kernel_rfl) rfl)
      (changes_stopsG 7 (by omega) (w1.heap.size + 1) (w1.heap.size + 1 + 1) (w1.heap.size + 1 + 2) A t.length c T sp m.ease m.jerk (by omega) hT10 hsp10 w3 (by omega) (by omega) (by omega) d0 d1 d2 d3 d4)
      KeptTwo.trans (KeptTwo.putObj (by omega) (by omega)) (Below.refl _ _) (fun _ => rfl)
      (fun pre W => WIn w w1.heap.size (.slice A t.length c) W (worstX t pre) ∧ w3.heap.size ≤ W.heap.size)
      (fun _ _ _ => False)
      (fun pre X Y row ⟨h1, h2⟩ hg hr => ⟨h1.own hg fun r e => ⟨by have := (hr r e).1; omega, (hr r e).2⟩, Nat.le_trans h2 hg.size⟩)
      (fun _ _ _ _ _ h _ _ => h.elim)
      ⟨I0, Nat.le_refl _⟩
      (fun ch a' W => ∃ bx, w3.heap.size ≤ bx ∧ Row W bx 24 [.int .i64 ch.ph, .int .i64 ch.bf, .int .i64 ch.af] ∧ a' = { tmps := #[.slice A t.length c, .agg #[.int .i64 m.top, .int .i64 m.ease, .int .i64 m.jerk], .bool fails, undef, .pointer (some ⟨w.heap.size, 0, none⟩), undef, .pointer (some ⟨w.heap.size + 1, 0, none⟩), .pointer (some ⟨w.heap.size + 2, 0, none⟩), .pointer (some ⟨w.heap.size + 3, 0, none⟩), .int .i64 0, .int .i64 0, .pointer (some ⟨w1.heap.size, 0, none⟩), .pointer (some ⟨bx, 0, none⟩), undef, .slice A t.length c, .agg #[.int .i64 m.top, .int .i64 m.ease, .int .i64 m.jerk], .int .i64 0, .int .i64 0, .bool false, undef, .slice A t.length c, .slice A t.length c, .agg #[.int .i64 m.top, .int .i64 m.ease, .int .i64 m.jerk], .bool fails, .func (.func 82) #[] #[.pointer (some ⟨w1.heap.size + 1, 0, none⟩), .pointer (some ⟨w1.heap.size + 1 + 1, 0, none⟩), .pointer (some ⟨w1.heap.size + 1 + 2, 0, none⟩)], encC ch, undef, undef, undef, undef, undef, undef, undef, undef, undef, undef, undef, undef, undef, undef, undef, undef, undef, undef], defers := [] })
      (fun ch a' _ X Y row hs hg hr => by obtain ⟨bx, h1, h2, h3⟩ := hs; exact ⟨bx, h1, row_turn h2 hg (fun r e => (hr r e).2), h3⟩)
      ?assign ?body ?done (fun _ _ _ _ _ _ h => h.elim)
    case assign =>
      rintro l pre ch Z K ⟨hI1, hI2⟩ hK
      unfold encC chgV
      gi_wp2
      exact hK _ _ ((KeepsOthers.alloc _ _).from _) (KeptTwo.below ((Below.refl _ Z).alloc (Nat.le_refl _) _) (by omega) (by omega)) ⟨hI1.below ((Below.refl _ Z).alloc (Nat.le_refl _) _), by simp; omega⟩ ⟨Z.heap.size, hI2, Row.new Z _ _, rfl⟩
    case body =>
      rintro l pre ch a' Z hl ⟨r, hrec⟩ ⟨hI1, hI2⟩ ⟨bx, hbx, rX, rfl⟩ hlt
      have zB : B ≤ Z.heap.size := Nat.le_trans hB hI1.bel.size
      have hrZ := hr.below (hI1.bel.mono hB)
      obtain ⟨_, e0, e1, e2⟩ := Row.at_3 rX
      have tr0 : Z.cell? ⟨w1.heap.size, 0, none⟩ = some (.slice A t.length c) := hI1.tr.cell (j := 0) (by simp)
      obtain ⟨p, hp⟩ : ∃ p, p = feltX t ch := ⟨_, rfl⟩
      have hfe : feltB p = true := by rw [hp]; exact feltX_bd hpa ch
      have hmx : Try.prog.follows .mixedOrders = true := by kernel_rfl
      have hd : 1 ≤ 8 - 1 - 1 := by omega
      obtain ⟨s, hs⟩ : ∃ s, s = worstX t pre := ⟨_, rfl⟩
      rw [← hs] at hI1
      have HW : Hid (worstX t (pre ++ [ch]) = ⟨max s.side (sideZ p), min s.low p.z, max s.high p.z⟩) := by show _ = _; rw [worstX_snoc, ← hs, hp]; rfl
      have Hp := Lib.hid hp
      clear hp hs
      gi_wp2
      refine ⟨trivial, ?_⟩
      refine (CallsIn.inRound l (callsIn_wide.2 (feltX_at p t ch Hp.out A c B _ zB hrZ hpa))).mono ?_
      rintro e y1 ⟨rfl, hy1⟩
      unfold ptV
      gi_wp2
      obtain ⟨X, hX⟩ : ∃ X, X = y1.alloc (.cells #[.int .i64 p.x, .int .i64 p.y, .int .i64 p.z] 28) := ⟨_, rfl⟩
      rw [← hX]
      have bX : Below Z.heap.size Z X := by subst hX; exact hy1.alloc hy1.size _
      have rP : Row X y1.heap.size 28 [.int .i64 p.x, .int .i64 p.y, .int .i64 p.z] := by subst hX; exact Row.new y1 _ _
      have zX := bX.size
      have hpx : w.heap.size + 4 ≤ y1.heap.size := by have := hy1.size; omega
      obtain ⟨sv, hsv⟩ : ∃ sv, sv = sideZ p := ⟨_, rfl⟩
      rw [← hsv] at HW
      have Hsv := Lib.hid hsv
      have hI1X := hI1.below bX
      clear hX hsv
      have Hst : Hid (RI w w1.heap.size (w1.heap.size + 1 + 1) (w1.heap.size + 1 + 2) y1.heap.size (.slice A t.length c) p X s ⟨max s.side sv, min s.low p.z, max s.high p.z⟩ (fun _ => false) X.drew) := ⟨⟨hI1X.bel.drew, hI1X.r1.drew, hI1X.r2.drew, hI1X.r3.drew, hI1X.tr.drew⟩, rP.drew, fun _ _ _ _ h => h, ⟨Nat.le_refl _, fun _ _ h _ => h⟩⟩
      refine wpIn_region_steps 15 (ord := [0, 1, 2, 3, 4, 5, 6, 7, 8, 9, 10, 11, 12, 13, 14]) (ds := [(0, 29), (1, 30), (2, 31), (3, 32), (4, 33), (5, 34), (6, 35), (7, 36), (8, 37), (9, 38), (10, 39), (11, 40)]) (I := (RI w w1.heap.size (w1.heap.size + 1 + 1) (w1.heap.size + 1 + 2) y1.heap.size (.slice A t.length c) p X s ⟨max s.side sv, min s.low p.z, max s.high p.z⟩)) (V := fun j => isV ((([?va0, ?va1, ?va2, .int .i64 (max s.side sv), ?va4, ?va5, ?va6, .int .i64 (min s.low p.z), ?va8, ?va9, ?va10, .int .i64 (max s.high p.z), undef, undef, undef] : List Value)[j]?).getD undef)) (by kernel_rfl) (by kernel_rfl) rfl ?ia (StepsE.cons (k := 0) (k' := 1) (o := ⟨some 29, _, _, _, _, _⟩) rfl rfl ?sa0 (StepsE.cons (k := 1) (k' := 2) (o := ⟨some 30, _, _, _, _, _⟩) rfl rfl ?sa1 (StepsE.cons (k := 2) (k' := 3) (o := ⟨some 31, _, _, _, _, _⟩) rfl rfl ?sa2 (StepsE.cons (k := 3) (k' := 4) (o := ⟨some 32, _, _, _, _, _⟩) rfl rfl ?sa3 (StepsE.cons (k := 4) (k' := 5) (o := ⟨some 33, _, _, _, _, _⟩) rfl rfl ?sa4 (StepsE.cons (k := 5) (k' := 6) (o := ⟨some 34, _, _, _, _, _⟩) rfl rfl ?sa5 (StepsE.cons (k := 6) (k' := 7) (o := ⟨some 35, _, _, _, _, _⟩) rfl rfl ?sa6 (StepsE.cons (k := 7) (k' := 8) (o := ⟨some 36, _, _, _, _, _⟩) rfl rfl ?sa7 (StepsE.cons (k := 8) (k' := 9) (o := ⟨some 37, _, _, _, _, _⟩) rfl rfl ?sa8 (StepsE.cons (k := 9) (k' := 10) (o := ⟨some 38, _, _, _, _, _⟩) rfl rfl ?sa9 (StepsE.cons (k := 10) (k' := 11) (o := ⟨some 39, _, _, _, _, _⟩) rfl rfl ?sa10 (StepsE.cons (k := 11) (k' := 12) (o := ⟨some 40, _, _, _, _, _⟩) rfl rfl ?sa11 (StepsE.cons (k := 12) (k' := 13) (o := ⟨none, _, _, _, _, _⟩) rfl rfl ?sa12 (StepsE.cons (k := 13) (k' := 14) (o := ⟨none, _, _, _, _, _⟩) rfl rfl ?sa13 (StepsE.cons (k := 14) (k' := 15) (o := ⟨none, _, _, _, _, _⟩) rfl rfl ?sa14 StepsE.nil))))))))))))))) ?fina
      case ia => exact Hst.out
      case sa0 =>
        intro xs done y hI hd0 hdn hup hV K hK
        refine wpOpIn_go (o := ⟨some 29, _, _, _, _, _⟩) rfl rfl ?_
        clear hV
        simp only [putsF, List.foldl_cons, List.foldl_nil, Act.put, List.setIfInBounds_toArray, List.set_cons_zero, List.set_cons_succ] at hK ⊢
        have c1 : y.cell? ⟨w.heap.size + 1, 0, none⟩ = some (.int .i64 s.side) := by have h := hI.1.r1.cell (j := 0) (by simp); rw [hdn 12 (by kernel_rfl)] at h; simpa using h
        gi_wp2
        exact hK.out _ _ (hI.same (by decide) (by decide) (by decide)) (by exact rfl) (fun _ _ _ _ _ h => h)
      case sa1 =>
        intro xs done y hI hd0 hdn hup hV K hK
        refine wpOpIn_go (o := ⟨some 30, _, _, _, _, _⟩) rfl rfl ?_
        clear hV
        simp only [putsF, List.foldl_cons, List.foldl_nil, Act.put, List.setIfInBounds_toArray, List.set_cons_zero, List.set_cons_succ] at hK ⊢
        obtain ⟨_, g0, g1, g2⟩ := Row.at_3 hI.2.1
        gi_wp2
        exact hK.out _ _ (hI.same (by decide) (by decide) (by decide)) (by exact rfl) (fun _ _ _ _ _ h => h)
      case sa2 =>
        intro xs done y hI hd0 hdn hup hV K hK
        refine wpOpIn_go (o := ⟨some 31, _, _, _, _, _⟩) rfl rfl ?_
        have e1 := hV 1 (by kernel_rfl)
        dsimp only [isV, List.getElem?_cons_succ, List.getElem?_cons_zero, Option.getD_some] at e1
        clear hV
        simp only [putsF, List.foldl_cons, List.foldl_nil, Act.put, List.setIfInBounds_toArray, List.set_cons_zero, List.set_cons_succ] at hK ⊢
        simp only [e1] at hK ⊢
        clear e1
        gi_wp2
        refine ⟨trivial, ?_⟩
        refine (CallsIn.inRound l (callsIn_wide.2 (sideways_at p sv Hsv.out hfe _))).mono ?_
        rintro e z ⟨rfl, hz⟩
        gi_wp2
        exact hK.out _ _ ((hI.below hz (by omega) (by omega)).same (by decide) (by decide) (by decide)) (by exact rfl) (fun _ _ _ _ _ h => h)
      case sa3 =>
        intro xs done y hI hd0 hdn hup hV K hK
        refine wpOpIn_go (o := ⟨some 32, _, _, _, _, _⟩) rfl rfl ?_
        have e0 := hV 0 (by kernel_rfl)
        dsimp only [isV, List.getElem?_cons_succ, List.getElem?_cons_zero, Option.getD_some] at e0
        have e2 := hV 2 (by kernel_rfl)
        dsimp only [isV, List.getElem?_cons_succ, List.getElem?_cons_zero, Option.getD_some] at e2
        clear hV
        simp only [putsF, List.foldl_cons, List.foldl_nil, Act.put, List.setIfInBounds_toArray, List.set_cons_zero, List.set_cons_succ] at hK ⊢
        simp only [e0, e2] at hK ⊢
        clear e0 e2
        gi_wp2
        all_goals exact hK.out _ _ (hI.same (by decide) (by decide) (by decide)) (int_eq (by omega)) (fun _ _ _ _ _ h => h)
      case sa4 =>
        intro xs done y hI hd0 hdn hup hV K hK
        refine wpOpIn_go (o := ⟨some 33, _, _, _, _, _⟩) rfl rfl ?_
        clear hV
        simp only [putsF, List.foldl_cons, List.foldl_nil, Act.put, List.setIfInBounds_toArray, List.set_cons_zero, List.set_cons_succ] at hK ⊢
        have c2 : y.cell? ⟨w.heap.size + 2, 0, none⟩ = some (.int .i64 s.low) := by have h := hI.1.r2.cell (j := 0) (by simp); rw [hdn 13 (by kernel_rfl)] at h; simpa using h
        gi_wp2
        exact hK.out _ _ (hI.same (by decide) (by decide) (by decide)) (by exact rfl) (fun _ _ _ _ _ h => h)
      case sa5 =>
        intro xs done y hI hd0 hdn hup hV K hK
        refine wpOpIn_go (o := ⟨some 34, _, _, _, _, _⟩) rfl rfl ?_
        clear hV
        simp only [putsF, List.foldl_cons, List.foldl_nil, Act.put, List.setIfInBounds_toArray, List.set_cons_zero, List.set_cons_succ] at hK ⊢
        gi_wp2
        exact hK.out _ _ (hI.same (by decide) (by decide) (by decide)) (by exact rfl) (fun _ _ _ _ _ h => h)
      case sa6 =>
        intro xs done y hI hd0 hdn hup hV K hK
        refine wpOpIn_go (o := ⟨some 35, _, _, _, _, _⟩) rfl rfl ?_
        have e5 := hV 5 (by kernel_rfl)
        dsimp only [isV, List.getElem?_cons_succ, List.getElem?_cons_zero, Option.getD_some] at e5
        clear hV
        simp only [putsF, List.foldl_cons, List.foldl_nil, Act.put, List.setIfInBounds_toArray, List.set_cons_zero, List.set_cons_succ] at hK ⊢
        simp only [e5] at hK ⊢
        clear e5
        obtain ⟨_, g0, g1, g2⟩ := Row.at_3 hI.2.1
        gi_wp2
        exact hK.out _ _ (hI.same (by decide) (by decide) (by decide)) (by exact rfl) (fun _ _ _ _ _ h => h)
      case sa7 =>
        intro xs done y hI hd0 hdn hup hV K hK
        refine wpOpIn_go (o := ⟨some 36, _, _, _, _, _⟩) rfl rfl ?_
        have e4 := hV 4 (by kernel_rfl)
        dsimp only [isV, List.getElem?_cons_succ, List.getElem?_cons_zero, Option.getD_some] at e4
        have e6 := hV 6 (by kernel_rfl)
        dsimp only [isV, List.getElem?_cons_succ, List.getElem?_cons_zero, Option.getD_some] at e6
        clear hV
        simp only [putsF, List.foldl_cons, List.foldl_nil, Act.put, List.setIfInBounds_toArray, List.set_cons_zero, List.set_cons_succ] at hK ⊢
        simp only [e4, e6] at hK ⊢
        clear e4 e6
        gi_wp2
        all_goals exact hK.out _ _ (hI.same (by decide) (by decide) (by decide)) (int_eq (by omega)) (fun _ _ _ _ _ h => h)
      case sa8 =>
        intro xs done y hI hd0 hdn hup hV K hK
        refine wpOpIn_go (o := ⟨some 37, _, _, _, _, _⟩) rfl rfl ?_
        clear hV
        simp only [putsF, List.foldl_cons, List.foldl_nil, Act.put, List.setIfInBounds_toArray, List.set_cons_zero, List.set_cons_succ] at hK ⊢
        have c3 : y.cell? ⟨w.heap.size + 3, 0, none⟩ = some (.int .i64 s.high) := by have h := hI.1.r3.cell (j := 0) (by simp); rw [hdn 14 (by kernel_rfl)] at h; simpa using h
        gi_wp2
        exact hK.out _ _ (hI.same (by decide) (by decide) (by decide)) (by exact rfl) (fun _ _ _ _ _ h => h)
      case sa9 =>
        intro xs done y hI hd0 hdn hup hV K hK
        refine wpOpIn_go (o := ⟨some 38, _, _, _, _, _⟩) rfl rfl ?_
        clear hV
        simp only [putsF, List.foldl_cons, List.foldl_nil, Act.put, List.setIfInBounds_toArray, List.set_cons_zero, List.set_cons_succ] at hK ⊢
        gi_wp2
        exact hK.out _ _ (hI.same (by decide) (by decide) (by decide)) (by exact rfl) (fun _ _ _ _ _ h => h)
      case sa10 =>
        intro xs done y hI hd0 hdn hup hV K hK
        refine wpOpIn_go (o := ⟨some 39, _, _, _, _, _⟩) rfl rfl ?_
        have e9 := hV 9 (by kernel_rfl)
        dsimp only [isV, List.getElem?_cons_succ, List.getElem?_cons_zero, Option.getD_some] at e9
        clear hV
        simp only [putsF, List.foldl_cons, List.foldl_nil, Act.put, List.setIfInBounds_toArray, List.set_cons_zero, List.set_cons_succ] at hK ⊢
        simp only [e9] at hK ⊢
        clear e9
        obtain ⟨_, g0, g1, g2⟩ := Row.at_3 hI.2.1
        gi_wp2
        exact hK.out _ _ (hI.same (by decide) (by decide) (by decide)) (by exact rfl) (fun _ _ _ _ _ h => h)
      case sa11 =>
        intro xs done y hI hd0 hdn hup hV K hK
        refine wpOpIn_go (o := ⟨some 40, _, _, _, _, _⟩) rfl rfl ?_
        have e8 := hV 8 (by kernel_rfl)
        dsimp only [isV, List.getElem?_cons_succ, List.getElem?_cons_zero, Option.getD_some] at e8
        have e10 := hV 10 (by kernel_rfl)
        dsimp only [isV, List.getElem?_cons_succ, List.getElem?_cons_zero, Option.getD_some] at e10
        clear hV
        simp only [putsF, List.foldl_cons, List.foldl_nil, Act.put, List.setIfInBounds_toArray, List.set_cons_zero, List.set_cons_succ] at hK ⊢
        simp only [e8, e10] at hK ⊢
        clear e8 e10
        gi_wp2
        all_goals exact hK.out _ _ (hI.same (by decide) (by decide) (by decide)) (int_eq (by omega)) (fun _ _ _ _ _ h => h)
      case sa12 =>
        intro xs done y hI hd0 hdn hup hV K hK
        refine wpOpIn_go (o := ⟨none, _, _, _, _, _⟩) rfl rfl ?_
        have e3 := hV 3 (by kernel_rfl)
        dsimp only [isV, List.getElem?_cons_succ, List.getElem?_cons_zero, Option.getD_some] at e3
        clear hV
        simp only [putsF, List.foldl_cons, List.foldl_nil, Act.put, List.setIfInBounds_toArray, List.set_cons_zero, List.set_cons_succ] at hK ⊢
        simp only [e3] at hK ⊢
        clear e3
        have c1 := hI.1.r1.cell (j := 0) (by simp)
        simp only [List.getElem?_cons_zero] at c1
        have f1 := hI.1.r1.frozen 0
        gi_wp2
        exact hK.out undef _ (hI.st12 (by omega) (by omega) (by omega) (by omega)) (by exact rfl) (fun _ _ _ _ _ h => h)
      case sa13 =>
        intro xs done y hI hd0 hdn hup hV K hK
        refine wpOpIn_go (o := ⟨none, _, _, _, _, _⟩) rfl rfl ?_
        have e7 := hV 7 (by kernel_rfl)
        dsimp only [isV, List.getElem?_cons_succ, List.getElem?_cons_zero, Option.getD_some] at e7
        clear hV
        simp only [putsF, List.foldl_cons, List.foldl_nil, Act.put, List.setIfInBounds_toArray, List.set_cons_zero, List.set_cons_succ] at hK ⊢
        simp only [e7] at hK ⊢
        clear e7
        have c2 := hI.1.r2.cell (j := 0) (by simp)
        simp only [List.getElem?_cons_zero] at c2
        have f2 := hI.1.r2.frozen 0
        gi_wp2
        exact hK.out undef _ (hI.st13 (by omega) (by omega) (by omega) (by omega)) (by exact rfl) (fun _ _ _ _ _ h => h)
      case sa14 =>
        intro xs done y hI hd0 hdn hup hV K hK
        refine wpOpIn_go (o := ⟨none, _, _, _, _, _⟩) rfl rfl ?_
        have e11 := hV 11 (by kernel_rfl)
        dsimp only [isV, List.getElem?_cons_succ, List.getElem?_cons_zero, Option.getD_some] at e11
        clear hV
        simp only [putsF, List.foldl_cons, List.foldl_nil, Act.put, List.setIfInBounds_toArray, List.set_cons_zero, List.set_cons_succ] at hK ⊢
        simp only [e11] at hK ⊢
        clear e11
        have c3 := hI.1.r3.cell (j := 0) (by simp)
        simp only [List.getElem?_cons_zero] at c3
        have f3 := hI.1.r3.frozen 0
        gi_wp2
        exact hK.out undef _ (hI.st14 (by omega) (by omega) (by omega) (by omega)) (by exact rfl) (fun _ _ _ _ _ h => h)
      case fina =>
        intro xs done y hI hdone hV
        have e0 := hV 0 (by decide)
        dsimp only [isV, List.getElem?_cons_succ, List.getElem?_cons_zero, Option.getD_some] at e0
        have e1 := hV 1 (by decide)
        dsimp only [isV, List.getElem?_cons_succ, List.getElem?_cons_zero, Option.getD_some] at e1
        have e2 := hV 2 (by decide)
        dsimp only [isV, List.getElem?_cons_succ, List.getElem?_cons_zero, Option.getD_some] at e2
        have e3 := hV 3 (by decide)
        dsimp only [isV, List.getElem?_cons_succ, List.getElem?_cons_zero, Option.getD_some] at e3
        have e4 := hV 4 (by decide)
        dsimp only [isV, List.getElem?_cons_succ, List.getElem?_cons_zero, Option.getD_some] at e4
        have e5 := hV 5 (by decide)
        dsimp only [isV, List.getElem?_cons_succ, List.getElem?_cons_zero, Option.getD_some] at e5
        have e6 := hV 6 (by decide)
        dsimp only [isV, List.getElem?_cons_succ, List.getElem?_cons_zero, Option.getD_some] at e6
        have e7 := hV 7 (by decide)
        dsimp only [isV, List.getElem?_cons_succ, List.getElem?_cons_zero, Option.getD_some] at e7
        have e8 := hV 8 (by decide)
        dsimp only [isV, List.getElem?_cons_succ, List.getElem?_cons_zero, Option.getD_some] at e8
        have e9 := hV 9 (by decide)
        dsimp only [isV, List.getElem?_cons_succ, List.getElem?_cons_zero, Option.getD_some] at e9
        have e10 := hV 10 (by decide)
        dsimp only [isV, List.getElem?_cons_succ, List.getElem?_cons_zero, Option.getD_some] at e10
        have e11 := hV 11 (by decide)
        dsimp only [isV, List.getElem?_cons_succ, List.getElem?_cons_zero, Option.getD_some] at e11
        clear hV
        simp only [putsF, List.foldl_cons, List.foldl_nil, Act.put, List.setIfInBounds_toArray, List.set_cons_zero, List.set_cons_succ]
        simp only [e0, e1, e2, e3, e4, e5, e6, e7, e8, e9, e10, e11]
        clear e0 e1 e2 e3 e4 e5 e6 e7 e8 e9 e10 e11
        have hW := hI.1
        rw [hdone 12 (by decide), hdone 13 (by decide), hdone 14 (by decide), if_pos rfl, if_pos rfl, if_pos rfl] at hW
        gi_wp2
        exact ⟨((others_below bX).trans hI.2.2.2).from _, (KeptTwo.below bX (by omega) (by omega)).trans hI.2.2.1, by rw [HW.out]; exact hW, Nat.le_trans (Nat.le_trans hI2 zX) hI.2.2.2.size⟩
    case done =>
      rintro D ys Z hD rfl ⟨hI1, hI2⟩ hK
      have hmx : Try.prog.follows .mixedOrders = true := by kernel_rfl
      have HS : Hid (wrS t m fails = (worstX t (phL T sp t.length), 0)) := by
        show _ = _
        unfold wrS
        rw [if_neg (by rw [← Hq.out]; simp), worstX_eq (by omega) hT10, show m.top.toNat = T from by rw [HT.out]; rfl, show (stepOf m fails).toNat = sp from by unfold stepOf; rw [Hsp.out]; rfl]
      obtain ⟨s, hs⟩ : ∃ s, s = worstX t (phL T sp t.length) := ⟨_, rfl⟩
      rw [← hs] at hI1 HS
      clear hs
      gi_wp2
      refine wpIn_region_steps 7 (ord := [0, 1, 2, 3, 4, 5, 6]) (ds := [(0, 41), (1, 42), (2, 43), (6, 9)]) (I := fun _ y => WIn w w1.heap.size (.slice A t.length c) y s ∧ KeepsOthers Z y) (V := fun j => isV ((([?vb0, ?vb1, ?vb2, undef, undef, undef, ?vb6] : List Value)[j]?).getD undef)) (by kernel_rfl) (by kernel_rfl) rfl ?ib (StepsE.cons (k := 0) (k' := 1) (o := ⟨some 41, _, _, _, _, _⟩) rfl rfl ?sb0 (StepsE.cons (k := 1) (k' := 2) (o := ⟨some 42, _, _, _, _, _⟩) rfl rfl ?sb1 (StepsE.cons (k := 2) (k' := 3) (o := ⟨some 43, _, _, _, _, _⟩) rfl rfl ?sb2 (StepsE.cons (k := 3) (k' := 4) (o := ⟨none, _, _, _, _, _⟩) rfl rfl ?sb3 (StepsE.cons (k := 4) (k' := 5) (o := ⟨none, _, _, _, _, _⟩) rfl rfl ?sb4 (StepsE.cons (k := 5) (k' := 6) (o := ⟨none, _, _, _, _, _⟩) rfl rfl ?sb5 (StepsE.cons (k := 6) (k' := 7) (o := ⟨some 9, _, _, _, _, _⟩) rfl rfl ?sb6 StepsE.nil))))))) ?finb
      case ib => exact ⟨⟨hI1.bel.drew, hI1.r1.drew, hI1.r2.drew, hI1.r3.drew, hI1.tr.drew⟩, ⟨Nat.le_refl _, fun _ _ h _ => h⟩⟩
      case sb0 =>
        intro xs done y hI hd0 hdn hup hV K hK2
        refine wpOpIn_go (o := ⟨some 41, _, _, _, _, _⟩) rfl rfl ?_
        clear hV
        simp only [putsF, List.foldl_cons, List.foldl_nil, Act.put, List.setIfInBounds_toArray, List.set_cons_zero, List.set_cons_succ] at hK2 ⊢
        have c1 : y.cell? ⟨w.heap.size + 1, 0, none⟩ = some (.int .i64 s.side) := hI.1.r1.cell (j := 0) (by simp)
        gi_wp2
        exact hK2.out _ _ hI (by exact rfl) (fun _ _ _ _ _ h => h)
      case sb1 =>
        intro xs done y hI hd0 hdn hup hV K hK2
        refine wpOpIn_go (o := ⟨some 42, _, _, _, _, _⟩) rfl rfl ?_
        clear hV
        simp only [putsF, List.foldl_cons, List.foldl_nil, Act.put, List.setIfInBounds_toArray, List.set_cons_zero, List.set_cons_succ] at hK2 ⊢
        have c2 : y.cell? ⟨w.heap.size + 2, 0, none⟩ = some (.int .i64 s.low) := hI.1.r2.cell (j := 0) (by simp)
        gi_wp2
        exact hK2.out _ _ hI (by exact rfl) (fun _ _ _ _ _ h => h)
      case sb2 =>
        intro xs done y hI hd0 hdn hup hV K hK2
        refine wpOpIn_go (o := ⟨some 43, _, _, _, _, _⟩) rfl rfl ?_
        clear hV
        simp only [putsF, List.foldl_cons, List.foldl_nil, Act.put, List.setIfInBounds_toArray, List.set_cons_zero, List.set_cons_succ] at hK2 ⊢
        have c3 : y.cell? ⟨w.heap.size + 3, 0, none⟩ = some (.int .i64 s.high) := hI.1.r3.cell (j := 0) (by simp)
        gi_wp2
        exact hK2.out _ _ hI (by exact rfl) (fun _ _ _ _ _ h => h)
      case sb3 =>
        intro xs done y hI hd0 hdn hup hV K hK2
        refine wpOpIn_go (o := ⟨none, _, _, _, _, _⟩) rfl rfl ?_
        have e0 := hV 0 (by kernel_rfl)
        dsimp only [isV, List.getElem?_cons_succ, List.getElem?_cons_zero, Option.getD_some] at e0
        clear hV
        simp only [putsF, List.foldl_cons, List.foldl_nil, Act.put, List.setIfInBounds_toArray, List.set_cons_zero, List.set_cons_succ] at hK2 ⊢
        simp only [e0] at hK2 ⊢
        clear e0
        have c1 := hI.1.r1.cell (j := 0) (by simp)
        simp only [List.getElem?_cons_zero] at c1
        have f1 := hI.1.r1.frozen 0
        gi_wp2
        exact hK2.out undef _ ⟨hI.1.set1 (by omega) _, hI.2.trans (KeepsOthers.setCell _ _ _)⟩ (by exact rfl) (fun _ _ _ _ _ h => h)
      case sb4 =>
        intro xs done y hI hd0 hdn hup hV K hK2
        refine wpOpIn_go (o := ⟨none, _, _, _, _, _⟩) rfl rfl ?_
        have e1 := hV 1 (by kernel_rfl)
        dsimp only [isV, List.getElem?_cons_succ, List.getElem?_cons_zero, Option.getD_some] at e1
        clear hV
        simp only [putsF, List.foldl_cons, List.foldl_nil, Act.put, List.setIfInBounds_toArray, List.set_cons_zero, List.set_cons_succ] at hK2 ⊢
        simp only [e1] at hK2 ⊢
        clear e1
        have c2 := hI.1.r2.cell (j := 0) (by simp)
        simp only [List.getElem?_cons_zero] at c2
        have f2 := hI.1.r2.frozen 0
        gi_wp2
        exact hK2.out undef _ ⟨hI.1.set2 (by omega) _, hI.2.trans (KeepsOthers.setCell _ _ _)⟩ (by exact rfl) (fun _ _ _ _ _ h => h)
      case sb5 =>
        intro xs done y hI hd0 hdn hup hV K hK2
        refine wpOpIn_go (o := ⟨none, _, _, _, _, _⟩) rfl rfl ?_
        have e2 := hV 2 (by kernel_rfl)
        dsimp only [isV, List.getElem?_cons_succ, List.getElem?_cons_zero, Option.getD_some] at e2
        clear hV
        simp only [putsF, List.foldl_cons, List.foldl_nil, Act.put, List.setIfInBounds_toArray, List.set_cons_zero, List.set_cons_succ] at hK2 ⊢
        simp only [e2] at hK2 ⊢
        clear e2
        have c3 := hI.1.r3.cell (j := 0) (by simp)
        simp only [List.getElem?_cons_zero] at c3
        have f3 := hI.1.r3.frozen 0
        gi_wp2
        exact hK2.out undef _ ⟨hI.1.set3 (by omega) _, hI.2.trans (KeepsOthers.setCell _ _ _)⟩ (by exact rfl) (fun _ _ _ _ _ h => h)
      case sb6 =>
        intro xs done y hI hd0 hdn hup hV K hK2
        refine wpOpIn_go (o := ⟨some 9, _, _, _, _, _⟩) rfl rfl ?_
        clear hV
        simp only [putsF, List.foldl_cons, List.foldl_nil, Act.put, List.setIfInBounds_toArray, List.set_cons_zero, List.set_cons_succ] at hK2 ⊢
        gi_wp2
        exact hK2.out _ _ hI (by exact rfl) (fun _ _ _ _ _ h => h)
      case finb =>
        intro xs done y hI hdone hV
        have e0 := hV 0 (by decide)
        dsimp only [isV, List.getElem?_cons_succ, List.getElem?_cons_zero, Option.getD_some] at e0
        have e1 := hV 1 (by decide)
        dsimp only [isV, List.getElem?_cons_succ, List.getElem?_cons_zero, Option.getD_some] at e1
        have e2 := hV 2 (by decide)
        dsimp only [isV, List.getElem?_cons_succ, List.getElem?_cons_zero, Option.getD_some] at e2
        have e6 := hV 6 (by decide)
        dsimp only [isV, List.getElem?_cons_succ, List.getElem?_cons_zero, Option.getD_some] at e6
        clear hV
        simp only [putsF, List.foldl_cons, List.foldl_nil, Act.put, List.setIfInBounds_toArray, List.set_cons_zero, List.set_cons_succ]
        simp only [e0, e1, e2, e6]
        clear e0 e1 e2 e6
        gi_wp2
        refine worst_end (w := w) (D := D) (s := s) (hI.2.same D _ hK rfl) (by omega) hI.1 HS.out _ rfl ?_ ?_ ?_ ?_
        all_goals rfl
end Go.Proofs.Ytkmiapfkebdpbaa
