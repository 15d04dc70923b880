/- Contract of Least. Conditions: the rig reads as data. -/
import Derived.Test.YtkmiapfkebdpbaaKw
namespace Go.Proofs.Ytkmiapfkebdpbaa
open Go.RowKit Go.Shelf
attribute [local go_sem] Oper.semAt_some

def maxI : Int := 9223372036854775807
def leastS (r : RigZ) : Int × Nat × Nat := leastF (wpL r (phZ r)) (maxI, 0, 0)
def LePost (w : World) (r : RigZ) (e : Ending) (w' : World) : Prop :=
  Below w.heap.size w w' ∧ ((rigB r = false ∧ e = .returned (.tuple #[.int .i64 0, .int .i64 0, .int .i64 0, .int .i64 33])) ∨
    (rigB r = true ∧ e = .returned (.tuple #[.int .i64 (leastS r).1, .int .i64 ((leastS r).2.1 : Int), .int .i64 ((leastS r).2.2 : Int), .int .i64 0])))
def wCells (x : Int × Nat × Nat) : List Value := [.int .i64 x.1, .int .i64 (x.2.1 : Int), .int .i64 (x.2.2 : Int)]
theorem KeptC.setCell (W : World) (g o : Nat) (v : Value) : KeptC g W (W.setCell ⟨g, o, none⟩ v) :=
  ⟨rfl, rfl, rfl, by simp [World.setCell], fun k _o hk h _ => (Below.heap_setCell W ⟨g, o, none⟩ v k hk).trans h⟩
theorem leastF_snoc (l : List (Int × Nat × Nat)) (x a : Int × Nat × Nat) : leastF (l ++ [x]) a = if x.1 < (leastF l a).1 then x else leastF l a := by
  unfold leastF
  rw [List.foldl_append]
  rfl
theorem least_end {w Z : World} {r : RigZ} {D : Nat} {m : Int} {p k : Nat} (hK : Z.heap[D]? = some (.deferred (some []))) (hD : w.heap.size ≤ D) (hb : Below w.heap.size w Z) (hv : rigB r = true) (hs : leastS r = (m, p, k)) (a : Act) (hd : a.defers = [{ target := .collected D, args := #[] }])
    (h2 : a.tmps[2]? = some (.int .i64 m)) (h3 : a.tmps[3]? = some (.int .i64 (p : Int))) (h4 : a.tmps[4]? = some (.int .i64 (k : Int))) (h5 : a.tmps[5]? = some (.int .i64 0)) :
    bodyPostM Fence.wide 8 Try.prog Try.f39 (LePost w r) Exit.ret a Z := by
  obtain ⟨tmps, defers⟩ := a
  dsimp only at *
  subst hd
  refine ⟨by simp, .inl ⟨_, _, rfl, run_takeDeferred hK, ?_⟩⟩
  have bb := hb.trans (belowK_b (w := w) (Nat.le_refl _) Z D _ (.deferred none) hD hK rfl rfl)
  generalize Z.putObj D (.deferred none) = Y at *
  refine ⟨.tuple #[.int .i64 m, .int .i64 (p : Int), .int .i64 (k : Int), .int .i64 0], by simp [results, Try.results39, go_sem, *], bb, .inr ⟨hv, ?_⟩⟩
  rw [hs]

set_option maxRecDepth 100000 in
set_option maxHeartbeats 4000000 in
theorem Least_any (r : RigZ) (R : RigR) (B : Nat) (w : World) (hB : B ≤ w.heap.size) (hR : RigIn w B r R) :
    Calls Try.prog 39 #[rigV r R] w (LePost w r) := by
  obtain ⟨W, hW⟩ : ∃ W, W = w.alloc (.cells (rigCells r R).toArray 57) := ⟨_, rfl⟩
  have bW : Below w.heap.size w W := by subst hW; exact (Below.refl _ _).alloc (Nat.le_refl _) _
  have rW : Row W w.heap.size 57 (rigCells r R) := by subst hW; exact Row.new w _ (rigCells r R).toArray
  have RW := hR.below (bW.mono hB)
  have HM := Lib.hid (measure_any r R B W (Nat.le_trans hB bW.size) RW)
  unfold rigV at HM ⊢
  unfold rigCells at rW hW
  obtain ⟨_, q0, q1, q2, q3, q4, q5, q6, q7⟩ := Row.at_8 rW
  refine (callsIn_wide (n := 8)).1 ?_
  refine callsIn_of_wp_marks Try.func39 rfl trivial ?_ rfl
  simp only [Try.ntmps39, List.size_toArray, List.length_cons, List.length_nil, Nat.reduceAdd, Nat.reduceSub, Array.replicate_succ, Array.replicate_zero, List.push_toArray, List.append_toArray, List.nil_append, List.cons_append]
  gi_wp2
  rw [← hW]
  clear hW
  refine ⟨trivial, ?_⟩
  refine (callsIn_wide.2 HM.out).mono ?_
  rintro e w1 ⟨hb1, ⟨h1, rfl⟩ | ⟨h1, g, hg, hL, rfl⟩⟩
  · have b1 := bW.trans (hb1.mono bW.size)
    unfold gZeros
    gi_wp2
    refine ⟨.tuple #[.int .i64 0, .int .i64 0, .int .i64 0, .int .i64 33], by simp [results, Try.results39, go_sem], b1.alloc b1.size _, .inl ⟨h1, rfl⟩⟩
  · have b1 := bW.trans (hb1.mono bW.size)
    have sW := bW.size
    have s1 := hb1.size
    have zg := hL.lt
    obtain ⟨V, hV⟩ : ∃ V, V = (w1.alloc (.cells (gCells r R g (phZ r)).toArray 101)).alloc (.cells #[.int .i64 9223372036854775807, .int .i64 0, .int .i64 0] 112) := ⟨_, rfl⟩
    have bV1 : Below w1.heap.size w1 V := by subst hV; exact ((Below.refl _ _).alloc (Nat.le_refl _) _).alloc (by simp) _
    have bV := b1.trans (bV1.mono b1.size)
    have rV : Row V (w1.heap.size + 1) 112 (wCells (leastF [] (maxI, 0, 0))) := by
      subst hV
      have h := Row.new (w1.alloc (.cells (gCells r R g (phZ r)).toArray 101)) 112 #[.int .i64 9223372036854775807, .int .i64 0, .int .i64 0]
      rw [World.size_alloc] at h
      exact h
    have RV := hR.below (bV.mono hB)
    have LV := hL.keep (bV1.block g zg)
    have sV := bV.size
    have sV1 := rV.lt
    have hseq := worst_seq 7 (by omega) r R B g (w1.heap.size + 1) V (by omega) RV h1 LV (by omega) (by omega) sV1
    unfold gCells at hV
    unfold gRigV at hseq ⊢
    clear q0 q1 q2 q3 q4 q5 q6 q7 HM rW
    gi_wp2
    rw [← hV]
    clear hV
    refine range_bound (F := Fence.wide) (n := 8) (P := Try.prog) (Kp := KeptC (w1.heap.size + 1)) rfl (by omega) (gf := 75) rfl trivial (enters_of Try.func75 (by kernel_rfl) rfl)
      KeptC.trans (fun W l o o' _ h ho => KeptC.putObj W l o o' h ho) hseq rfl
      (fun pre W => Row W (w1.heap.size + 1) 112 (wCells (leastF pre (maxI, 0, 0))) ∧ Below w.heap.size w W ∧ V.heap.size ≤ W.heap.size)
      (fun _ _ _ => False)
      ?hI (fun _ _ _ _ _ h _ _ => h.elim)
      ⟨rV, bV, Nat.le_refl _⟩
      (fun x a' W => ∃ bx, V.heap.size ≤ bx ∧ Row W bx 112 (wCells x) ∧ a' = { tmps := #[.agg #[.slice R.A1 r.seats.length R.c1, .slice R.A2 r.feet.length R.c2, .int .i64 r.frame, .int .i64 r.center.x, .int .i64 r.center.y, .int .i64 r.center.z, .int .i64 r.empty, .int .i64 r.full], .pointer (some ⟨w.heap.size, 0, none⟩), .int .i64 0, .int .i64 0, .int .i64 0, .int .i64 0, .pointer (some ⟨w1.heap.size, 0, none⟩), .pointer (some ⟨w1.heap.size + 1, 0, none⟩), .pointer (some ⟨bx, 0, none⟩), .tuple #[.agg #[.slice R.A1 r.seats.length R.c1, .slice R.A2 r.feet.length R.c2, .int .i64 r.frame, .int .i64 r.center.x, .int .i64 r.center.y, .int .i64 r.center.z, .int .i64 r.empty, .int .i64 r.full, .slice (some ⟨g, 0, none⟩) r.feet.length r.feet.length, .int .i64 (phZ r : Int)], .int .i64 0], .agg #[.slice R.A1 r.seats.length R.c1, .slice R.A2 r.feet.length R.c2, .int .i64 r.frame, .int .i64 r.center.x, .int .i64 r.center.y, .int .i64 r.center.z, .int .i64 r.empty, .int .i64 r.full], .tuple #[.agg #[.slice R.A1 r.seats.length R.c1, .slice R.A2 r.feet.length R.c2, .int .i64 r.frame, .int .i64 r.center.x, .int .i64 r.center.y, .int .i64 r.center.z, .int .i64 r.empty, .int .i64 r.full, .slice (some ⟨g, 0, none⟩) r.feet.length r.feet.length, .int .i64 (phZ r : Int)], .int .i64 0], .agg #[.slice R.A1 r.seats.length R.c1, .slice R.A2 r.feet.length R.c2, .int .i64 r.frame, .int .i64 r.center.x, .int .i64 r.center.y, .int .i64 r.center.z, .int .i64 r.empty, .int .i64 r.full, .slice (some ⟨g, 0, none⟩) r.feet.length r.feet.length, .int .i64 (phZ r : Int)], .int .i64 0, .int .i64 0, .bool false, undef, .agg #[.int .i64 9223372036854775807, .int .i64 0, .int .i64 0], .agg #[.slice R.A1 r.seats.length R.c1, .slice R.A2 r.feet.length R.c2, .int .i64 r.frame, .int .i64 r.center.x, .int .i64 r.center.y, .int .i64 r.center.z, .int .i64 r.empty, .int .i64 r.full, .slice (some ⟨g, 0, none⟩) r.feet.length r.feet.length, .int .i64 (phZ r : Int)], .func (.func 75) #[.agg #[.slice R.A1 r.seats.length R.c1, .slice R.A2 r.feet.length R.c2, .int .i64 r.frame, .int .i64 r.center.x, .int .i64 r.center.y, .int .i64 r.center.z, .int .i64 r.empty, .int .i64 r.full, .slice (some ⟨g, 0, none⟩) r.feet.length r.feet.length, .int .i64 (phZ r : Int)]] #[], encW x, undef, undef, undef, undef, undef, undef, undef, undef, undef, undef, undef, undef], defers := [] })
      (fun x a' _ X Y row hs hg hr => by obtain ⟨bx, h1, h2, h3⟩ := hs; exact ⟨bx, h1, h2.keep (hg.block bx h2.lt fun e => by
        obtain ⟨_, o, ho, hc⟩ := hr bx e.symm
        obtain ⟨cs, h4, _⟩ := h2
        rw [h4] at ho
        injection ho with ho
        subst ho
        cases hc), h3⟩)
      ?assign ?body ?done (fun D c pre W hD hp h hK => h.elim)
    case hI =>
      rintro pre X Y row ⟨h1, h2, h3⟩ hg hr
      refine ⟨h1.keep (hg.block _ h1.lt fun e => ?_), h2.grown hg h2.size fun k e => ?_, Nat.le_trans h3 hg.size⟩
      · obtain ⟨_, o, ho, hc⟩ := hr _ e.symm
        obtain ⟨cs, h4, _⟩ := h1
        rw [h4] at ho
        injection ho with ho
        subst ho
        cases hc
      · have := (hr k e).1
        omega
    case assign =>
      rintro l pre x Z K ⟨hI1, hI2, hI3⟩ hK
      unfold encW
      gi_wp2
      exact hK _ _ ((KeepsOthers.alloc _ _).from _) (KeptC.of_below ((Below.refl _ Z).alloc (Nat.le_refl _) _)) ⟨hI1.alloc _, hI2.alloc hI2.size _, by simp; omega⟩ ⟨Z.heap.size, hI3, Row.new Z _ _, rfl⟩
    case body =>
      rintro l pre x a' Z ⟨hI1, hI2, hI3⟩ ⟨bx, hbx, rX, rfl⟩ hlt
      have hbg : bx ≠ w1.heap.size + 1 := by omega
      have hfo := leastF_snoc pre x (maxI, 0, 0)
      have Hfo := Lib.hid hfo
      clear hfo
      obtain ⟨L, hL0⟩ : ∃ L, L = leastF pre (maxI, 0, 0) := ⟨_, rfl⟩
      rw [← hL0] at hI1
      have HL0 := Lib.hid hL0
      clear hL0
      unfold wCells at hI1 rX
      obtain ⟨_, x0, x1, x2⟩ := Row.at_3 rX
      obtain ⟨fG, y0, y1, y2⟩ := Row.at_3 hI1
      by_cases hc : x.1 < L.1
      · gi_wp2
        refine ⟨((KeepsOthers.setCell Z ⟨w1.heap.size + 1, 0, none⟩ _).trans ((KeepsOthers.setCell _ ⟨w1.heap.size + 1, 1, none⟩ _).trans (KeepsOthers.setCell _ ⟨w1.heap.size + 1, 2, none⟩ _))).from _, (KeptC.setCell Z _ 0 _).trans ((KeptC.setCell _ _ 1 _).trans (KeptC.setCell _ _ 2 _)), ?_, below_set3 hI2 (by omega) _ _ _, by simp [World.setCell]; omega⟩
        rw [Hfo.out, ← HL0.out, if_pos hc]
        exact row_set3 hI1 _ _ _
      · gi_wp2
        refine ⟨(KeepsOthers.refl _).from _, KeptC.refl _ _, ?_, hI2, hI3⟩
        rw [Hfo.out, ← HL0.out, if_neg (Int.not_lt.2 hc)]
        exact hI1
    case done =>
      rintro D Z hD ⟨hI1, hI2, hI3⟩ hK
      have HS : Hid (leastF (wpL r (phZ r)) (maxI, 0, 0) = leastS r) := rfl
      rw [HS.out] at hI1
      unfold wCells at hI1
      obtain ⟨fG, y0, y1, y2⟩ := Row.at_3 hI1
      have hmx : Try.prog.follows .mixedOrders = true := by kernel_rfl
      gi_wp2
      refine wpIn_mono ?_ NoPanic.imp
      gi_region_with_o (fail)
      all_goals
        refine NoPanic.normal ?_
        gi_wp2
        refine least_end (w := w) (D := D) (m := (leastS r).1) (p := (leastS r).2.1) (k := (leastS r).2.2) ?_ (Nat.le_trans sV hD) ?_ h1 rfl _ ?_ ?_ ?_ ?_ ?_
        · exact hK
        · first | (with_reducible exact hI2) | (with_reducible exact Below.drew hI2) | (with_reducible exact below_drewN hI2 _)
        all_goals rfl
end Go.Proofs.Ytkmiapfkebdpbaa
