/- Contract of Tips. Conditions: the rig reads as data. -/
import Derived.Test.YtkmiapfkebdpbaaKw
import Derived.Test.YtkmiapfkebdpbaaOd
import Derived.Test.YtkmiapfkebdpbaaKx
import Derived.Test.YtkmiapfkebdpbaaKk
import Derived.Test.YtkmiapfkebdpbaaRi
import Derived.Sort.CutIn
/- The range over worstMoments, where the body knows which one comes. No more conditions than before. -/
namespace Go.Proofs.Ytkmiapfkebdpbaa
open Go.RowKit Go.Shelf
attribute [local go_sem] Oper.semAt_some

theorem w_pre1 {r : RigZ} {n p k : Nat} (hp : p < n) (hk : k < r.feet.length) : ((wpL r p ++ wlL r p k) ++ [(momZ r (worstZ r p k) p k, p, k)]) <+: wpL r n := by
  have h := w_pre (k := k + 1) hp hk
  rw [wlL_succ, ← List.append_assoc] at h
  exact h
section
variable {F : Fence} {n : Nat} {P : Program}
/-- The iterator gets 'first' ahead of yield; it goes through xs; a round that goes on keeps what Kp says. -/
def SeqBoundP {α : Type} (F : Fence) (n : Nat) (P : Program) (g : Nat) (first : Array Value) (enc : α → Value) (Kp : World → World → Prop) (xs : List α) (w : World) : Prop :=
  ∀ (l : Nat) (J Jx : List α → World → Prop) (W : World), Below w.heap.size w W → AbidesFrom W.heap.size J → AbidesFrom W.heap.size Jx →
    (∀ pre x W1, J pre W1 → (pre ++ [x]) <+: xs → YieldAt F (n - 1) P l #[enc x] W1 fun e W' =>
      (e = .returned (.bool true) ∧ J (pre ++ [x]) W' ∧ Kp W1 W') ∨ (e = .returned (.bool false) ∧ Jx (pre ++ [x]) W')) →
    J [] W →
    CallsIn F n P g (first ++ #[.func (.yield l) #[] #[]]) W fun e W' => (∃ v, e = .returned v) ∧ (J xs W' ∨ ∃ pre, pre <+: xs ∧ Jx pre W')

theorem range_boundP {α : Type} {g : Operand} {ps : Array Tmp} {assign body : Code} {Q : Exit → Act → World → Prop} {a : Act} {w : World}
    (hro : F.round = none) (h1 : 1 ≤ n) {gf : Nat} {first : Array Value} (hg : a.eval g = .func (.func gf) first #[]) (hFg : F.fn gf) (eg : ∀ args w, (callFunc gf args).run P w = .ok (.enter gf args) w)
    {enc : α → Value} {Kp : World → World → Prop} {xs : List α} (hKt : ∀ {A B C : World}, Kp A B → Kp B C → Kp A C) (hKb : ∀ (W : World) (l : Nat) (o o' : Obj), w.heap.size ≤ l → W.heap[l]? = some o → o.isCells = false → Kp W (W.putObj l o'))
    (hseq : SeqBoundP F (n - 1) P gf first enc Kp xs w) (hps : ps.size = 1)
    (I : List α → World → Prop) (Ix : Code → List α → World → Prop) (hI : OwnFrom w.heap.size I) (hIx : ∀ c, OwnFrom w.heap.size (Ix c)) (h0 : I [] w) (Ax : α → Act → World → Prop) (hAx : ∀ x a', OwnFrom w.heap.size (fun (_ : Unit) W => Ax x a' W))
    (hassign : ∀ (l : Nat) (pre : List α) (x : α) (W : World) (K : Act → World → Prop), I pre W → (∀ a' W', KeepsFrom w.heap.size W W' → Kp W W' → I pre W' → Ax x a' W' → K a' W') →
      assign.wpIn (F.inRound l) (n - 1 - 1) P (Exit.then K (fun _ _ _ => False)) { tmps := (ps.zip #[enc x]).foldl (fun t (p, v) => t.setIfInBounds p v) a.tmps, defers := [] } W)
    (hbody : ∀ (l : Nat) (pre : List α) (x : α) (a' : Act) (W : World), I pre W → Ax x a' W → (pre ++ [x]) <+: xs → body.wpIn (F.inRound l) (n - 1 - 1) P (LeftOk w.heap.size Kp I Ix (pre ++ [x]) W) a' W)
    (hdone : ∀ (D : Nat) (W : World), w.heap.size ≤ D → I xs W → W.heap[D]? = some (.deferred (some [])) → Q .normal { a with defers := { target := .collected D, args := #[] } :: a.defers } W)
    (hstop : ∀ (D : Nat) (c : Code) (pre : List α) (W : World), w.heap.size ≤ D → pre <+: xs → Ix c pre W → W.heap[D]? = some (.deferred (some [])) → c.wpIn F n P Q { a with defers := { target := .collected D, args := #[] } :: a.defers } W) :
    (Code.rangeFunc g ps assign body).wpIn F n P Q a w := by
  refine wpIn_rangeFunc fun fn hfn => ?_
  rw [hro]
  obtain ⟨L, hL⟩ : ∃ L : LoopState → Option Code → Loop, L = fun st p => { state := st, pending := p, fn, tmps := a.tmps, params := ps, assign, body, defers := w.heap.size } := ⟨_, rfl⟩
  obtain ⟨V, hV⟩ : ∃ V, V = (w.alloc (.deferred (some []))).alloc (.loop (L .ready none)) := ⟨_, rfl⟩
  have zV : V.heap.size = w.heap.size + 2 := by subst hV; simp
  have lV : V.heap[w.heap.size + 1]? = some (.loop (L .ready none)) := by
    subst hV
    have h := World.alloc_heap_new (w.alloc (.deferred (some []))) (.loop (L .ready none))
    rwa [World.size_alloc] at h
  have dV : V.heap[w.heap.size]? = some (.deferred (some [])) := by
    subst hV
    exact (Below.heap_alloc _ _ _ (by simp)).trans (World.alloc_heap_new w _)
  have bV : Below w.heap.size w V := by subst hV; exact ((Below.refl _ w).alloc (Nat.le_refl _) _).alloc (by simp) _
  have iV : I [] V := by subst hV; exact hI.alloc _ (hI.alloc _ h0)
  have far : ∀ {A B : World} {row : Option Nat}, (∀ r, row = some r → V.heap.size ≤ r ∧ ∃ o : Obj, A.heap[r]? = some o ∧ o.isWalk = true) → ∀ r, row = some r → w.heap.size ≤ r ∧ ∃ o : Obj, A.heap[r]? = some o ∧ o.isCells = false := by
    intro A B row h r e
    obtain ⟨h2, o, h3, h4⟩ := h r e
    exact ⟨by omega, o, h3, Obj.not_cells_of_walk h4⟩
  refine ⟨w.heap.size + 1, [{ target := .collected w.heap.size, args := #[] }], V, { target := .fn (.func gf) #[], args := first ++ #[.func (.yield (w.heap.size + 1)) #[] #[]] }, V, gf, first ++ #[.func (.yield (w.heap.size + 1)) #[] #[]], V, ?_, ?_, ?_, ?_, fun _ => h1, ?_⟩
  · subst hV hL; exact run_enterLoop_outer _ _ _ _ _
  · simp only [resolve, hg]
    simp [go_sem]
  · intro f' hf'
    simp [Target.leads] at hf'
    subst hf'
    exact hFg
  · simp [invoke, go_sem, eg]
  refine (hseq (w.heap.size + 1)
    (fun pre W => I pre W ∧ W.heap[w.heap.size + 1]? = some (.loop (L .ready none)) ∧ W.heap[w.heap.size]? = some (.deferred (some [])))
    (fun pre W => ∃ c, Ix c pre W ∧ W.heap[w.heap.size + 1]? = some (.loop (L .done (some c))) ∧ W.heap[w.heap.size]? = some (.deferred (some [])))
    V bV ?_ ?_ ?_ ⟨iV, lV, dV⟩).mono ?_
  · rintro s A B row ⟨hs, hl, hd⟩ hgr hr
    exact ⟨hI s A B row hs hgr (far (B := B) hr), (grownBy_keeps hgr (fun r e => (hr r e).2) hl rfl).trans hl, (grownBy_keeps hgr (fun r e => (hr r e).2) hd rfl).trans hd⟩
  · rintro s A B row ⟨c, hs, hl, hd⟩ hgr hr
    exact ⟨c, hIx c s A B row hs hgr (far (B := B) hr), (grownBy_keeps hgr (fun r e => (hr r e).2) hl rfl).trans hl, (grownBy_keeps hgr (fun r e => (hr r e).2) hd rfl).trans hd⟩
  · rintro pre x W ⟨hi, hl, hd⟩ hlen
    have zl := (Array.getElem?_eq_some_iff.1 hl).1
    have hy := run_yield (P := P) (args := #[enc x]) hl (by rw [hL]; simp [hps])
    rw [hL] at hy
    refine ⟨fn, _, assign, body, hy, roundIn_of_wpIn hfn (hassign _ pre x W _ hi ?_)⟩
    clear hy
    intro a' Wa hka hkpa hia hax
    have hla := hka.same _ _ (by omega) hl rfl
    have hda := hka.same _ _ (Nat.le_refl _) hd rfl
    have zla := (Array.getElem?_eq_some_iff.1 hla).1
    refine ⟨_, run_beginRound hla (by rw [hL]), ?_⟩
    obtain ⟨W2, hW2⟩ : ∃ W2, W2 = Wa.putObj (w.heap.size + 1) (.loop { L .ready none with state := .busy }) := ⟨_, rfl⟩
    rw [← hW2]
    have l2 : W2.heap[w.heap.size + 1]? = some (.loop { L .ready none with state := .busy }) := by subst hW2; exact World.putObj_heap_same zla
    have d2 : W2.heap[w.heap.size]? = some (.deferred (some [])) := by subst hW2; exact (World.putObj_heap_other (by omega)).trans hda
    have b2 : Kp Wa W2 := by subst hW2; exact hKb Wa _ _ _ (by omega) hla rfl
    have i2 : I pre W2 := by subst hW2; exact hI.putObj _ hia (by omega) hla rfl
    have ax2 : Ax x a' W2 := by subst hW2; exact (hAx x a').putObj (s := ()) _ hax (by omega) hla rfl
    refine wpIn_mono (hbody _ pre x a' _ i2 ax2 hlen) ?_
    have ends : ∀ (jump : Option Code) (W3 : World), KeepsFrom w.heap.size W2 W3 →
        (Instr.endRound (w.heap.size + 1) jump).run P W3 = .ok (.bool jump.isNone) (W3.putObj (w.heap.size + 1) (.loop (L (if jump.isNone then .ready else .done) jump))) ∧
        W3.heap[w.heap.size + 1]? = some (.loop { L .ready none with state := .busy }) ∧
        (W3.putObj (w.heap.size + 1) (.loop (L (if jump.isNone then .ready else .done) jump))).heap[w.heap.size + 1]? = some (.loop (L (if jump.isNone then .ready else .done) jump)) ∧
        (W3.putObj (w.heap.size + 1) (.loop (L (if jump.isNone then .ready else .done) jump))).heap[w.heap.size]? = some (.deferred (some [])) := by
      intro jump W3 hk
      have l3 := hk.same _ _ (by omega) l2 rfl
      have d3 := hk.same _ _ (Nat.le_refl _) d2 rfl
      have h := run_endRound (P := P) jump l3
      subst hL
      exact ⟨h, l3, World.putObj_heap_same (Array.getElem?_eq_some_iff.1 l3).1, (World.putObj_heap_other (by omega)).trans d3⟩
    have gone : ∀ (c : Code) (W3 : World), KeepsFrom w.heap.size W2 W3 → Ix c (pre ++ [x]) W3 → ∃ v w', (Instr.endRound (w.heap.size + 1) (some c)).run P W3 = .ok v w' ∧
        ((Ending.returned v = .returned (.bool true) ∧ (I (pre ++ [x]) w' ∧ w'.heap[w.heap.size + 1]? = some (.loop (L .ready none)) ∧ w'.heap[w.heap.size]? = some (.deferred (some []))) ∧ Kp W w') ∨
        (Ending.returned v = .returned (.bool false) ∧ ∃ c, Ix c (pre ++ [x]) w' ∧ w'.heap[w.heap.size + 1]? = some (.loop (L .done (some c))) ∧ w'.heap[w.heap.size]? = some (.deferred (some [])))) := by
      intro c W3 hk hi3
      obtain ⟨hr, l3, l4, d4⟩ := ends (some c) W3 hk
      exact ⟨_, _, hr, .inr ⟨rfl, c, (hIx c).putObj _ hi3 (by omega) l3 rfl, l4, d4⟩⟩
    rintro e a3 W3 hp
    cases e with
    | normal =>
      obtain ⟨hk, hb, hi3⟩ := hp
      obtain ⟨hr, l3, l4, d4⟩ := ends none W3 hk
      exact ⟨_, _, hr, .inl ⟨rfl, ⟨hI.putObj _ hi3 (by omega) l3 rfl, l4, d4⟩, hKt hkpa (hKt (hKt b2 hb) (hKb W3 _ _ _ (by omega) l3 rfl))⟩⟩
    | ret => exact gone _ W3 hp.1 hp.2
    | exit id => exact hp.elim
    | goto t => exact hp.elim
    | panic ch => exact hp.elim
    | outgrown => exact hp.elim
  · rintro e W2 ⟨⟨v, rfl⟩, ⟨hi, hl, hd⟩ | ⟨pre, hpre, c, hi, hl, hd⟩⟩
    · have h := run_endLoop (P := P) hl (by rw [hL]; simp)
      rw [show (L .ready none).pending = none from by rw [hL]] at h
      exact ⟨none, _, h, hdone _ _ (Nat.le_refl _) (hI.putObj _ hi (by omega) hl rfl) ((World.putObj_heap_other (by omega)).trans hd)⟩
    · have h := run_endLoop (P := P) hl (by rw [hL]; simp)
      rw [show (L .done (some c)).pending = some c from by rw [hL]] at h
      exact ⟨some c, _, h, hstop _ c pre _ (Nat.le_refl _) hpre ((hIx c).putObj _ hi (by omega) hl rfl) ((World.putObj_heap_other (by omega)).trans hd)⟩
end
set_option maxRecDepth 100000 in
set_option maxHeartbeats 4000000 in
theorem worst_seqP (nn : Nat) (hn : 1 ≤ nn) (r : RigZ) (R : RigR) (B g Gx : Nat) (w : World) (hB : B ≤ w.heap.size) (hR : RigIn w B r R) (hv : rigB r = true) (hL : Lines w g r.feet r.feet.length) (hBG : B ≤ Gx) (hg : g ≠ Gx) (hGw : Gx < w.heap.size) :
    SeqBoundP Fence.wide nn Try.prog 75 #[gRigV r R g (phZ r)] encW (KeptC Gx) (wpL r (phZ r)) w := by
  intro l J Jx W0 hW0 hJ hJx hY h0
  obtain ⟨hs20, hsb, ⟨h3, h8, hsp, hgr, hcv⟩, hce, hfr, hem, hfu⟩ := rigB_parts hv
  have zW0 := hW0.size
  have hR0 := hR.below (hW0.mono hB)
  have zg := hL.lt
  have hL0 := hL.keep (hW0.block g zg)
  obtain ⟨W, hW⟩ : ∃ W, W = W0.alloc (.cells (gCells r R g (phZ r)).toArray 101) := ⟨_, rfl⟩
  have bW : Below W0.heap.size W0 W := by subst hW; exact (Below.refl _ _).alloc (Nat.le_refl _) _
  have rW : Row W W0.heap.size 101 (gCells r R g (phZ r)) := by subst hW; exact Row.new W0 _ (gCells r R g (phZ r)).toArray
  have jW : J [] W := abides_below hJ h0 bW
  have RW := hR0.below (bW.mono (Nat.le_trans hB zW0))
  have LW := hL0.keep (bW.block g (by omega))
  have sW : W0.heap.size < W.heap.size := rW.lt
  have hphn : phZ r ≤ 60 := by
    unfold phZ
    split
    · omega
    · exact ((pathB_iff _).1 (seatsB_at hsb (i := 0) (by omega)).1).2.1
  unfold gRigV
  refine callsIn_of_wp Try.func75 rfl trivial ?_ rfl
  simp only [Try.ntmps75, List.size_toArray, List.length_cons, List.length_nil, Nat.reduceAdd, Nat.reduceSub, Array.replicate_succ, Array.replicate_zero, List.push_toArray, List.append_toArray, List.nil_append, List.cons_append]
  unfold gCells at hW
  have hq9 := rW.cell (j := 9) (by simp [gCells])
  simp only [gCells, List.getElem?_cons_zero, List.getElem?_cons_succ] at hq9
  rw [hW] at hq9
  gi_wp2
  rw [← hW]
  clear hW hq9
  obtain ⟨Gr, hGr⟩ : ∃ Gr, Gr = W0.heap.size := ⟨_, rfl⟩
  rw [← hGr] at rW sW ⊢
  have zr : Gr ≠ Gx := by omega
  have zGr : w.heap.size ≤ Gr := by omega
  have jAb : AbidesFrom W0.heap.size J := hJ
  clear hGr
  gi_loopw [10] (fun i wr => ∃ p : Nat, p ≤ phZ r ∧ i = .int .i64 p ∧ J (wpL r p) wr ∧ KeptC Gx W wr) (fun i _ => phZ r - (intOf i).toNat)
  case atStart => exact ⟨0, Nat.zero_le _, rfl, jW, KeptC.refl _ _⟩
  case round =>
    obtain ⟨p, hp, rfl, hJ1, hK1⟩ := hrel
    have r1 := hK1.row zr rW
    unfold gCells at r1
    obtain ⟨_, q0, q1, q2, q3, q4, q5, q6, q7, q8, q9⟩ := Row.at_10 r1
    by_cases hlt : p < phZ r
    · obtain ⟨X, hX⟩ : ∃ X, X = wr.alloc (.cells #[.int .i64 (p : Int)] 3) := ⟨_, rfl⟩
      have bX : Below wr.heap.size wr X := by subst hX; exact (Below.refl _ _).alloc (Nat.le_refl _) _
      have rP : Row X wr.heap.size 3 [.int .i64 (p : Int)] := by subst hX; exact Row.new wr _ _
      have hpl : (p : Int) < (phZ r : Int) := by omega
      have zr1 := r1.lt
      gi_wp2
      rw [← hX]
      clear hX
      have kX : KeptC Gx W X := hK1.trans (KeptC.of_below bX)
      have jX : J (wpL r p) X := abides_below hJ hJ1 bX
      obtain ⟨Gp, hGp⟩ : ∃ Gp, Gp = wr.heap.size := ⟨_, rfl⟩
      rw [← hGp] at rP ⊢
      have zp : Gp ≠ Gx := by have := hK1.size; omega
      clear hGp hJ1 hK1 q0 q1 q2 q3 q4 q5 q6 q7 q8 q9 r1 zr1 bX
      gi_loopw [16] (fun i wr => ∃ k : Nat, k ≤ r.feet.length ∧ i = .int .i64 k ∧ J (wpL r p ++ wlL r p k) wr ∧ KeptC Gx W wr ∧ Row wr Gp 3 [.int .i64 (p : Int)]) (fun i _ => r.feet.length - (intOf i).toNat)
      case atStart => exact ⟨0, Nat.zero_le _, rfl, by simpa [wlL] using jX, kX, rP⟩
      case round =>
        obtain ⟨k, hk, rfl, hJ2, hK2, r2⟩ := hrel
        by_cases hlk : k < r.feet.length
        · have LX := hK2.lines hg LW
          have RX := hK2.rig hBG RW
          have rr := hK2.row zr rW
          have zx := hK2.size
          obtain ⟨d0, d1, d2, d3, d4, d5⟩ := LX.cells hlk
          have hkl : (k : Int) < (r.feet.length : Int) := by omega
          have hnil : ¬ r.feet = [] := by intro e; rw [e] at hlk; simp at hlk
          obtain ⟨Y, hY0⟩ : ∃ Y, Y = wr.alloc (.cells (lineAt r.feet k).toArray 125) := ⟨_, rfl⟩
          have bY : Below wr.heap.size wr Y := by subst hY0; exact (Below.refl _ _).alloc (Nat.le_refl _) _
          have rL : Row Y wr.heap.size 125 (lineAt r.feet k) := by subst hY0; exact Row.new wr _ (lineAt r.feet k).toArray
          have zy := bY.size
          have LY := LX.keep (bY.block g (by omega))
          have RY := RX.below (bY.mono (by omega))
          have rY := rr.below bY rr.lt
          have pY := r2.below bY r2.lt
          have jY := abides_below hJ hJ2 bY
          have kY := hK2.trans (KeptC.of_below (g := Gx) bY)
          have eI : IntKind.i64.wrap ((k : Int) + 1) = (k : Int) + 1 := IntWalk.i64_in _ (by omega)
          have HT : Tells Y 88 #[.pointer (some ⟨wr.heap.size, 0, none⟩), .pointer (some ⟨Gr, 0, none⟩), .pointer (some ⟨Gp, 0, none⟩)] r.seats.length (worstZ r p k) := by
            intro i x hi hx
            exact outside_any r R B g p k i wr.heap.size Gr Gp (phZ r) x (by have := hx.size; omega) (RY.below (hx.mono (by omega))) hv hi hlt (rL.below hx rL.lt) (rY.below hx rY.lt) (pY.below hx pY.lt)
          have HM : ∀ X, Below Y.heap.size Y X → Calls Try.prog 71 #[gRigV r R g (phZ r), .int .i64 (p : Int), .int .i64 (k : Int), .func (.func 88) #[] #[.pointer (some ⟨wr.heap.size, 0, none⟩), .pointer (some ⟨Gr, 0, none⟩), .pointer (some ⟨Gp, 0, none⟩)]] X fun e w' => e = .returned (.int .i64 (momZ r (worstZ r p k) p k)) ∧ Below Y.heap.size Y w' := fun X hX =>
            (moment_any r R B g (phZ r) p k X _ _ (worstZ r p k) (by have := hX.size; omega) (RY.below (hX.mono (by omega))) hv (LY.keep (hX.block g (by omega))) hlk hlt (fun a w => rfl) (fun i x hi hx => HT i x hi (below_step hX hx))).mono fun _ _ h => ⟨h.1, below_step hX h.2⟩
          have HM' := Lib.hid HM
          clear HM
          have hHM : Hid (gRigV r R g (phZ r) = gRigV r R g (phZ r)) := rfl
          have HY := Lib.hid (fun (y1 : World) (hy1 : Below Y.heap.size Y y1) => hY _ (momZ r (worstZ r p k) p k, p, k) y1 (abides_below hJ jY hy1) (w_pre1 hlt hlk))
          unfold lineAt at hY0 rL
          unfold gCells at rY rr
          unfold gRigV at HM'
          obtain ⟨_, q0, q1, q2, q3, q4, q5, q6, q7, q8, q9⟩ := Row.at_10 rY
          have pc : Y.cell? ⟨Gp, 0, none⟩ = some (.int .i64 (p : Int)) := pY.cell (j := 0) (by simp)
          gi_wp2
          rw [← hY0]
          clear hY0 d0 d1 d2 d3 d4 d5
          have hmx : Try.prog.follows .mixedOrders = true := by kernel_rfl
          gi_region_with_o (first
            | (refine ⟨trivial, ?_⟩; gi_at_call 71; refine (callsIn_wide.2 (HM'.out _ ?_)).mono ?_; (first | exact Below.refl _ _ | exact Below.drew (Below.refl _ _) | exact below_drewN (Below.refl _ _) _); rintro e y1 ⟨rfl, hy1⟩; have pc := (hy1.cell (p := ⟨Gp, 0, none⟩) pY.lt).trans pc; obtain ⟨fn, tmps, assign, body, hyr, hRr⟩ := HY.out y1 hy1; unfold encW at hyr; dsimp only at hyr)
            | ((with_reducible refine hRr.mono ?_); rintro e W3 h3; obtain ⟨bb, rfl, hbb⟩ := yield_bool h3; clear h3))
          all_goals
            rcases hbb with ⟨rfl, hJ4, hK4⟩ | ⟨rfl, hJx4⟩
            · gi_wp2
              go_roundw
              case rel => exact ⟨k + 1, by omega, by go_num, by rw [wlL_succ, ← List.append_assoc]; exact hJ4, kY.trans ((KeptC.of_below hy1).trans hK4), hK4.row zp (pY.below hy1 pY.lt)⟩
              case measure => simp [intOf]; omega
            · gi_wp2
              refine bodyPost_ret (results_none rfl _ _ _) rfl ?_
              refine ⟨⟨_, rfl⟩, .inr ⟨_, ?_, hJx4⟩⟩
              have h9 := w_pre (r := r) (n := phZ r) (p := p) (k := k + 1) hlt hlk
              rw [wlL_succ, ← List.append_assoc] at h9
              exact h9
        · obtain rfl : k = r.feet.length := by omega
          rw [← wpL_succ] at hJ2
          gi_wp2
          go_roundw
          case rel => exact ⟨p + 1, by omega, by go_num, hJ2, hK2⟩
          case measure => simp [intOf]; omega
    · obtain rfl : p = phZ r := by omega
      gi_wp2
      go_end0
      exact ⟨⟨_, rfl⟩, .inl hJ1⟩
end Go.Proofs.Ytkmiapfkebdpbaa
/- What is known in the round of Tips that ends it: which values came up, and what lies in the results. -/
namespace Go.Proofs.Ytkmiapfkebdpbaa
open Go.RowKit Go.Shelf

/-- The loading of fewest full seats, in a block of its own. -/
def LdIn (r : RigZ) (p k Zs : Nat) (u : Value) (y : World) : Prop := ∃ n G : Nat, FewN (ridersZ r p k) (momZ r (fun _ => false) p k) n ∧ u = .slice (some ⟨G, 0, none⟩) r.seats.length r.seats.length ∧ Zs ≤ G ∧ Row y G 4 ((progSel (ridersZ r p k) (momZ r (fun _ => false) p k) n).map Value.bool)
theorem LdIn.keep {r : RigZ} {p k Zs : Nat} {u : Value} {y z : World} (h : LdIn r p k Zs u y) (hk : ∀ g, Zs ≤ g → g < y.heap.size → z.heap[g]? = y.heap[g]?) : LdIn r p k Zs u z := by
  obtain ⟨n, G, h1, h2, h3, h4⟩ := h
  exact ⟨n, G, h1, h2, h3, h4.keep (hk G h3 h4.lt)⟩
theorem LdIn.mono {r : RigZ} {p k Zs Zs' : Nat} {u : Value} {y : World} (h : LdIn r p k Zs u y) (hz : Zs' ≤ Zs) : LdIn r p k Zs' u y := by
  obtain ⟨n, G, h1, h2, h3, h4⟩ := h
  exact ⟨n, G, h1, h2, Nat.le_trans hz h3, h4⟩
theorem LdIn.away {r : RigZ} {p k Zs : Nat} {u : Value} {y z : World} (h : LdIn r p k Zs u y) (hk : ∀ g : Nat, y.heap[g]? ≠ some (Obj.deferred (some [])) → z.heap[g]? = y.heap[g]?) : LdIn r p k Zs u z := by
  obtain ⟨n, G, h1, h2, h3, h4⟩ := h
  refine ⟨n, G, h1, h2, h3, h4.keep (hk G fun e => ?_)⟩
  obtain ⟨cs, h5, _⟩ := h4
  rw [h5] at e
  cases e
def TV (r : RigZ) (R : RigR) (g S Zs bx p k : Nat) : Nat → Value → World → Prop
  | 0 => fun u _ => u = gRigV r R g (phZ r)
  | 1 => fun u _ => u = .pointer (some ⟨bx, 1, none⟩)
  | 2 => fun u _ => u = .int .i64 (p : Int)
  | 3 => fun u _ => u = .pointer (some ⟨bx, 2, none⟩)
  | 4 => fun u _ => u = .int .i64 (k : Int)
  | 5 => fun u y => LdIn r p k Zs u y
  | 6 => fun u _ => u = .pointer (some ⟨bx, 1, none⟩)
  | 7 => fun u _ => u = .int .i64 (p : Int)
  | 8 => fun u _ => u = .pointer (some ⟨bx, 2, none⟩)
  | 9 => fun u _ => u = .int .i64 (k : Int)
  | 10 => fun _ y => ∃ v, LdIn r p k Zs v y ∧ Row y (S + 1) 64 [v]
  | 11 => fun _ y => Row y (S + 2) 3 [.int .i64 (p : Int)]
  | 12 => fun _ y => Row y (S + 3) 3 [.int .i64 (k : Int)]
  | 13 => fun _ y => Row y (S + 4) 4 [.bool true]
  | 14 => fun _ y => Row y (S + 5) 29 [.int .i64 0]
  | _ => fun _ _ => True
theorem TV.keep {r : RigZ} {R : RigR} {g S Zs bx p k j : Nat} {u : Value} {y z : World} (h : TV r R g S Zs bx p k j u y) (hk : ∀ b, Zs ≤ b → b < y.heap.size → z.heap[b]? = y.heap[b]?) (hr : ∀ c, c ≤ 5 → c ≠ 0 → j = c + 9 → z.heap[S + c]? = y.heap[S + c]?) : TV r R g S Zs bx p k j u z := by
  match j, h, hr with
  | 0, h, _ | 1, h, _ | 2, h, _ | 3, h, _ | 4, h, _ | 6, h, _ | 7, h, _ | 8, h, _ | 9, h, _ => exact h
  | 5, h, _ => exact LdIn.keep h hk
  | 10, ⟨v, h1, h2⟩, hr => exact ⟨v, h1.keep hk, h2.keep (hr 1 (by omega) (by omega) rfl)⟩
  | 11, h, hr => exact Row.keep h (hr 2 (by omega) (by omega) rfl)
  | 12, h, hr => exact Row.keep h (hr 3 (by omega) (by omega) rfl)
  | 13, h, hr => exact Row.keep h (hr 4 (by omega) (by omega) rfl)
  | 14, h, hr => exact Row.keep h (hr 5 (by omega) (by omega) rfl)
  | _ + 15, _, _ => exact trivial
theorem TV.below {r : RigZ} {R : RigR} {g S Zs bx p k j : Nat} {u : Value} {y z : World} (h : TV r R g S Zs bx p k j u y) (hb : Below y.heap.size y z) (hS : S + 5 < y.heap.size) : TV r R g S Zs bx p k j u z :=
  h.keep (fun b _ hb2 => hb.block b hb2) fun c hc _ _ => hb.block _ (by omega)
theorem TV.set {r : RigZ} {R : RigR} {g S Zs bx p k j : Nat} {u : Value} {y : World} (h : TV r R g S Zs bx p k j u y) (hS : S + 5 < Zs) {c : Nat} (hc : c ≤ 5) (hj : j ≠ c + 9) (v : Value) : TV r R g S Zs bx p k j u (y.setCell ⟨S + c, 0, none⟩ v) :=
  h.keep (fun b h1 _ => Below.heap_setCell y ⟨S + c, 0, none⟩ v b (by show b ≠ S + c; omega)) fun d hd _ h2 => Below.heap_setCell y ⟨S + c, 0, none⟩ v _ (by show S + d ≠ S + c; omega)
/-- What stands in every moment of it. -/
structure TI (w Z : World) (r : RigZ) (R : RigR) (g S Zs b7 bx : Nat) (x : Int × Nat × Nat) (y : World) : Prop where
  bel : Below S w y
  zs : Zs ≤ y.heap.size
  rig : Row y b7 101 (gCells r R g (phZ r))
  wst : Row y bx 112 (wCells x)
  r1 : ∃ v, Row y (S + 1) 64 [v]
  r2 : ∃ v, Row y (S + 2) 3 [v]
  r3 : ∃ v, Row y (S + 3) 3 [v]
  r4 : ∃ v, Row y (S + 4) 4 [v]
  r5 : ∃ v, Row y (S + 5) 29 [v]
  lin : Lines y g r.feet r.feet.length
  oth : KeepsOthers Z y
section
variable {w Z : World} {r : RigZ} {R : RigR} {g S Zs b7 bx : Nat} {x : Int × Nat × Nat} {y : World}
theorem TI.keep (h : TI w Z r R g S Zs b7 bx x y) {z : World} (hb : Below y.heap.size y z) (hS : S ≤ y.heap.size) : TI w Z r R g S Zs b7 bx x z := by
  obtain ⟨a0, a1, a2, a3, ⟨v1, b1⟩, ⟨v2, b2⟩, ⟨v3, b3⟩, ⟨v4, b4⟩, ⟨v5, b5⟩, lin, a4⟩ := h
  exact ⟨a0.trans (hb.mono hS), Nat.le_trans a1 hb.size, a2.below hb a2.lt, a3.below hb a3.lt, ⟨v1, b1.below hb b1.lt⟩, ⟨v2, b2.below hb b2.lt⟩, ⟨v3, b3.below hb b3.lt⟩, ⟨v4, b4.below hb b4.lt⟩, ⟨v5, b5.below hb b5.lt⟩, lin.keep (hb.block g lin.lt), a4.trans (others_below hb)⟩
theorem TI.drew (h : TI w Z r R g S Zs b7 bx x y) : TI w Z r R g S Zs b7 bx x y.drew := by
  obtain ⟨a0, a1, a2, a3, ⟨v1, b1⟩, ⟨v2, b2⟩, ⟨v3, b3⟩, ⟨v4, b4⟩, ⟨v5, b5⟩, lin, a4⟩ := h
  exact ⟨a0.drew, a1, a2.drew, a3.drew, ⟨v1, b1.drew⟩, ⟨v2, b2.drew⟩, ⟨v3, b3.drew⟩, ⟨v4, b4.drew⟩, ⟨v5, b5.drew⟩, lin.keep rfl, ⟨a4.1, fun k o h1 h2 => a4.2 k o h1 h2⟩⟩
theorem TI.set (h : TI w Z r R g S Zs b7 bx x y) {c : Nat} (h7 : b7 ≠ S + c) (hx : bx ≠ S + c) (hgl : g ≠ S + c) (v : Value) : TI w Z r R g S Zs b7 bx x (y.setCell ⟨S + c, 0, none⟩ v) := by
  obtain ⟨a0, a1, a2, a3, ⟨v1, b1⟩, ⟨v2, b2⟩, ⟨v3, b3⟩, ⟨v4, b4⟩, ⟨v5, b5⟩, lin, a4⟩ := h
  have one : ∀ {d : Nat} {t : TypeId} {u : Value}, Row y (S + d) t [u] → ∃ v', Row (y.setCell ⟨S + c, 0, none⟩ v) (S + d) t [v'] := fun {d t u} hr => by
    by_cases hd : d = c
    · subst hd; exact ⟨v, hr.set 0 v⟩
    · exact ⟨u, hr.far (p := ⟨S + c, 0, none⟩) (by show S + d ≠ S + c; omega) v⟩
  exact ⟨a0.setCell (p := ⟨S + c, 0, none⟩) (Nat.le_add_right _ _) v, by simpa [World.setCell] using a1, a2.far (p := ⟨S + c, 0, none⟩) h7 v, a3.far (p := ⟨S + c, 0, none⟩) hx v, one b1, one b2, one b3, one b4, one b5, lin.keep (Below.heap_setCell y ⟨S + c, 0, none⟩ v g hgl), a4.trans (KeepsOthers.setCell _ _ _)⟩
end
end Go.Proofs.Ytkmiapfkebdpbaa
namespace Go.Proofs.Ytkmiapfkebdpbaa
open Go.RowKit Go.Shelf
attribute [local go_sem] Oper.semAt_some

def NoLow (l : List (Int × Nat × Nat)) : Prop := ∀ y ∈ l, 0 ≤ y.1
/-- The first of these moments is below 0. -/
def FirstW (r : RigZ) (x : Int × Nat × Nat) : Prop := ∃ pre, NoLow pre ∧ x.1 < 0 ∧ (pre ++ [x]) <+: wpL r (phZ r)
theorem LdIn.own {r : RigZ} {p k Zs : Nat} {u : Value} {y z : World} (h : LdIn r p k Zs u y) {row : Option Nat} (hg : y.grownBy z row) (hr : ∀ r, row = some r → ∃ o : Obj, y.heap[r]? = some o ∧ o.isCells = false) : LdIn r p k Zs u z := by
  obtain ⟨n, G, h1, h2, h3, h4⟩ := h
  exact ⟨n, G, h1, h2, h3, row_turn h4 hg hr⟩
def TiPost (w : World) (r : RigZ) (e : Ending) (w' : World) : Prop :=
  Below w.heap.size w w' ∧ ((rigB r = false ∧ e = .returned (.tuple #[.slice none 0 0, .int .i64 0, .int .i64 0, .bool false, .int .i64 33])) ∨
    (rigB r = true ∧ NoLow (wpL r (phZ r)) ∧ e = .returned (.tuple #[.slice none 0 0, .int .i64 0, .int .i64 0, .bool false, .int .i64 0])) ∨
    (rigB r = true ∧ ∃ x v, FirstW r x ∧ LdIn r x.2.1 x.2.2 w.heap.size v w' ∧ e = .returned (.tuple #[v, .int .i64 (x.2.1 : Int), .int .i64 (x.2.2 : Int), .bool true, .int .i64 0])))
/-- The results' cells. -/
structure Res (w y : World) (v : Value) (p k : Int) (b : Bool) (e : Int) : Prop where
  bel : Below w.heap.size w y
  r1 : Row y (w.heap.size + 1) 64 [v]
  r2 : Row y (w.heap.size + 2) 3 [.int .i64 p]
  r3 : Row y (w.heap.size + 3) 3 [.int .i64 k]
  r4 : Row y (w.heap.size + 4) 4 [.bool b]
  r5 : Row y (w.heap.size + 5) 29 [.int .i64 e]
section
variable {w y z : World} {v : Value} {p k e : Int} {b : Bool}
theorem Res.below (h : Res w y v p k b e) (hb : Below y.heap.size y z) : Res w z v p k b e :=
  ⟨h.bel.trans (hb.mono h.bel.size), h.r1.below hb h.r1.lt, h.r2.below hb h.r2.lt, h.r3.below hb h.r3.lt, h.r4.below hb h.r4.lt, h.r5.below hb h.r5.lt⟩
theorem Res.drew (h : Res w y v p k b e) : Res w y.drew v p k b e := ⟨h.bel.drew, h.r1.drew, h.r2.drew, h.r3.drew, h.r4.drew, h.r5.drew⟩
theorem Res.own (h : Res w y v p k b e) {row : Option Nat} (hg : y.grownBy z row) (hr : ∀ r, row = some r → w.heap.size ≤ r ∧ ∃ o : Obj, y.heap[r]? = some o ∧ o.isCells = false) : Res w z v p k b e := by
  have hr2 := fun r e => (hr r e).2
  exact ⟨h.bel.grown hg h.bel.size fun k e => (hr k e).1, row_turn h.r1 hg hr2, row_turn h.r2 hg hr2, row_turn h.r3 hg hr2, row_turn h.r4 hg hr2, row_turn h.r5 hg hr2⟩
theorem Res.cells (h : Res w y v p k b e) : (y.cell? ⟨w.heap.size + 1, 0, none⟩ = some v ∧ y.frozen? ⟨w.heap.size + 1, 0, none⟩ = false) ∧ (y.cell? ⟨w.heap.size + 2, 0, none⟩ = some (.int .i64 p) ∧ y.frozen? ⟨w.heap.size + 2, 0, none⟩ = false) ∧ (y.cell? ⟨w.heap.size + 3, 0, none⟩ = some (.int .i64 k) ∧ y.frozen? ⟨w.heap.size + 3, 0, none⟩ = false) ∧ (y.cell? ⟨w.heap.size + 4, 0, none⟩ = some (.bool b) ∧ y.frozen? ⟨w.heap.size + 4, 0, none⟩ = false) ∧ (y.cell? ⟨w.heap.size + 5, 0, none⟩ = some (.int .i64 e) ∧ y.frozen? ⟨w.heap.size + 5, 0, none⟩ = false) :=
  ⟨⟨h.r1.cell (j := 0) (by simp), h.r1.frozen 0⟩, ⟨h.r2.cell (j := 0) (by simp), h.r2.frozen 0⟩, ⟨h.r3.cell (j := 0) (by simp), h.r3.frozen 0⟩, ⟨h.r4.cell (j := 0) (by simp), h.r4.frozen 0⟩, ⟨h.r5.cell (j := 0) (by simp), h.r5.frozen 0⟩⟩
theorem Res.set (h : Res w y v p k b e) (v' : Value) (p' k' : Int) (b' : Bool) (e' : Int) : Res w (((((y.setCell ⟨w.heap.size + 1, 0, none⟩ v').setCell ⟨w.heap.size + 2, 0, none⟩ (.int .i64 p')).setCell ⟨w.heap.size + 3, 0, none⟩ (.int .i64 k')).setCell ⟨w.heap.size + 4, 0, none⟩ (.bool b')).setCell ⟨w.heap.size + 5, 0, none⟩ (.int .i64 e')) v' p' k' b' e' := by
  obtain ⟨h0, h1, h2, h3, h4, h5⟩ := h
  exact ⟨((((h0.setCell (by simp) _).setCell (by simp) _).setCell (by simp) _).setCell (by simp) _).setCell (by simp) _, ((((h1.set 0 _).far (by simp) _).far (by simp) _).far (by simp) _).far (by simp) _, ((((h2.far (by simp) _).set 0 _).far (by simp) _).far (by simp) _).far (by simp) _, ((((h3.far (by simp) _).far (by simp) _).set 0 _).far (by simp) _).far (by simp) _, ((((h4.far (by simp) _).far (by simp) _).far (by simp) _).set 0 _).far (by simp) _, ((((h5.far (by simp) _).far (by simp) _).far (by simp) _).far (by simp) _).set 0 _⟩
theorem Res.set5 (h : Res w y v p k b e) (e' : Int) : Res w (y.setCell ⟨w.heap.size + 5, 0, none⟩ (.int .i64 e')) v p k b e' := by
  obtain ⟨h0, h1, h2, h3, h4, h5⟩ := h
  exact ⟨h0.setCell (by simp) _, h1.far (by simp) _, h2.far (by simp) _, h3.far (by simp) _, h4.far (by simp) _, h5.set 0 _⟩
end
theorem res_new (w : World) (r : RigZ) (R : RigR) : Res w ((((((w.alloc (.cells (rigCells r R).toArray 57)).alloc (.cells #[.slice none 0 0] 64)).alloc (.cells #[.int .i64 0] 3)).alloc (.cells #[.int .i64 0] 3)).alloc (.cells #[.bool false] 4)).alloc (.cells #[.int .i64 0] 29)) (.slice none 0 0) 0 0 false 0 ∧ Row ((((((w.alloc (.cells (rigCells r R).toArray 57)).alloc (.cells #[.slice none 0 0] 64)).alloc (.cells #[.int .i64 0] 3)).alloc (.cells #[.int .i64 0] 3)).alloc (.cells #[.bool false] 4)).alloc (.cells #[.int .i64 0] 29)) w.heap.size 57 (rigCells r R) := by
  refine ⟨⟨(((((((Below.refl _ _).alloc (Nat.le_refl _) _).alloc (by simp) _).alloc (by simp; omega) _).alloc (by simp; omega) _).alloc (by simp; omega) _).alloc (by simp; omega) _), ?_, ?_, ?_, ?_, ?_⟩, ?_⟩
  · have h := ((((Row.new (w.alloc (.cells (rigCells r R).toArray 57)) 64 #[.slice none 0 0]).alloc (.cells #[.int .i64 0] 3)).alloc (.cells #[.int .i64 0] 3)).alloc (.cells #[.bool false] 4)).alloc (.cells #[.int .i64 0] 29)
    simpa only [World.size_alloc] using h
  · have h := (((Row.new ((w.alloc (.cells (rigCells r R).toArray 57)).alloc (.cells #[.slice none 0 0] 64)) 3 #[.int .i64 0]).alloc (.cells #[.int .i64 0] 3)).alloc (.cells #[.bool false] 4)).alloc (.cells #[.int .i64 0] 29)
    simpa only [World.size_alloc] using h
  · have h := ((Row.new (((w.alloc (.cells (rigCells r R).toArray 57)).alloc (.cells #[.slice none 0 0] 64)).alloc (.cells #[.int .i64 0] 3)) 3 #[.int .i64 0]).alloc (.cells #[.bool false] 4)).alloc (.cells #[.int .i64 0] 29)
    simpa only [World.size_alloc] using h
  · have h := (Row.new ((((w.alloc (.cells (rigCells r R).toArray 57)).alloc (.cells #[.slice none 0 0] 64)).alloc (.cells #[.int .i64 0] 3)).alloc (.cells #[.int .i64 0] 3)) 4 #[.bool false]).alloc (.cells #[.int .i64 0] 29)
    simpa only [World.size_alloc] using h
  · have h := Row.new (((((w.alloc (.cells (rigCells r R).toArray 57)).alloc (.cells #[.slice none 0 0] 64)).alloc (.cells #[.int .i64 0] 3)).alloc (.cells #[.int .i64 0] 3)).alloc (.cells #[.bool false] 4)) 29 #[.int .i64 0]
    simpa only [World.size_alloc] using h
  · exact (((((Row.new w 57 (rigCells r R).toArray).alloc _).alloc _).alloc _).alloc _).alloc _
theorem tips_end {w Z : World} {r : RigZ} {D : Nat} {v : Value} {p k : Int} {b : Bool} (hK : Z.heap[D]? = some (.deferred (some []))) (hD : w.heap.size ≤ D) (hR : Res w Z v p k b 0)
    (hpost : ∀ Y, Below w.heap.size w Y → (∀ g : Nat, Z.heap[g]? ≠ some (Obj.deferred (some [])) → Y.heap[g]? = Z.heap[g]?) → TiPost w r (.returned (.tuple #[v, .int .i64 p, .int .i64 k, .bool b, .int .i64 0])) Y) (tmps : Array Value)
    (h2 : tmps[2]? = some (.pointer (some ⟨w.heap.size + 1, 0, none⟩))) (h3 : tmps[3]? = some (.pointer (some ⟨w.heap.size + 2, 0, none⟩))) (h4 : tmps[4]? = some (.pointer (some ⟨w.heap.size + 3, 0, none⟩))) (h5 : tmps[5]? = some (.pointer (some ⟨w.heap.size + 4, 0, none⟩))) (h6 : tmps[6]? = some (.pointer (some ⟨w.heap.size + 5, 0, none⟩))) :
    bodyPostM Fence.wide 8 Try.prog Try.f41 (TiPost w r) Exit.ret { tmps := tmps, defers := [{ target := .collected D, args := #[] }] } Z := by
  refine ⟨by simp, .inl ⟨_, _, rfl, run_takeDeferred hK, ?_⟩⟩
  have hg := grownBy_putObj' Z D (.deferred none)
  have hr : ∀ r, some D = some r → w.heap.size ≤ r ∧ ∃ o : Obj, Z.heap[r]? = some o ∧ o.isCells = false := fun r e => by cases e; exact ⟨hD, _, hK, rfl⟩
  have hY := hR.own hg hr
  have hP := hpost (Z.putObj D (.deferred none)) hY.bel (fun g hne => World.putObj_heap_other (fun e => by subst e; exact hne hK))
  generalize Z.putObj D (.deferred none) = Y at *
  obtain ⟨⟨c1, _⟩, ⟨c2, _⟩, ⟨c3, _⟩, ⟨c4, _⟩, ⟨c5, _⟩⟩ := hY.cells
  exact ⟨_, by simp [results, Try.results41, go_sem, *], hP⟩
set_option maxRecDepth 100000 in
set_option maxHeartbeats 4000000 in
theorem Tips_any (r : RigZ) (R : RigR) (B : Nat) (w : World) (hB : B ≤ w.heap.size) (hR : RigIn w B r R) :
    Calls Try.prog 41 #[rigV r R] w (TiPost w r) := by
  have hnew := res_new w r R
  obtain ⟨W, hW⟩ : ∃ W, W = ((((((w.alloc (.cells (rigCells r R).toArray 57)).alloc (.cells #[.slice none 0 0] 64)).alloc (.cells #[.int .i64 0] 3)).alloc (.cells #[.int .i64 0] 3)).alloc (.cells #[.bool false] 4)).alloc (.cells #[.int .i64 0] 29)) := ⟨_, rfl⟩
  rw [← hW] at hnew
  obtain ⟨RW0, rW⟩ := hnew
  have bW := RW0.bel
  have RgW := hR.below (bW.mono hB)
  have HM := Lib.hid (measure_any r R B W (Nat.le_trans hB bW.size) RgW)
  unfold rigV at HM ⊢
  unfold rigCells at rW hW
  obtain ⟨_, q0, q1, q2, q3, q4, q5, q6, q7⟩ := Row.at_8 rW
  refine (callsIn_wide (n := 8)).1 ?_
  refine callsIn_of_wp_marks Try.func41 rfl trivial ?_ rfl
  simp only [Try.ntmps41, List.size_toArray, List.length_cons, List.length_nil, Nat.reduceAdd, Nat.reduceSub, Array.replicate_succ, Array.replicate_zero, List.push_toArray, List.append_toArray, List.nil_append, List.cons_append]
  gi_wp2
  rw [← hW]
  clear hW
  simp only [Nat.add_assoc, Nat.reduceAdd]
  refine ⟨trivial, ?_⟩
  refine (callsIn_wide.2 HM.out).mono ?_
  rintro e w1 ⟨hb1, ⟨h1, rfl⟩ | ⟨h1, g, hg, hL, rfl⟩⟩
  · have RW1 := RW0.below hb1
    unfold gZeros
    obtain ⟨⟨c1, f1⟩, ⟨c2, f2⟩, ⟨c3, f3⟩, ⟨c4, f4⟩, ⟨c5, f5⟩⟩ := RW1.cells
    clear q0 q1 q2 q3 q4 q5 q6 q7 HM rW
    have z5 := RW1.r5.lt
    gi_upto_region 2 with fail
    obtain ⟨V, hV⟩ : ∃ V, V = (w1.setCell ⟨w.heap.size + 5, 0, none⟩ (.int .i64 33)).alloc (.cells gZeros.toArray 101) := ⟨_, rfl⟩
    have RV : Res w V (.slice none 0 0) 0 0 false 33 := by subst hV; exact (RW1.set5 33).below ((Below.refl _ _).alloc (Nat.le_refl _) _)
    unfold gZeros at hV
    rw [← hV]
    clear hV c1 f1 c2 f2 c3 f3 c4 f4 c5 f5 z5
    obtain ⟨⟨c1, f1⟩, ⟨c2, f2⟩, ⟨c3, f3⟩, ⟨c4, f4⟩, ⟨c5, f5⟩⟩ := RV.cells
    gi_upto_region 3 with fail
    have hmx : Try.prog.follows .mixedOrders = true := by kernel_rfl
    gi_region_with_o (fail)
    all_goals
      have RZ := (RV.set (.slice none 0 0) 0 0 false 33).drew
      obtain ⟨Z, hZ⟩ : ∃ Z, Z = (((((V.setCell ⟨w.heap.size + 1, 0, none⟩ (.slice none 0 0)).setCell ⟨w.heap.size + 2, 0, none⟩ (.int .i64 0)).setCell ⟨w.heap.size + 3, 0, none⟩ (.int .i64 0)).setCell ⟨w.heap.size + 4, 0, none⟩ (.bool false)).setCell ⟨w.heap.size + 5, 0, none⟩ (.int .i64 33)).drew := ⟨_, rfl⟩
      rw [← hZ] at RZ ⊢
      clear hZ c1 f1 c2 f2 c3 f3 c4 f4 c5 f5
      obtain ⟨⟨c1, f1⟩, ⟨c2, f2⟩, ⟨c3, f3⟩, ⟨c4, f4⟩, ⟨c5, f5⟩⟩ := RZ.cells
      gi_wp2
      refine ⟨.tuple #[.slice none 0 0, .int .i64 0, .int .i64 0, .bool false, .int .i64 33], by simp [results, Try.results41, go_sem, *], RZ.bel, .inl ⟨h1, rfl⟩⟩
  · have RW1 := RW0.below hb1
    obtain ⟨⟨c1, f1⟩, ⟨c2, f2⟩, ⟨c3, f3⟩, ⟨c4, f4⟩, ⟨c5, f5⟩⟩ := RW1.cells
    clear q0 q1 q2 q3 q4 q5 q6 q7 HM rW
    have z5 := RW1.r5.lt
    unfold gRigV
    gi_upto_region 2 with fail
    obtain ⟨V, hV⟩ : ∃ V, V = (w1.setCell ⟨w.heap.size + 5, 0, none⟩ (.int .i64 0)).alloc (.cells (gCells r R g (phZ r)).toArray 101) := ⟨_, rfl⟩
    have RV : Res w V (.slice none 0 0) 0 0 false 0 := by subst hV; exact (RW1.set5 0).below ((Below.refl _ _).alloc (Nat.le_refl _) _)
    have gV : Row V w1.heap.size 101 (gCells r R g (phZ r)) := by
      subst hV
      have h := Row.new (w1.setCell ⟨w.heap.size + 5, 0, none⟩ (.int .i64 0)) 101 (gCells r R g (phZ r)).toArray
      simpa [World.setCell] using h
    have zW : w.heap.size + 5 < W.heap.size := RW0.r5.lt
    have LV : Lines V g r.feet r.feet.length := by subst hV; exact (hL.keep (Below.heap_setCell w1 ⟨w.heap.size + 5, 0, none⟩ _ g (by show g ≠ w.heap.size + 5; omega))).keep (Below.heap_alloc _ _ _ (by simpa [World.setCell] using hL.lt))
    have RgV : RigIn V B r R := hR.below (RV.bel.mono hB)
    have zV : w1.heap.size < V.heap.size := gV.lt
    have hseq := worst_seqP 7 (by omega) r R B g (w.heap.size + 1) V (by omega) RgV h1 LV (by omega) (by omega) (by omega)
    unfold gCells at hV
    unfold gRigV at hseq
    rw [← hV]
    clear hV c1 f1 c2 f2 c3 f3 c4 f4 c5 f5 z5
    obtain ⟨⟨c1, f1⟩, ⟨c2, f2⟩, ⟨c3, f3⟩, ⟨c4, f4⟩, ⟨c5, f5⟩⟩ := RV.cells
    have gV2 := gV
    unfold gCells at gV2
    obtain ⟨_, q0, q1, q2, q3, q4, q5, q6, q7, q8, q9⟩ := Row.at_10 gV2
    gi_wp2
    refine range_boundP (F := Fence.wide) (n := 8) (P := Try.prog) (Kp := KeptC (w.heap.size + 1)) rfl (by omega) (gf := 75) rfl trivial (enters_of Try.func75 (by kernel_rfl) rfl)
      KeptC.trans (fun W l o o' _ h ho => KeptC.putObj W l o o' h ho) hseq rfl
      (fun pre W => NoLow pre ∧ Below V.heap.size V W)
      (fun cd pre W => cd = .ret ∧ ∃ pre' x v, pre = pre' ++ [x] ∧ NoLow pre' ∧ x.1 < 0 ∧ Res w W v (x.2.1 : Int) (x.2.2 : Int) true 0 ∧ LdIn r x.2.1 x.2.2 w.heap.size v W)
      (OwnFrom.and (ownFrom_pure _ _) (ownFrom_below (Nat.le_refl _) (Nat.le_refl _)))
      (fun cd pre X Y row hs hg hr => by
        obtain ⟨h1, pre', x, v, h2, h3, h4, h5, h6⟩ := hs
        have hr2 := fun r e => (hr r e).2
        exact ⟨h1, pre', x, v, h2, h3, h4, h5.own hg (fun r e => ⟨Nat.le_trans RV.bel.size (hr r e).1, (hr r e).2⟩), h6.own hg hr2⟩)
      ⟨fun y hy => by simp at hy, Below.refl _ _⟩
      (fun x a' W => ∃ bx, V.heap.size ≤ bx ∧ Row W bx 112 (wCells x) ∧ a' = { tmps := #[.agg #[.slice R.A1 r.seats.length R.c1, .slice R.A2 r.feet.length R.c2, .int .i64 r.frame, .int .i64 r.center.x, .int .i64 r.center.y, .int .i64 r.center.z, .int .i64 r.empty, .int .i64 r.full], .pointer (some ⟨w.heap.size, 0, none⟩), .pointer (some ⟨w.heap.size + 1, 0, none⟩), .pointer (some ⟨w.heap.size + 2, 0, none⟩), .pointer (some ⟨w.heap.size + 3, 0, none⟩), .pointer (some ⟨w.heap.size + 4, 0, none⟩), .pointer (some ⟨w.heap.size + 5, 0, none⟩), .pointer (some ⟨w1.heap.size, 0, none⟩), .pointer (some ⟨bx, 0, none⟩), .tuple #[.agg #[.slice R.A1 r.seats.length R.c1, .slice R.A2 r.feet.length R.c2, .int .i64 r.frame, .int .i64 r.center.x, .int .i64 r.center.y, .int .i64 r.center.z, .int .i64 r.empty, .int .i64 r.full, .slice (some ⟨g, 0, none⟩) r.feet.length r.feet.length, .int .i64 (phZ r : Int)], .int .i64 0], .agg #[.slice R.A1 r.seats.length R.c1, .slice R.A2 r.feet.length R.c2, .int .i64 r.frame, .int .i64 r.center.x, .int .i64 r.center.y, .int .i64 r.center.z, .int .i64 r.empty, .int .i64 r.full], .tuple #[.agg #[.slice R.A1 r.seats.length R.c1, .slice R.A2 r.feet.length R.c2, .int .i64 r.frame, .int .i64 r.center.x, .int .i64 r.center.y, .int .i64 r.center.z, .int .i64 r.empty, .int .i64 r.full, .slice (some ⟨g, 0, none⟩) r.feet.length r.feet.length, .int .i64 (phZ r : Int)], .int .i64 0], .agg #[.slice R.A1 r.seats.length R.c1, .slice R.A2 r.feet.length R.c2, .int .i64 r.frame, .int .i64 r.center.x, .int .i64 r.center.y, .int .i64 r.center.z, .int .i64 r.empty, .int .i64 r.full, .slice (some ⟨g, 0, none⟩) r.feet.length r.feet.length, .int .i64 (phZ r : Int)], .int .i64 0, .int .i64 0, .bool false, undef, .agg #[.slice R.A1 r.seats.length R.c1, .slice R.A2 r.feet.length R.c2, .int .i64 r.frame, .int .i64 r.center.x, .int .i64 r.center.y, .int .i64 r.center.z, .int .i64 r.empty, .int .i64 r.full, .slice (some ⟨g, 0, none⟩) r.feet.length r.feet.length, .int .i64 (phZ r : Int)], .func (.func 75) #[.agg #[.slice R.A1 r.seats.length R.c1, .slice R.A2 r.feet.length R.c2, .int .i64 r.frame, .int .i64 r.center.x, .int .i64 r.center.y, .int .i64 r.center.z, .int .i64 r.empty, .int .i64 r.full, .slice (some ⟨g, 0, none⟩) r.feet.length r.feet.length, .int .i64 (phZ r : Int)]] #[], encW x, undef, undef, undef, undef, undef, undef, undef, undef, undef, undef, undef, undef, undef], defers := [] })
      (fun x a' _ X Y row hs hg hr => by obtain ⟨bx, h1, h2, h3⟩ := hs; exact ⟨bx, h1, row_turn h2 hg (fun r e => (hr r e).2), h3⟩)
      ?assign ?body ?done ?stop
    case assign =>
      rintro l pre x Z K ⟨hI1, hI2⟩ hK
      unfold encW
      gi_wp2
      exact hK _ _ ((KeepsOthers.alloc _ _).from _) (KeptC.of_below ((Below.refl _ Z).alloc (Nat.le_refl _) _)) ⟨hI1, hI2.alloc hI2.size _⟩ ⟨Z.heap.size, hI2.size, Row.new Z _ _, rfl⟩
    case body =>
      rintro l pre x a' Z ⟨hI1, hI2⟩ ⟨bx, hbx, rX, rfl⟩ hpre
      have hmem := (mem_allW r (phZ r) x).1 (hpre.subset (List.mem_append_right _ (List.mem_singleton.2 rfl)))
      obtain ⟨hp, hk, hx1⟩ := hmem
      have rX2 := rX
      unfold wCells at rX2
      obtain ⟨_, x0, x1, x2⟩ := Row.at_3 rX2
      by_cases hneg : x.1 < 0
      · have hngm : momZ r (worstZ r x.2.1 x.2.2) x.2.1 x.2.2 < 0 := by rw [← hx1]; exact hneg
        have zZ := hI2.size
        have RZ := RV.below hI2
        obtain ⟨r1, r2, r3, r4, r5⟩ := And.intro RZ.r1 (And.intro RZ.r2 (And.intro RZ.r3 (And.intro RZ.r4 RZ.r5)))
        have HTI : Hid (TI w Z r R g w.heap.size Z.heap.size w1.heap.size bx x Z.drew) := TI.drew ⟨RZ.bel, Nat.le_refl _, gV.below hI2 gV.lt, rX, ⟨_, r1⟩, ⟨_, r2⟩, ⟨_, r3⟩, ⟨_, r4⟩, ⟨_, r5⟩, LV.keep (hI2.block g LV.lt), KeepsOthers.refl _⟩
        clear q0 q1 q2 q3 q4 q5 q6 q7 q8 q9 gV2 rX2
        gi_upto_region 7 with fail
        clear x0 x1 x2
        have zS : w.heap.size + 5 < Z.heap.size := RZ.r5.lt
        have zw1 : W.heap.size ≤ w1.heap.size := hb1.size
        have HFu : Hid (∀ y, TI w Z r R g w.heap.size Z.heap.size w1.heap.size bx x y → Calls Try.prog 77 #[gRigV r R g (phZ r), .int .i64 (x.2.1 : Int), .int .i64 (x.2.2 : Int)] y (FuPost y r x.2.1 x.2.2)) := fun y hI =>
          fewestFull_any r R B g (phZ r) x.2.1 x.2.2 y (Nat.le_trans hB hI.bel.size) (hR.below (hI.bel.mono hB)) h1 hI.lin hk hp hngm
        unfold gRigV at HFu
        refine wpIn_region_steps 15 (ord := [0, 1, 2, 3, 4, 5, 6, 7, 8, 9, 10, 11, 12, 13, 14]) (ds := [(0, 23), (1, 24), (2, 25), (3, 26), (4, 27), (5, 28), (6, 29), (7, 30), (8, 31), (9, 32)]) (I := fun _ y => TI w Z r R g w.heap.size Z.heap.size w1.heap.size bx x y) (V := TV r R g w.heap.size Z.heap.size bx x.2.1 x.2.2) (by kernel_rfl) (by kernel_rfl) rfl ?ia (StepsE.cons (k := 0) (k' := 1) (o := ⟨some 23, _, _, _, _, _⟩) rfl rfl ?sa0 (StepsE.cons (k := 1) (k' := 2) (o := ⟨some 24, _, _, _, _, _⟩) rfl rfl ?sa1 (StepsE.cons (k := 2) (k' := 3) (o := ⟨some 25, _, _, _, _, _⟩) rfl rfl ?sa2 (StepsE.cons (k := 3) (k' := 4) (o := ⟨some 26, _, _, _, _, _⟩) rfl rfl ?sa3 (StepsE.cons (k := 4) (k' := 5) (o := ⟨some 27, _, _, _, _, _⟩) rfl rfl ?sa4 (StepsE.cons (k := 5) (k' := 6) (o := ⟨some 28, _, _, _, _, _⟩) rfl rfl ?sa5 (StepsE.cons (k := 6) (k' := 7) (o := ⟨some 29, _, _, _, _, _⟩) rfl rfl ?sa6 (StepsE.cons (k := 7) (k' := 8) (o := ⟨some 30, _, _, _, _, _⟩) rfl rfl ?sa7 (StepsE.cons (k := 8) (k' := 9) (o := ⟨some 31, _, _, _, _, _⟩) rfl rfl ?sa8 (StepsE.cons (k := 9) (k' := 10) (o := ⟨some 32, _, _, _, _, _⟩) rfl rfl ?sa9 (StepsE.cons (k := 10) (k' := 11) (o := ⟨none, _, _, _, _, _⟩) rfl rfl ?sa10 (StepsE.cons (k := 11) (k' := 12) (o := ⟨none, _, _, _, _, _⟩) rfl rfl ?sa11 (StepsE.cons (k := 12) (k' := 13) (o := ⟨none, _, _, _, _, _⟩) rfl rfl ?sa12 (StepsE.cons (k := 13) (k' := 14) (o := ⟨none, _, _, _, _, _⟩) rfl rfl ?sa13 (StepsE.cons (k := 14) (k' := 15) (o := ⟨none, _, _, _, _, _⟩) rfl rfl ?sa14 StepsE.nil))))))))))))))) ?fina
        case ia => exact HTI.out
        case sa0 =>
          intro xs done y hI hd0 hdn hup hV K hK
          refine wpOpIn_go (o := ⟨some 23, _, _, _, _, _⟩) rfl rfl ?_
          clear hV
          simp only [putsF, List.foldl_cons, List.foldl_nil, Act.put, List.setIfInBounds_toArray, List.set_cons_zero, List.set_cons_succ] at hK ⊢
          have h := hI.rig
          unfold gCells at h
          obtain ⟨_, q0, q1, q2, q3, q4, q5, q6, q7, q8, q9⟩ := Row.at_10 h
          gi_wp2
          exact hK.out _ _ hI (by exact rfl) (fun _ _ _ _ _ h => h)
        case sa1 =>
          intro xs done y hI hd0 hdn hup hV K hK
          refine wpOpIn_go (o := ⟨some 24, _, _, _, _, _⟩) rfl rfl ?_
          clear hV
          simp only [putsF, List.foldl_cons, List.foldl_nil, Act.put, List.setIfInBounds_toArray, List.set_cons_zero, List.set_cons_succ] at hK ⊢
          gi_wp2
          exact hK.out _ _ hI (by exact rfl) (fun _ _ _ _ _ h => h)
        case sa2 =>
          intro xs done y hI hd0 hdn hup hV K hK
          refine wpOpIn_go (o := ⟨some 25, _, _, _, _, _⟩) rfl rfl ?_
          have e1 : xs 1 = .pointer (some ⟨bx, 1, none⟩) := hV 1 (by kernel_rfl)
          clear hV
          simp only [putsF, List.foldl_cons, List.foldl_nil, Act.put, List.setIfInBounds_toArray, List.set_cons_zero, List.set_cons_succ] at hK ⊢
          simp only [e1] at hK ⊢
          clear e1
          have h := hI.wst
          unfold wCells at h
          obtain ⟨_, x0, x1, x2⟩ := Row.at_3 h
          gi_wp2
          exact hK.out _ _ hI (by exact rfl) (fun _ _ _ _ _ h => h)
        case sa3 =>
          intro xs done y hI hd0 hdn hup hV K hK
          refine wpOpIn_go (o := ⟨some 26, _, _, _, _, _⟩) rfl rfl ?_
          clear hV
          simp only [putsF, List.foldl_cons, List.foldl_nil, Act.put, List.setIfInBounds_toArray, List.set_cons_zero, List.set_cons_succ] at hK ⊢
          gi_wp2
          exact hK.out _ _ hI (by exact rfl) (fun _ _ _ _ _ h => h)
        case sa4 =>
          intro xs done y hI hd0 hdn hup hV K hK
          refine wpOpIn_go (o := ⟨some 27, _, _, _, _, _⟩) rfl rfl ?_
          have e3 : xs 3 = .pointer (some ⟨bx, 2, none⟩) := hV 3 (by kernel_rfl)
          clear hV
          simp only [putsF, List.foldl_cons, List.foldl_nil, Act.put, List.setIfInBounds_toArray, List.set_cons_zero, List.set_cons_succ] at hK ⊢
          simp only [e3] at hK ⊢
          clear e3
          have h := hI.wst
          unfold wCells at h
          obtain ⟨_, x0, x1, x2⟩ := Row.at_3 h
          gi_wp2
          exact hK.out _ _ hI (by exact rfl) (fun _ _ _ _ _ h => h)
        case sa5 =>
          intro xs done y hI hd0 hdn hup hV K hK
          refine wpOpIn_go (o := ⟨some 28, _, _, _, _, _⟩) rfl rfl ?_
          have e0 : xs 0 = .agg #[.slice R.A1 r.seats.length R.c1, .slice R.A2 r.feet.length R.c2, .int .i64 r.frame, .int .i64 r.center.x, .int .i64 r.center.y, .int .i64 r.center.z, .int .i64 r.empty, .int .i64 r.full, .slice (some ⟨g, 0, none⟩) r.feet.length r.feet.length, .int .i64 (phZ r : Int)] := hV 0 (by kernel_rfl)
          have e2 : xs 2 = .int .i64 (x.2.1 : Int) := hV 2 (by kernel_rfl)
          have e4 : xs 4 = .int .i64 (x.2.2 : Int) := hV 4 (by kernel_rfl)
          clear hV
          simp only [putsF, List.foldl_cons, List.foldl_nil, Act.put, List.setIfInBounds_toArray, List.set_cons_zero, List.set_cons_succ] at hK ⊢
          simp only [e0, e2, e4] at hK ⊢
          clear e0 e2 e4
          gi_wp2
          refine ⟨trivial, ?_⟩
          refine (CallsIn.inRound l (callsIn_wide.2 (HFu.out y hI))).mono ?_
          rintro e z ⟨hz, n5, G5, hf5, rfl, hG5, hr5⟩
          gi_wp2
          exact hK.out _ _ (hI.keep hz hI.bel.size) ⟨n5, G5, hf5, rfl, Nat.le_trans hI.zs hG5, hr5⟩ (fun j u _ _ _ h => h.below hz (Nat.lt_of_lt_of_le zS hI.zs))
        case sa6 =>
          intro xs done y hI hd0 hdn hup hV K hK
          refine wpOpIn_go (o := ⟨some 29, _, _, _, _, _⟩) rfl rfl ?_
          clear hV
          simp only [putsF, List.foldl_cons, List.foldl_nil, Act.put, List.setIfInBounds_toArray, List.set_cons_zero, List.set_cons_succ] at hK ⊢
          gi_wp2
          exact hK.out _ _ hI (by exact rfl) (fun _ _ _ _ _ h => h)
        case sa7 =>
          intro xs done y hI hd0 hdn hup hV K hK
          refine wpOpIn_go (o := ⟨some 30, _, _, _, _, _⟩) rfl rfl ?_
          have e6 : xs 6 = .pointer (some ⟨bx, 1, none⟩) := hV 6 (by kernel_rfl)
          clear hV
          simp only [putsF, List.foldl_cons, List.foldl_nil, Act.put, List.setIfInBounds_toArray, List.set_cons_zero, List.set_cons_succ] at hK ⊢
          simp only [e6] at hK ⊢
          clear e6
          have h := hI.wst
          unfold wCells at h
          obtain ⟨_, x0, x1, x2⟩ := Row.at_3 h
          gi_wp2
          exact hK.out _ _ hI (by exact rfl) (fun _ _ _ _ _ h => h)
        case sa8 =>
          intro xs done y hI hd0 hdn hup hV K hK
          refine wpOpIn_go (o := ⟨some 31, _, _, _, _, _⟩) rfl rfl ?_
          clear hV
          simp only [putsF, List.foldl_cons, List.foldl_nil, Act.put, List.setIfInBounds_toArray, List.set_cons_zero, List.set_cons_succ] at hK ⊢
          gi_wp2
          exact hK.out _ _ hI (by exact rfl) (fun _ _ _ _ _ h => h)
        case sa9 =>
          intro xs done y hI hd0 hdn hup hV K hK
          refine wpOpIn_go (o := ⟨some 32, _, _, _, _, _⟩) rfl rfl ?_
          have e8 : xs 8 = .pointer (some ⟨bx, 2, none⟩) := hV 8 (by kernel_rfl)
          clear hV
          simp only [putsF, List.foldl_cons, List.foldl_nil, Act.put, List.setIfInBounds_toArray, List.set_cons_zero, List.set_cons_succ] at hK ⊢
          simp only [e8] at hK ⊢
          clear e8
          have h := hI.wst
          unfold wCells at h
          obtain ⟨_, x0, x1, x2⟩ := Row.at_3 h
          gi_wp2
          exact hK.out _ _ hI (by exact rfl) (fun _ _ _ _ _ h => h)
        case sa10 =>
          intro xs done y hI hd0 hdn hup hV K hK
          refine wpOpIn_go (o := ⟨none, _, _, _, _, _⟩) rfl rfl ?_
          obtain ⟨n5, G5, hf5, e5, hz5, hr5⟩ : LdIn r x.2.1 x.2.2 Z.heap.size (xs 5) y := hV 5 (by kernel_rfl)
          clear hV
          simp only [putsF, List.foldl_cons, List.foldl_nil, Act.put, List.setIfInBounds_toArray, List.set_cons_zero, List.set_cons_succ] at hK ⊢
          simp only [e5] at hK ⊢
          clear e5
          obtain ⟨v0, hr0⟩ := hI.r1
          have g0 := hr0.cell (j := 0) (by simp)
          simp only [List.getElem?_cons_zero] at g0
          have g1 := hr0.frozen 0
          gi_wp2
          exact hK.out undef _ (hI.set (c := 1) (by omega) (by omega) (by omega) _) ⟨_, LdIn.keep ⟨n5, G5, hf5, rfl, hz5, hr5⟩ (fun b hb1 _ => Below.heap_setCell y ⟨w.heap.size + 1, 0, none⟩ _ b (by show b ≠ w.heap.size + 1; omega)), hr0.set 0 _⟩ (fun j u _ hne _ h => h.set zS (c := 1) (by omega) (by omega) _)
        case sa11 =>
          intro xs done y hI hd0 hdn hup hV K hK
          refine wpOpIn_go (o := ⟨none, _, _, _, _, _⟩) rfl rfl ?_
          have e7 : xs 7 = .int .i64 (x.2.1 : Int) := hV 7 (by kernel_rfl)
          clear hV
          simp only [putsF, List.foldl_cons, List.foldl_nil, Act.put, List.setIfInBounds_toArray, List.set_cons_zero, List.set_cons_succ] at hK ⊢
          simp only [e7] at hK ⊢
          clear e7
          obtain ⟨v0, hr0⟩ := hI.r2
          have g0 := hr0.cell (j := 0) (by simp)
          simp only [List.getElem?_cons_zero] at g0
          have g1 := hr0.frozen 0
          gi_wp2
          exact hK.out undef _ (hI.set (c := 2) (by omega) (by omega) (by omega) _) (hr0.set 0 _) (fun j u _ hne _ h => h.set zS (c := 2) (by omega) (by omega) _)
        case sa12 =>
          intro xs done y hI hd0 hdn hup hV K hK
          refine wpOpIn_go (o := ⟨none, _, _, _, _, _⟩) rfl rfl ?_
          have e9 : xs 9 = .int .i64 (x.2.2 : Int) := hV 9 (by kernel_rfl)
          clear hV
          simp only [putsF, List.foldl_cons, List.foldl_nil, Act.put, List.setIfInBounds_toArray, List.set_cons_zero, List.set_cons_succ] at hK ⊢
          simp only [e9] at hK ⊢
          clear e9
          obtain ⟨v0, hr0⟩ := hI.r3
          have g0 := hr0.cell (j := 0) (by simp)
          simp only [List.getElem?_cons_zero] at g0
          have g1 := hr0.frozen 0
          gi_wp2
          exact hK.out undef _ (hI.set (c := 3) (by omega) (by omega) (by omega) _) (hr0.set 0 _) (fun j u _ hne _ h => h.set zS (c := 3) (by omega) (by omega) _)
        case sa13 =>
          intro xs done y hI hd0 hdn hup hV K hK
          refine wpOpIn_go (o := ⟨none, _, _, _, _, _⟩) rfl rfl ?_
          clear hV
          simp only [putsF, List.foldl_cons, List.foldl_nil, Act.put, List.setIfInBounds_toArray, List.set_cons_zero, List.set_cons_succ] at hK ⊢
          obtain ⟨v0, hr0⟩ := hI.r4
          have g0 := hr0.cell (j := 0) (by simp)
          simp only [List.getElem?_cons_zero] at g0
          have g1 := hr0.frozen 0
          gi_wp2
          exact hK.out undef _ (hI.set (c := 4) (by omega) (by omega) (by omega) _) (hr0.set 0 _) (fun j u _ hne _ h => h.set zS (c := 4) (by omega) (by omega) _)
        case sa14 =>
          intro xs done y hI hd0 hdn hup hV K hK
          refine wpOpIn_go (o := ⟨none, _, _, _, _, _⟩) rfl rfl ?_
          clear hV
          simp only [putsF, List.foldl_cons, List.foldl_nil, Act.put, List.setIfInBounds_toArray, List.set_cons_zero, List.set_cons_succ] at hK ⊢
          obtain ⟨v0, hr0⟩ := hI.r5
          have g0 := hr0.cell (j := 0) (by simp)
          simp only [List.getElem?_cons_zero] at g0
          have g1 := hr0.frozen 0
          gi_wp2
          exact hK.out undef _ (hI.set (c := 5) (by omega) (by omega) (by omega) _) (hr0.set 0 _) (fun j u _ hne _ h => h.set zS (c := 5) (by omega) (by omega) _)
        case fina =>
          intro xs done y hI hdone hV
          obtain ⟨v, h10, h11⟩ : ∃ v, LdIn r x.2.1 x.2.2 Z.heap.size v y ∧ Row y (w.heap.size + 1) 64 [v] := hV 10 (by decide)
          have g11 : Row y (w.heap.size + 2) 3 [.int .i64 (x.2.1 : Int)] := hV 11 (by decide)
          have g12 : Row y (w.heap.size + 3) 3 [.int .i64 (x.2.2 : Int)] := hV 12 (by decide)
          have g13 : Row y (w.heap.size + 4) 4 [.bool true] := hV 13 (by decide)
          have g14 : Row y (w.heap.size + 5) 29 [.int .i64 0] := hV 14 (by decide)
          clear hV
          simp only [putsF, List.foldl_cons, List.foldl_nil, Act.put, List.setIfInBounds_toArray, List.set_cons_zero, List.set_cons_succ]
          gi_wp2
          exact ⟨hI.oth.from _, rfl, pre, x, v, rfl, hI1, hneg, ⟨hI.bel, h11, g11, g12, g13, g14⟩, h10.mono (by omega)⟩
      · gi_wp2
        refine ⟨(KeepsOthers.refl _).from _, KeptC.refl _ _, ?_, hI2⟩
        intro y hy
        rcases List.mem_append.1 hy with hy | hy
        · exact hI1 y hy
        · obtain rfl : y = x := by simpa using hy
          omega
    case done =>
      rintro D Z hD ⟨hI1, hI2⟩ hK
      have RZ := RV.below hI2
      have zZ := RV.bel.size
      clear q0 q1 q2 q3 q4 q5 q6 q7 q8 q9 c1 f1 c2 f2 c3 f3 c4 f4 c5 f5
      obtain ⟨⟨c1, f1⟩, ⟨c2, f2⟩, ⟨c3, f3⟩, ⟨c4, f4⟩, ⟨c5, f5⟩⟩ := RZ.cells
      gi_wp2
      refine tips_end (w := w) (v := .slice none 0 0) (p := 0) (k := 0) (b := false) ?_ (by omega) (RZ.set (.slice none 0 0) 0 0 false 0) (fun Y hY _ => ⟨hY, .inr (.inl ⟨h1, hI1, rfl⟩)⟩) _ rfl rfl rfl rfl rfl
      exact ((KeepsOthers.setCell _ _ _).trans ((KeepsOthers.setCell _ _ _).trans ((KeepsOthers.setCell _ _ _).trans ((KeepsOthers.setCell _ _ _).trans (KeepsOthers.setCell _ _ _))))).same D _ hK rfl
    case stop =>
      rintro D cd pre Z hD hpre ⟨rfl, pre', x, v, rfl, h2, h3, h4, h5⟩ hK
      have zZ := RV.bel.size
      gi_wp2
      exact tips_end (w := w) hK (by omega) h4 (fun Y hY hk => ⟨hY, .inr (.inr ⟨h1, x, v, ⟨pre', h2, h3, hpre⟩, h5.away hk, rfl⟩)⟩) _ rfl rfl rfl rfl rfl
end Go.Proofs.Ytkmiapfkebdpbaa
