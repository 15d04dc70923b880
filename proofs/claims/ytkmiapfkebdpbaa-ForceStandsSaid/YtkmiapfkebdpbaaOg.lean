/- The range over worstMoments, where the body knows which one comes. No more conditions than before. -/
import Derived.Test.YtkmiapfkebdpbaaKw
namespace Go.Proofs.Ytkmiapfkebdpbaa
open Go.RowKit Go.Shelf
attribute [local go_sem] Oper.semAt_some

theorem w_pre1 {r : RigZ} {n p k : Nat} (hp : p < n) (hk : k < r.feet.length) : ((wpL r p ++ wlL r p k) ++ [(momZ r (worstZ r p k) p k, p, k)]) <+: wpL r n := by
  have h := w_pre (k := k + 1) hp hk
  rw [wlL_succ, ← List.append_assoc] at h
  exact h
section
variable {F : Fence} {n : Nat} {P : Program}
/-- The iterator gets 'first' ahead of yield; it goes through xs; a round that goes on keeps what Kp says. -/
def SeqBoundP {α : Type} (F : Fence) (n : Nat) (P : Program) (g : Nat) (first : Array Value) (enc : α → Value) (Kp : World → World → Prop) (xs : List α) (w : World) : Prop :=
  ∀ (l : Nat) (J Jx : List α → World → Prop) (W : World), Below w.heap.size w W → AbidesFrom W.heap.size J → AbidesFrom W.heap.size Jx →
    (∀ pre x W1, J pre W1 → (pre ++ [x]) <+: xs → YieldAt F (n - 1) P l #[enc x] W1 fun e W' =>
      (e = .returned (.bool true) ∧ J (pre ++ [x]) W' ∧ Kp W1 W') ∨ (e = .returned (.bool false) ∧ Jx (pre ++ [x]) W')) →
    J [] W →
    CallsIn F n P g (first ++ #[.func (.yield l) #[] #[]]) W fun e W' => (∃ v, e = .returned v) ∧ (J xs W' ∨ ∃ pre, pre <+: xs ∧ Jx pre W')

theorem range_boundP {α : Type} {g : Operand} {ps : Array Tmp} {assign body : Code} {Q : Exit → Act → World → Prop} {a : Act} {w : World}
    (hro : F.round = none) (h1 : 1 ≤ n) {gf : Nat} {first : Array Value} (hg : a.eval g = .func (.func gf) first #[]) (hFg : F.fn gf) (eg : ∀ args w, (callFunc gf args).run P w = .ok (.enter gf args) w)
    {enc : α → Value} {Kp : World → World → Prop} {xs : List α} (hKt : ∀ {A B C : World}, Kp A B → Kp B C → Kp A C) (hKb : ∀ (W : World) (l : Nat) (o o' : Obj), w.heap.size ≤ l → W.heap[l]? = some o → o.isCells = false → Kp W (W.putObj l o'))
    (hseq : SeqBoundP F (n - 1) P gf first enc Kp xs w) (hps : ps.size = 1)
    (I : List α → World → Prop) (Ix : Code → List α → World → Prop) (hI : OwnFrom w.heap.size I) (hIx : ∀ c, OwnFrom w.heap.size (Ix c)) (h0 : I [] w) (Ax : α → Act → World → Prop) (hAx : ∀ x a', OwnFrom w.heap.size (fun (_ : Unit) W => Ax x a' W))
    (hassign : ∀ (l : Nat) (pre : List α) (x : α) (W : World) (K : Act → World → Prop), I pre W → (∀ a' W', KeepsFrom w.heap.size W W' → Kp W W' → I pre W' → Ax x a' W' → K a' W') →
      assign.wpIn (F.inRound l) (n - 1 - 1) P (Exit.then K (fun _ _ _ => False)) { tmps := (ps.zip #[enc x]).foldl (fun t (p, v) => t.setIfInBounds p v) a.tmps, defers := [] } W)
    (hbody : ∀ (l : Nat) (pre : List α) (x : α) (a' : Act) (W : World), I pre W → Ax x a' W → (pre ++ [x]) <+: xs → body.wpIn (F.inRound l) (n - 1 - 1) P (LeftOk w.heap.size Kp I Ix (pre ++ [x]) W) a' W)
    (hdone : ∀ (D : Nat) (W : World), w.heap.size ≤ D → I xs W → W.heap[D]? = some (.deferred (some [])) → Q .normal { a with defers := { target := .collected D, args := #[] } :: a.defers } W)
    (hstop : ∀ (D : Nat) (c : Code) (pre : List α) (W : World), w.heap.size ≤ D → pre <+: xs → Ix c pre W → W.heap[D]? = some (.deferred (some [])) → c.wpIn F n P Q { a with defers := { target := .collected D, args := #[] } :: a.defers } W) :
    (Code.rangeFunc g ps assign body).wpIn F n P Q a w := by
  refine wpIn_rangeFunc fun fn hfn => ?_
  rw [hro]
  obtain ⟨L, hL⟩ : ∃ L : LoopState → Option Code → Loop, L = fun st p => { state := st, pending := p, fn, tmps := a.tmps, params := ps, assign, body, defers := w.heap.size } := ⟨_, rfl⟩
  obtain ⟨V, hV⟩ : ∃ V, V = (w.alloc (.deferred (some []))).alloc (.loop (L .ready none)) := ⟨_, rfl⟩
  have zV : V.heap.size = w.heap.size + 2 := by subst hV; simp
  have lV : V.heap[w.heap.size + 1]? = some (.loop (L .ready none)) := by
    subst hV
    have h := World.alloc_heap_new (w.alloc (.deferred (some []))) (.loop (L .ready none))
    rwa [World.size_alloc] at h
  have dV : V.heap[w.heap.size]? = some (.deferred (some [])) := by
    subst hV
    exact (Below.heap_alloc _ _ _ (by simp)).trans (World.alloc_heap_new w _)
  have bV : Below w.heap.size w V := by subst hV; exact ((Below.refl _ w).alloc (Nat.le_refl _) _).alloc (by simp) _
  have iV : I [] V := by subst hV; exact hI.alloc _ (hI.alloc _ h0)
  have far : ∀ {A B : World} {row : Option Nat}, (∀ r, row = some r → V.heap.size ≤ r ∧ ∃ o : Obj, A.heap[r]? = some o ∧ o.isWalk = true) → ∀ r, row = some r → w.heap.size ≤ r ∧ ∃ o : Obj, A.heap[r]? = some o ∧ o.isCells = false := by
    intro A B row h r e
    obtain ⟨h2, o, h3, h4⟩ := h r e
    exact ⟨by omega, o, h3, Obj.not_cells_of_walk h4⟩
  refine ⟨w.heap.size + 1, [{ target := .collected w.heap.size, args := #[] }], V, { target := .fn (.func gf) #[], args := first ++ #[.func (.yield (w.heap.size + 1)) #[] #[]] }, V, gf, first ++ #[.func (.yield (w.heap.size + 1)) #[] #[]], V, ?_, ?_, ?_, ?_, fun _ => h1, ?_⟩
  · subst hV hL; exact run_enterLoop_outer _ _ _ _ _
  · simp only [resolve, hg]
    simp [go_sem]
  · intro f' hf'
    simp [Target.leads] at hf'
    subst hf'
    exact hFg
  · simp [invoke, go_sem, eg]
  refine (hseq (w.heap.size + 1)
    (fun pre W => I pre W ∧ W.heap[w.heap.size + 1]? = some (.loop (L .ready none)) ∧ W.heap[w.heap.size]? = some (.deferred (some [])))
    (fun pre W => ∃ c, Ix c pre W ∧ W.heap[w.heap.size + 1]? = some (.loop (L .done (some c))) ∧ W.heap[w.heap.size]? = some (.deferred (some [])))
    V bV ?_ ?_ ?_ ⟨iV, lV, dV⟩).mono ?_
  · rintro s A B row ⟨hs, hl, hd⟩ hgr hr
    exact ⟨hI s A B row hs hgr (far (B := B) hr), (grownBy_keeps hgr (fun r e => (hr r e).2) hl rfl).trans hl, (grownBy_keeps hgr (fun r e => (hr r e).2) hd rfl).trans hd⟩
  · rintro s A B row ⟨c, hs, hl, hd⟩ hgr hr
    exact ⟨c, hIx c s A B row hs hgr (far (B := B) hr), (grownBy_keeps hgr (fun r e => (hr r e).2) hl rfl).trans hl, (grownBy_keeps hgr (fun r e => (hr r e).2) hd rfl).trans hd⟩
  · rintro pre x W ⟨hi, hl, hd⟩ hlen
    have zl := (Array.getElem?_eq_some_iff.1 hl).1
    have hy := run_yield (P := P) (args := #[enc x]) hl (by rw [hL]; simp [hps])
    rw [hL] at hy
    refine ⟨fn, _, assign, body, hy, roundIn_of_wpIn hfn (hassign _ pre x W _ hi ?_)⟩
    clear hy
    intro a' Wa hka hkpa hia hax
    have hla := hka.same _ _ (by omega) hl rfl
    have hda := hka.same _ _ (Nat.le_refl _) hd rfl
    have zla := (Array.getElem?_eq_some_iff.1 hla).1
    refine ⟨_, run_beginRound hla (by rw [hL]), ?_⟩
    obtain ⟨W2, hW2⟩ : ∃ W2, W2 = Wa.putObj (w.heap.size + 1) (.loop { L .ready none with state := .busy }) := ⟨_, rfl⟩
    rw [← hW2]
    have l2 : W2.heap[w.heap.size + 1]? = some (.loop { L .ready none with state := .busy }) := by subst hW2; exact World.putObj_heap_same zla
    have d2 : W2.heap[w.heap.size]? = some (.deferred (some [])) := by subst hW2; exact (World.putObj_heap_other (by omega)).trans hda
    have b2 : Kp Wa W2 := by subst hW2; exact hKb Wa _ _ _ (by omega) hla rfl
    have i2 : I pre W2 := by subst hW2; exact hI.putObj _ hia (by omega) hla rfl
    have ax2 : Ax x a' W2 := by subst hW2; exact (hAx x a').putObj (s := ()) _ hax (by omega) hla rfl
    refine wpIn_mono (hbody _ pre x a' _ i2 ax2 hlen) ?_
    have ends : ∀ (jump : Option Code) (W3 : World), KeepsFrom w.heap.size W2 W3 →
        (Instr.endRound (w.heap.size + 1) jump).run P W3 = .ok (.bool jump.isNone) (W3.putObj (w.heap.size + 1) (.loop (L (if jump.isNone then .ready else .done) jump))) ∧
        W3.heap[w.heap.size + 1]? = some (.loop { L .ready none with state := .busy }) ∧
        (W3.putObj (w.heap.size + 1) (.loop (L (if jump.isNone then .ready else .done) jump))).heap[w.heap.size + 1]? = some (.loop (L (if jump.isNone then .ready else .done) jump)) ∧
        (W3.putObj (w.heap.size + 1) (.loop (L (if jump.isNone then .ready else .done) jump))).heap[w.heap.size]? = some (.deferred (some [])) := by
      intro jump W3 hk
      have l3 := hk.same _ _ (by omega) l2 rfl
      have d3 := hk.same _ _ (Nat.le_refl _) d2 rfl
      have h := run_endRound (P := P) jump l3
      subst hL
      exact ⟨h, l3, World.putObj_heap_same (Array.getElem?_eq_some_iff.1 l3).1, (World.putObj_heap_other (by omega)).trans d3⟩
    have gone : ∀ (c : Code) (W3 : World), KeepsFrom w.heap.size W2 W3 → Ix c (pre ++ [x]) W3 → ∃ v w', (Instr.endRound (w.heap.size + 1) (some c)).run P W3 = .ok v w' ∧
        ((Ending.returned v = .returned (.bool true) ∧ (I (pre ++ [x]) w' ∧ w'.heap[w.heap.size + 1]? = some (.loop (L .ready none)) ∧ w'.heap[w.heap.size]? = some (.deferred (some []))) ∧ Kp W w') ∨
        (Ending.returned v = .returned (.bool false) ∧ ∃ c, Ix c (pre ++ [x]) w' ∧ w'.heap[w.heap.size + 1]? = some (.loop (L .done (some c))) ∧ w'.heap[w.heap.size]? = some (.deferred (some [])))) := by
      intro c W3 hk hi3
      obtain ⟨hr, l3, l4, d4⟩ := ends (some c) W3 hk
      exact ⟨_, _, hr, .inr ⟨rfl, c, (hIx c).putObj _ hi3 (by omega) l3 rfl, l4, d4⟩⟩
    rintro e a3 W3 hp
    cases e with
    | normal =>
      obtain ⟨hk, hb, hi3⟩ := hp
      obtain ⟨hr, l3, l4, d4⟩ := ends none W3 hk
      exact ⟨_, _, hr, .inl ⟨rfl, ⟨hI.putObj _ hi3 (by omega) l3 rfl, l4, d4⟩, hKt hkpa (hKt (hKt b2 hb) (hKb W3 _ _ _ (by omega) l3 rfl))⟩⟩
    | ret => exact gone _ W3 hp.1 hp.2
    | exit id => exact hp.elim
    | goto t => exact hp.elim
    | panic ch => exact hp.elim
    | outgrown => exact hp.elim
  · rintro e W2 ⟨⟨v, rfl⟩, ⟨hi, hl, hd⟩ | ⟨pre, hpre, c, hi, hl, hd⟩⟩
    · have h := run_endLoop (P := P) hl (by rw [hL]; simp)
      rw [show (L .ready none).pending = none from by rw [hL]] at h
      exact ⟨none, _, h, hdone _ _ (Nat.le_refl _) (hI.putObj _ hi (by omega) hl rfl) ((World.putObj_heap_other (by omega)).trans hd)⟩
    · have h := run_endLoop (P := P) hl (by rw [hL]; simp)
      rw [show (L .done (some c)).pending = some c from by rw [hL]] at h
      exact ⟨some c, _, h, hstop _ c pre _ (Nat.le_refl _) hpre ((hIx c).putObj _ hi (by omega) hl rfl) ((World.putObj_heap_other (by omega)).trans hd)⟩
end
set_option maxRecDepth 100000 in
set_option maxHeartbeats 4000000 in
theorem worst_seqP (nn : Nat) (hn : 1 ≤ nn) (r : RigZ) (R : RigR) (B g Gx : Nat) (w : World) (hB : B ≤ w.heap.size) (hR : RigIn w B r R) (hv : rigB r = true) (hL : Lines w g r.feet r.feet.length) (hBG : B ≤ Gx) (hg : g ≠ Gx) (hGw : Gx < w.heap.size) :
    SeqBoundP Fence.wide nn Try.prog 75 #[gRigV r R g (phZ r)] encW (KeptC Gx) (wpL r (phZ r)) w := by
  intro l J Jx W0 hW0 hJ hJx hY h0
  obtain ⟨hs20, hsb, ⟨h3, h8, hsp, hgr, hcv⟩, hce, hfr, hem, hfu⟩ := rigB_parts hv
  have zW0 := hW0.size
  have hR0 := hR.below (hW0.mono hB)
  have zg := hL.lt
  have hL0 := hL.keep (hW0.block g zg)
  obtain ⟨W, hW⟩ : ∃ W, W = W0.alloc (.cells (gCells r R g (phZ r)).toArray 101) := ⟨_, rfl⟩
  have bW : Below W0.heap.size W0 W := by subst hW; exact (Below.refl _ _).alloc (Nat.le_refl _) _
  have rW : Row W W0.heap.size 101 (gCells r R g (phZ r)) := by subst hW; exact Row.new W0 _ (gCells r R g (phZ r)).toArray
  have jW : J [] W := abides_below hJ h0 bW
  have RW := hR0.below (bW.mono (Nat.le_trans hB zW0))
  have LW := hL0.keep (bW.block g (by omega))
  have sW : W0.heap.size < W.heap.size := rW.lt
  have hphn : phZ r ≤ 60 := by
    unfold phZ
    split
    · omega
    · exact ((pathB_iff _).1 (seatsB_at hsb (i := 0) (by omega)).1).2.1
  unfold gRigV
  refine callsIn_of_wp Try.func75 rfl trivial ?_ rfl
  simp only [Try.ntmps75, List.size_toArray, List.length_cons, List.length_nil, Nat.reduceAdd, Nat.reduceSub, Array.replicate_succ, Array.replicate_zero, List.push_toArray, List.append_toArray, List.nil_append, List.cons_append]
  unfold gCells at hW
  have hq9 := rW.cell (j := 9) (by simp [gCells])
  simp only [gCells, List.getElem?_cons_zero, List.getElem?_cons_succ] at hq9
  rw [hW] at hq9
  gi_wp2
  rw [← hW]
  clear hW hq9
  obtain ⟨Gr, hGr⟩ : ∃ Gr, Gr = W0.heap.size := ⟨_, rfl⟩
  rw [← hGr] at rW sW ⊢
  have zr : Gr ≠ Gx := by omega
  have zGr : w.heap.size ≤ Gr := by omega
  have jAb : AbidesFrom W0.heap.size J := hJ
  clear hGr
  gi_loopw [10] (fun i wr => ∃ p : Nat, p ≤ phZ r ∧ i = .int .i64 p ∧ J (wpL r p) wr ∧ KeptC Gx W wr) (fun i _ => phZ r - (intOf i).toNat)
  case atStart => exact ⟨0, Nat.zero_le _, rfl, jW, KeptC.refl _ _⟩
  case round =>
    obtain ⟨p, hp, rfl, hJ1, hK1⟩ := hrel
    have r1 := hK1.row zr rW
    unfold gCells at r1
    obtain ⟨_, q0, q1, q2, q3, q4, q5, q6, q7, q8, q9⟩ := Row.at_10 r1
    by_cases hlt : p < phZ r
    · obtain ⟨X, hX⟩ : ∃ X, X = wr.alloc (.cells #[.int .i64 (p : Int)] 3) := ⟨_, rfl⟩
      have bX : Below wr.heap.size wr X := by subst hX; exact (Below.refl _ _).alloc (Nat.le_refl _) _
      have rP : Row X wr.heap.size 3 [.int .i64 (p : Int)] := by subst hX; exact Row.new wr _ _
      have hpl : (p : Int) < (phZ r : Int) := by omega
      have zr1 := r1.lt
      gi_wp2
      rw [← hX]
      clear hX
      have kX : KeptC Gx W X := hK1.trans (KeptC.of_below bX)
      have jX : J (wpL r p) X := abides_below hJ hJ1 bX
      obtain ⟨Gp, hGp⟩ : ∃ Gp, Gp = wr.heap.size := ⟨_, rfl⟩
      rw [← hGp] at rP ⊢
      have zp : Gp ≠ Gx := by have := hK1.size; omega
      clear hGp hJ1 hK1 q0 q1 q2 q3 q4 q5 q6 q7 q8 q9 r1 zr1 bX
      gi_loopw [16] (fun i wr => ∃ k : Nat, k ≤ r.feet.length ∧ i = .int .i64 k ∧ J (wpL r p ++ wlL r p k) wr ∧ KeptC Gx W wr ∧ Row wr Gp 3 [.int .i64 (p : Int)]) (fun i _ => r.feet.length - (intOf i).toNat)
      case atStart => exact ⟨0, Nat.zero_le _, rfl, by simpa [wlL] using jX, kX, rP⟩
      case round =>
        obtain ⟨k, hk, rfl, hJ2, hK2, r2⟩ := hrel
        by_cases hlk : k < r.feet.length
        · have LX := hK2.lines hg LW
          have RX := hK2.rig hBG RW
          have rr := hK2.row zr rW
          have zx := hK2.size
          obtain ⟨d0, d1, d2, d3, d4, d5⟩ := LX.cells hlk
          have hkl : (k : Int) < (r.feet.length : Int) := by omega
          have hnil : ¬ r.feet = [] := by intro e; rw [e] at hlk; simp at hlk
          obtain ⟨Y, hY0⟩ : ∃ Y, Y = wr.alloc (.cells (lineAt r.feet k).toArray 125) := ⟨_, rfl⟩
          have bY : Below wr.heap.size wr Y := by subst hY0; exact (Below.refl _ _).alloc (Nat.le_refl _) _
          have rL : Row Y wr.heap.size 125 (lineAt r.feet k) := by subst hY0; exact Row.new wr _ (lineAt r.feet k).toArray
          have zy := bY.size
          have LY := LX.keep (bY.block g (by omega))
          have RY := RX.below (bY.mono (by omega))
          have rY := rr.below bY rr.lt
          have pY := r2.below bY r2.lt
          have jY := abides_below hJ hJ2 bY
          have kY := hK2.trans (KeptC.of_below (g := Gx) bY)
          have eI : IntKind.i64.wrap ((k : Int) + 1) = (k : Int) + 1 := IntWalk.i64_in _ (by omega)
          have HT : Tells Y 88 #[.pointer (some ⟨wr.heap.size, 0, none⟩), .pointer (some ⟨Gr, 0, none⟩), .pointer (some ⟨Gp, 0, none⟩)] r.seats.length (worstZ r p k) := by
            intro i x hi hx
            exact outside_any r R B g p k i wr.heap.size Gr Gp (phZ r) x (by have := hx.size; omega) (RY.below (hx.mono (by omega))) hv hi hlt (rL.below hx rL.lt) (rY.below hx rY.lt) (pY.below hx pY.lt)
          have HM : ∀ X, Below Y.heap.size Y X → Calls Try.prog 71 #[gRigV r R g (phZ r), .int .i64 (p : Int), .int .i64 (k : Int), .func (.func 88) #[] #[.pointer (some ⟨wr.heap.size, 0, none⟩), .pointer (some ⟨Gr, 0, none⟩), .pointer (some ⟨Gp, 0, none⟩)]] X fun e w' => e = .returned (.int .i64 (momZ r (worstZ r p k) p k)) ∧ Below Y.heap.size Y w' := fun X hX =>
            (moment_any r R B g (phZ r) p k X _ _ (worstZ r p k) (by have := hX.size; omega) (RY.below (hX.mono (by omega))) hv (LY.keep (hX.block g (by omega))) hlk hlt (fun a w => rfl) (fun i x hi hx => HT i x hi (below_step hX hx))).mono fun _ _ h => ⟨h.1, below_step hX h.2⟩
          have HM' := Lib.hid HM
          clear HM
          have hHM : Hid (gRigV r R g (phZ r) = gRigV r R g (phZ r)) := rfl
          have HY := Lib.hid (fun (y1 : World) (hy1 : Below Y.heap.size Y y1) => hY _ (momZ r (worstZ r p k) p k, p, k) y1 (abides_below hJ jY hy1) (w_pre1 hlt hlk))
          unfold lineAt at hY0 rL
          unfold gCells at rY rr
          unfold gRigV at HM'
          obtain ⟨_, q0, q1, q2, q3, q4, q5, q6, q7, q8, q9⟩ := Row.at_10 rY
          have pc : Y.cell? ⟨Gp, 0, none⟩ = some (.int .i64 (p : Int)) := pY.cell (j := 0) (by simp)
          gi_wp2
          rw [← hY0]
          clear hY0 d0 d1 d2 d3 d4 d5
          have hmx : Try.prog.follows .mixedOrders = true := by kernel_rfl
          gi_region_with_o (first
            | (refine ⟨trivial, ?_⟩; gi_at_call 71; refine (callsIn_wide.2 (HM'.out _ ?_)).mono ?_; (first | exact Below.refl _ _ | exact Below.drew (Below.refl _ _) | exact below_drewN (Below.refl _ _) _); rintro e y1 ⟨rfl, hy1⟩; have pc := (hy1.cell (p := ⟨Gp, 0, none⟩) pY.lt).trans pc; obtain ⟨fn, tmps, assign, body, hyr, hRr⟩ := HY.out y1 hy1; unfold encW at hyr; dsimp only at hyr)
            | ((with_reducible refine hRr.mono ?_); rintro e W3 h3; obtain ⟨bb, rfl, hbb⟩ := yield_bool h3; clear h3))
          all_goals
            rcases hbb with ⟨rfl, hJ4, hK4⟩ | ⟨rfl, hJx4⟩
            · gi_wp2
              go_roundw
              case rel => exact ⟨k + 1, by omega, by go_num, by rw [wlL_succ, ← List.append_assoc]; exact hJ4, kY.trans ((KeptC.of_below hy1).trans hK4), hK4.row zp (pY.below hy1 pY.lt)⟩
              case measure => simp [intOf]; omega
            · gi_wp2
              refine bodyPost_ret (results_none rfl _ _ _) rfl ?_
              refine ⟨⟨_, rfl⟩, .inr ⟨_, ?_, hJx4⟩⟩
              have h9 := w_pre (r := r) (n := phZ r) (p := p) (k := k + 1) hlt hlk
              rw [wlL_succ, ← List.append_assoc] at h9
              exact h9
        · obtain rfl : k = r.feet.length := by omega
          rw [← wpL_succ] at hJ2
          gi_wp2
          go_roundw
          case rel => exact ⟨p + 1, by omega, by go_num, hJ2, hK2⟩
          case measure => simp [intOf]; omega
    · obtain rfl : p = phZ r := by omega
      gi_wp2
      go_end0
      exact ⟨⟨_, rfl⟩, .inl hJ1⟩
end Go.Proofs.Ytkmiapfkebdpbaa
