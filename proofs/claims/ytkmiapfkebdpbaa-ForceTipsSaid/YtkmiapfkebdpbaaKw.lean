/- Contract of worstMoments as an iterator. Conditions: a valid rig that reads as data, its foot lines; the body of the loop writes but one block of cells that was there. -/
import Derived.Test.YtkmiapfkebdpbaaKv
import Derived.Test.YtkmiapfkebdpbaaKr
import Derived.RangeFuncNested
import Derived.RangeFuncBound
import Derived.RangeFuncCalls
import Derived.RangeFuncLeaves
import Derived.RangeFuncFrom
import Derived.Shelf.Abstract
import Derived.OwnWalkIn
import Derived.TacticsInMore
import Derived.LoopNIn
import Derived.LoopIn
import Derived.Shelf.RegionOpen
namespace Go.Proofs.Ytkmiapfkebdpbaa
open Go.RowKit Go.Shelf
attribute [local go_sem] Oper.semAt_some

/-- All blocks of cells but g lie as they lay. -/
def KeptC (g : Nat) (W W' : World) : Prop := W'.os = W.os ∧ W'.tape = W.tape ∧ W'.output = W.output ∧ W.heap.size ≤ W'.heap.size ∧ ∀ k o, k ≠ g → W.heap[k]? = some o → o.isCells = true → W'.heap[k]? = some o
theorem KeptC.refl (g : Nat) (W : World) : KeptC g W W := ⟨rfl, rfl, rfl, Nat.le_refl _, fun _ _ _ h _ => h⟩
theorem KeptC.trans {g : Nat} {A B C : World} (h : KeptC g A B) (k : KeptC g B C) : KeptC g A C :=
  ⟨k.1.trans h.1, k.2.1.trans h.2.1, k.2.2.1.trans h.2.2.1, Nat.le_trans h.2.2.2.1 k.2.2.2.1, fun i o hi ho hc => k.2.2.2.2 i o hi (h.2.2.2.2 i o hi ho hc) hc⟩
theorem KeptC.of_below {g : Nat} {W W' : World} (h : Below W.heap.size W W') : KeptC g W W' :=
  ⟨h.os, h.tape, h.output, h.size, fun k _o _ hk _ => (h.block k (Array.getElem?_eq_some_iff.1 hk).1).trans hk⟩
theorem KeptC.size {g : Nat} {W W' : World} (h : KeptC g W W') : W.heap.size ≤ W'.heap.size := h.2.2.2.1
theorem KeptC.putObj {g : Nat} (W : World) (l : Nat) (o o' : Obj) (h : W.heap[l]? = some o) (ho : o.isCells = false) : KeptC g W (W.putObj l o') := by
  have hg := grownBy_putObj' W l o'
  refine ⟨hg.os, hg.tape, hg.output, hg.size, fun k o2 _ hk hc => (hg.block k (Array.getElem?_eq_some_iff.1 hk).1 (fun e => ?_)).trans hk⟩
  injection e with e
  subst e
  rw [h] at hk
  injection hk with hk
  subst hk
  rw [ho] at hc
  cases hc
theorem KeptC.row {g k : Nat} {t : TypeId} {xs : List Value} {W W' : World} (h : KeptC g W W') (hk : k ≠ g) (hr : Row W k t xs) : Row W' k t xs := by
  obtain ⟨cs, h1, h2⟩ := hr
  exact ⟨cs, h.2.2.2.2 k _ hk h1 rfl, h2⟩
theorem KeptC.cell {g : Nat} {W W' : World} (h : KeptC g W W') {p : Addr} {v : Value} (hp : p.block ≠ g) (hc : W.cell? p = some v) : W'.cell? p = some v := by
  unfold World.cell? at hc ⊢
  split at hc
  · rename_i c t f he
    rw [h.2.2.2.2 p.block _ hp he rfl]
    exact hc
  · cases hc
theorem KeptC.lines {g k n : Nat} {l : List Pt} {W W' : World} (h : KeptC g W W') (hk : k ≠ g) (hr : Lines W k l n) : Lines W' k l n := by
  obtain ⟨xs, h1, h2⟩ := hr
  exact ⟨xs, h.row hk h1, h2⟩
theorem KeptC.reads {g B size n : Nat} {A : Option Addr} {xs : List Value} {W W' : World} (h : KeptC g W W') (hB : B ≤ g) (hr : Reads W B size A n xs) : Reads W' B size A n xs :=
  ⟨hr.1, fun hn => by
    obtain ⟨b, o, e, hb, hc⟩ := hr.2 hn
    exact ⟨b, o, e, hb, fun j u hj => h.cell (show b ≠ g by omega) (hc j u hj)⟩⟩
theorem KeptC.seats {g B : Nat} {A : Option Addr} {rs : List (Option Addr × Nat)} {ss : List (List Pt)} {W W' : World} (h : KeptC g W W') (hB : B ≤ g) (hs : SeatsIn W B A rs ss) : SeatsIn W' B A rs ss :=
  ⟨hs.len, fun h0 => by
    obtain ⟨b, o, e, hb, hc⟩ := hs.outer h0
    exact ⟨b, o, e, hb, fun i hi => h.cell (show b ≠ g by omega) (hc i hi)⟩, fun i hi => h.reads hB (hs.inner i hi), hs.lens⟩
theorem KeptC.rig {g B : Nat} {r : RigZ} {R : RigR} {W W' : World} (h : KeptC g W W') (hB : B ≤ g) (hs : RigIn W B r R) : RigIn W' B r R := ⟨h.seats hB hs.s, h.reads hB hs.f, hs.lf⟩

def encW (x : Int × Nat × Nat) : Value := .agg #[.int .i64 x.1, .int .i64 (x.2.1 : Int), .int .i64 (x.2.2 : Int)]
def wlL (r : RigZ) (p k : Nat) : List (Int × Nat × Nat) := (List.range k).map fun k => (momZ r (worstZ r p k) p k, p, k)
def wpL (r : RigZ) (n : Nat) : List (Int × Nat × Nat) := (List.range n).flatMap fun p => wlL r p r.feet.length
theorem allW_eq (r : RigZ) (n : Nat) : allW r n = wpL r n := rfl
theorem wlL_succ (r : RigZ) (p k : Nat) : wlL r p (k + 1) = wlL r p k ++ [(momZ r (worstZ r p k) p k, p, k)] := by simp [wlL, List.range_succ]
theorem wpL_succ (r : RigZ) (n : Nat) : wpL r (n + 1) = wpL r n ++ wlL r n r.feet.length := by simp [wpL, List.range_succ]
theorem wl_pre (r : RigZ) (p : Nat) {j k : Nat} (h : j ≤ k) : wlL r p j <+: wlL r p k := by
  obtain ⟨d, rfl⟩ := Nat.le.dest h
  clear h
  induction d with
  | zero => exact List.prefix_refl _
  | succ d ih => rw [← Nat.add_assoc, wlL_succ]; exact ih.trans (List.prefix_append _ _)
theorem wp_pre (r : RigZ) {j k : Nat} (h : j ≤ k) : wpL r j <+: wpL r k := by
  obtain ⟨d, rfl⟩ := Nat.le.dest h
  clear h
  induction d with
  | zero => exact List.prefix_refl _
  | succ d ih => rw [← Nat.add_assoc, wpL_succ]; exact ih.trans (List.prefix_append _ _)
theorem w_pre {r : RigZ} {n p k : Nat} (hp : p < n) (hk : k ≤ r.feet.length) : (wpL r p ++ wlL r p k) <+: wpL r n := by
  refine List.IsPrefix.trans ?_ (wp_pre r (show p + 1 ≤ n from hp))
  rw [wpL_succ]
  exact (List.prefix_append_right_inj _).2 (wl_pre r p hk)
theorem w_lt {r : RigZ} {n p k : Nat} (hp : p < n) (hk : k < r.feet.length) : (wpL r p ++ wlL r p k).length < (wpL r n).length := by
  have h := (w_pre (k := k + 1) hp hk).length_le
  rw [wlL_succ] at h
  simp only [List.length_append, List.length_cons, List.length_nil] at h ⊢
  omega
theorem abides_below {β : Type} {B : Nat} {J : β → World → Prop} (h : AbidesFrom B J) {s : β} {W W' : World} (hJ : J s W) (hb : Below W.heap.size W W') : J s W' :=
  h s W W' none hJ ⟨hb.os, hb.tape, hb.output, hb.size, fun k hk _ => hb.block k hk⟩ (fun r e => by cases e)

theorem yield_bool {e : Ending} {P Q : Prop} (h : (e = .returned (.bool true) ∧ P) ∨ (e = .returned (.bool false) ∧ Q)) : ∃ b, e = .returned (.bool b) ∧ ((b = true ∧ P) ∨ (b = false ∧ Q)) := by
  rcases h with ⟨h1, h2⟩ | ⟨h1, h2⟩
  · exact ⟨true, h1, .inl ⟨rfl, h2⟩⟩
  · exact ⟨false, h1, .inr ⟨rfl, h2⟩⟩

set_option maxRecDepth 100000 in
set_option maxHeartbeats 4000000 in
theorem worst_seq (nn : Nat) (hn : 1 ≤ nn) (r : RigZ) (R : RigR) (B g Gx : Nat) (w : World) (hB : B ≤ w.heap.size) (hR : RigIn w B r R) (hv : rigB r = true) (hL : Lines w g r.feet r.feet.length) (hBG : B ≤ Gx) (hg : g ≠ Gx) (hGw : Gx < w.heap.size) :
    SeqBound Fence.wide nn Try.prog 75 #[gRigV r R g (phZ r)] encW (KeptC Gx) (wpL r (phZ r)) w := by
  intro l J Jx W0 hW0 hJ hJx hY h0
  obtain ⟨hs20, hsb, ⟨h3, h8, hsp, hgr, hcv⟩, hce, hfr, hem, hfu⟩ := rigB_parts hv
  have zW0 := hW0.size
  have hR0 := hR.below (hW0.mono hB)
  have zg := hL.lt
  have hL0 := hL.keep (hW0.block g zg)
  obtain ⟨W, hW⟩ : ∃ W, W = W0.alloc (.cells (gCells r R g (phZ r)).toArray 101) := ⟨_, rfl⟩
  have bW : Below W0.heap.size W0 W := by subst hW; exact (Below.refl _ _).alloc (Nat.le_refl _) _
  have rW : Row W W0.heap.size 101 (gCells r R g (phZ r)) := by subst hW; exact Row.new W0 _ (gCells r R g (phZ r)).toArray
  have jW : J [] W := abides_below hJ h0 bW
  have RW := hR0.below (bW.mono (Nat.le_trans hB zW0))
  have LW := hL0.keep (bW.block g (by omega))
  have sW : W0.heap.size < W.heap.size := rW.lt
  have hphn : phZ r ≤ 60 := by
    unfold phZ
    split
    · omega
    · exact ((pathB_iff _).1 (seatsB_at hsb (i := 0) (by omega)).1).2.1
  unfold gRigV
  refine callsIn_of_wp Try.func75 rfl trivial ?_ rfl
  simp only [Try.ntmps75, List.size_toArray, List.length_cons, List.length_nil, Nat.reduceAdd, Nat.reduceSub, Array.replicate_succ, Array.replicate_zero, List.push_toArray, List.append_toArray, List.nil_append, List.cons_append]
  unfold gCells at hW
  have hq9 := rW.cell (j := 9) (by simp [gCells])
  simp only [gCells, List.getElem?_cons_zero, List.getElem?_cons_succ] at hq9
  rw [hW] at hq9
  gi_wp2
  rw [← hW]
  clear hW hq9
  obtain ⟨Gr, hGr⟩ : ∃ Gr, Gr = W0.heap.size := ⟨_, rfl⟩
  rw [← hGr] at rW sW ⊢
  have zr : Gr ≠ Gx := by omega
  have zGr : w.heap.size ≤ Gr := by omega
  have jAb : AbidesFrom W0.heap.size J := hJ
  clear hGr
  gi_loopw [10] (fun i wr => ∃ p : Nat, p ≤ phZ r ∧ i = .int .i64 p ∧ J (wpL r p) wr ∧ KeptC Gx W wr) (fun i _ => phZ r - (intOf i).toNat)
  case atStart => exact ⟨0, Nat.zero_le _, rfl, jW, KeptC.refl _ _⟩
  case round =>
    obtain ⟨p, hp, rfl, hJ1, hK1⟩ := hrel
    have r1 := hK1.row zr rW
    unfold gCells at r1
    obtain ⟨_, q0, q1, q2, q3, q4, q5, q6, q7, q8, q9⟩ := Row.at_10 r1
    by_cases hlt : p < phZ r
    · obtain ⟨X, hX⟩ : ∃ X, X = wr.alloc (.cells #[.int .i64 (p : Int)] 3) := ⟨_, rfl⟩
      have bX : Below wr.heap.size wr X := by subst hX; exact (Below.refl _ _).alloc (Nat.le_refl _) _
      have rP : Row X wr.heap.size 3 [.int .i64 (p : Int)] := by subst hX; exact Row.new wr _ _
      have hpl : (p : Int) < (phZ r : Int) := by omega
      have zr1 := r1.lt
      gi_wp2
      rw [← hX]
      clear hX
      have kX : KeptC Gx W X := hK1.trans (KeptC.of_below bX)
      have jX : J (wpL r p) X := abides_below hJ hJ1 bX
      obtain ⟨Gp, hGp⟩ : ∃ Gp, Gp = wr.heap.size := ⟨_, rfl⟩
      rw [← hGp] at rP ⊢
      have zp : Gp ≠ Gx := by have := hK1.size; omega
      clear hGp hJ1 hK1 q0 q1 q2 q3 q4 q5 q6 q7 q8 q9 r1 zr1 bX
      gi_loopw [16] (fun i wr => ∃ k : Nat, k ≤ r.feet.length ∧ i = .int .i64 k ∧ J (wpL r p ++ wlL r p k) wr ∧ KeptC Gx W wr ∧ Row wr Gp 3 [.int .i64 (p : Int)]) (fun i _ => r.feet.length - (intOf i).toNat)
      case atStart => exact ⟨0, Nat.zero_le _, rfl, by simpa [wlL] using jX, kX, rP⟩
      case round =>
        obtain ⟨k, hk, rfl, hJ2, hK2, r2⟩ := hrel
        by_cases hlk : k < r.feet.length
        · have LX := hK2.lines hg LW
          have RX := hK2.rig hBG RW
          have rr := hK2.row zr rW
          have zx := hK2.size
          obtain ⟨d0, d1, d2, d3, d4, d5⟩ := LX.cells hlk
          have hkl : (k : Int) < (r.feet.length : Int) := by omega
          have hnil : ¬ r.feet = [] := by intro e; rw [e] at hlk; simp at hlk
          obtain ⟨Y, hY0⟩ : ∃ Y, Y = wr.alloc (.cells (lineAt r.feet k).toArray 125) := ⟨_, rfl⟩
          have bY : Below wr.heap.size wr Y := by subst hY0; exact (Below.refl _ _).alloc (Nat.le_refl _) _
          have rL : Row Y wr.heap.size 125 (lineAt r.feet k) := by subst hY0; exact Row.new wr _ (lineAt r.feet k).toArray
          have zy := bY.size
          have LY := LX.keep (bY.block g (by omega))
          have RY := RX.below (bY.mono (by omega))
          have rY := rr.below bY rr.lt
          have pY := r2.below bY r2.lt
          have jY := abides_below hJ hJ2 bY
          have kY := hK2.trans (KeptC.of_below (g := Gx) bY)
          have eI : IntKind.i64.wrap ((k : Int) + 1) = (k : Int) + 1 := IntWalk.i64_in _ (by omega)
          have HT : Tells Y 88 #[.pointer (some ⟨wr.heap.size, 0, none⟩), .pointer (some ⟨Gr, 0, none⟩), .pointer (some ⟨Gp, 0, none⟩)] r.seats.length (worstZ r p k) := by
            intro i x hi hx
            exact outside_any r R B g p k i wr.heap.size Gr Gp (phZ r) x (by have := hx.size; omega) (RY.below (hx.mono (by omega))) hv hi hlt (rL.below hx rL.lt) (rY.below hx rY.lt) (pY.below hx pY.lt)
          have HM : ∀ X, Below Y.heap.size Y X → Calls Try.prog 71 #[gRigV r R g (phZ r), .int .i64 (p : Int), .int .i64 (k : Int), .func (.func 88) #[] #[.pointer (some ⟨wr.heap.size, 0, none⟩), .pointer (some ⟨Gr, 0, none⟩), .pointer (some ⟨Gp, 0, none⟩)]] X fun e w' => e = .returned (.int .i64 (momZ r (worstZ r p k) p k)) ∧ Below Y.heap.size Y w' := fun X hX =>
            (moment_any r R B g (phZ r) p k X _ _ (worstZ r p k) (by have := hX.size; omega) (RY.below (hX.mono (by omega))) hv (LY.keep (hX.block g (by omega))) hlk hlt (fun a w => rfl) (fun i x hi hx => HT i x hi (below_step hX hx))).mono fun _ _ h => ⟨h.1, below_step hX h.2⟩
          have HM' := Lib.hid HM
          clear HM
          have hHM : Hid (gRigV r R g (phZ r) = gRigV r R g (phZ r)) := rfl
          have HY := Lib.hid (fun (y1 : World) (hy1 : Below Y.heap.size Y y1) => hY _ (momZ r (worstZ r p k) p k, p, k) y1 (abides_below hJ jY hy1) (w_lt hlt hlk))
          unfold lineAt at hY0 rL
          unfold gCells at rY rr
          unfold gRigV at HM'
          obtain ⟨_, q0, q1, q2, q3, q4, q5, q6, q7, q8, q9⟩ := Row.at_10 rY
          have pc : Y.cell? ⟨Gp, 0, none⟩ = some (.int .i64 (p : Int)) := pY.cell (j := 0) (by simp)
          gi_wp2
          rw [← hY0]
          clear hY0 d0 d1 d2 d3 d4 d5
          have hmx : Try.prog.follows .mixedOrders = true := by kernel_rfl
          gi_region_with_o (first
            | (refine ⟨trivial, ?_⟩; gi_at_call 71; refine (callsIn_wide.2 (HM'.out _ ?_)).mono ?_; (first | exact Below.refl _ _ | exact Below.drew (Below.refl _ _) | exact below_drewN (Below.refl _ _) _); rintro e y1 ⟨rfl, hy1⟩; have pc := (hy1.cell (p := ⟨Gp, 0, none⟩) pY.lt).trans pc; obtain ⟨fn, tmps, assign, body, hyr, hRr⟩ := HY.out y1 hy1; unfold encW at hyr; dsimp only at hyr)
            | ((with_reducible refine hRr.mono ?_); rintro e W3 h3; obtain ⟨bb, rfl, hbb⟩ := yield_bool h3; clear h3))
          all_goals
            rcases hbb with ⟨rfl, hJ4, hK4⟩ | ⟨rfl, hJx4⟩
            · gi_wp2
              go_roundw
              case rel => exact ⟨k + 1, by omega, by go_num, by rw [wlL_succ, ← List.append_assoc]; exact hJ4, kY.trans ((KeptC.of_below hy1).trans hK4), hK4.row zp (pY.below hy1 pY.lt)⟩
              case measure => simp [intOf]; omega
            · gi_wp2
              refine bodyPost_ret (results_none rfl _ _ _) rfl ?_
              refine ⟨⟨_, rfl⟩, .inr ⟨_, ?_, hJx4⟩⟩
              have h9 := w_pre (r := r) (n := phZ r) (p := p) (k := k + 1) hlt hlk
              rw [wlL_succ, ← List.append_assoc] at h9
              exact h9
        · obtain rfl : k = r.feet.length := by omega
          rw [← wpL_succ] at hJ2
          gi_wp2
          go_roundw
          case rel => exact ⟨p + 1, by omega, by go_num, hJ2, hK2⟩
          case measure => simp [intOf]; omega
    · obtain rfl : p = phZ r := by omega
      gi_wp2
      go_end0
      exact ⟨⟨_, rfl⟩, .inl hJ1⟩
end Go.Proofs.Ytkmiapfkebdpbaa
