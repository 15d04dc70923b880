/- Words for the specification's play of deals: a count that stays where its own block is written; one step of a list. -/
import Derived.Test.YtonbaikdpcmbiaaVa
import Derived.Deep.RegionHeld3
import Derived.Test.YtonbaikdpcmbiaaVs
import Derived.Test.YtonbaikdpcmbiaaVb1
import Derived.Test.YtonbaikdpcmbiaaVt
import Derived.Test.YtonbaikdpcmbiaaVb4
import Derived.Test.YtonbaikdpcmbiaaVb6
import Derived.Test.YtonbaikdpcmbiaaUb
import Derived.Test.YtonbaikdpcmbiaaFh
import Derived.Deep.DeepCutAuto
/- Contract of the specification's Begin. Conditions: the fair reads as data and is valid. -/
namespace Go.Proofs.Ytonbaikdpcmbiaa
open Go.RowKit

/-- What the specification's Begin leaves in its result's block. -/
def RB (w wx : World) (F : Fair) : Prop := ∃ K, Row wx (w.heap.size + 1) 35 (countL (beginS F) K) ∧ Below w.heap.size w wx ∧ CountIn wx wx.heap.size (beginS F) K ∧ CFresh w.heap.size K
def RBRet (w : World) (F : Fair) (e : Ending) (w' : World) : Prop := Below w.heap.size w w' ∧ ∃ K, e = .returned (countV (beginS F) K) ∧ CountIn w' w'.heap.size (beginS F) K ∧ CFresh w.heap.size K
theorem RB_intro {w wx : World} {F : Fair} {K : CRefs} (h : Row wx (w.heap.size + 1) 35 (countL (beginS F) K)) (hb : Below w.heap.size w wx) (hc : CountIn wx wx.heap.size (beginS F) K) (hf : CFresh w.heap.size K) : RB w wx F := ⟨K, h, hb, hc, hf⟩
section
variable {x : World} {b : Nat} {v0 v1 v2 v3 v4 : Value}
theorem setr5 {t : TypeId} {u0 u1 u2 u3 u4 : Value} (h : Row x b t [u0, u1, u2, u3, u4]) : Row (((((x.setCell ⟨b, 0, none⟩ v0).setCell ⟨b, 1, none⟩ v1).setCell ⟨b, 2, none⟩ v2).setCell ⟨b, 3, none⟩ v3).setCell ⟨b, 4, none⟩ v4) b t [v0, v1, v2, v3, v4] :=
  ((((h.set 0 v0).set 1 v1).set 2 v2).set 3 v3).set 4 v4
theorem belr5 {B : Nat} {a : World} (h : Below B a x) (hb : B ≤ b) : Below B a (((((x.setCell ⟨b, 0, none⟩ v0).setCell ⟨b, 1, none⟩ v1).setCell ⟨b, 2, none⟩ v2).setCell ⟨b, 3, none⟩ v3).setCell ⟨b, 4, none⟩ v4) :=
  ((((h.setCell hb _).setCell hb _).setCell hb _).setCell hb _).setCell hb _
theorem farr5 {g : Nat} {t : TypeId} {xs : List Value} (h : Row x g t xs) (hg : g ≠ b) : Row (((((x.setCell ⟨b, 0, none⟩ v0).setCell ⟨b, 1, none⟩ v1).setCell ⟨b, 2, none⟩ v2).setCell ⟨b, 3, none⟩ v3).setCell ⟨b, 4, none⟩ v4) g t xs :=
  ((((h.far hg _).far hg _).far hg _).far hg _).far hg _
theorem kepr5 {a : World} (h : KeptBut [b] a x) : KeptBut [b] a (((((x.setCell ⟨b, 0, none⟩ v0).setCell ⟨b, 1, none⟩ v1).setCell ⟨b, 2, none⟩ v2).setCell ⟨b, 3, none⟩ v3).setCell ⟨b, 4, none⟩ v4) :=
  ((((h.set (by simp) _).set (by simp) _).set (by simp) _).set (by simp) _).set (by simp) _
end

set_option maxHeartbeats 4000000 in
set_option maxRecDepth 100000 in
theorem rBegin_any (F : Fair) (R : Refs) (w : World) (B : Nat) (hB : B ≤ w.heap.size) (hF : FairIn w B F R) (hv : validB F = true) :
    Calls Try.prog 47 #[fairV F R] w (RBRet w F) := by
  have hb := bounds_of hv
  obtain ⟨purses, boxes, stock, cash, bundles, refund, band, hours⟩ := F
  obtain ⟨A1, c1, A2, c2, A3, c3⟩ := R
  obtain ⟨i0, hi, hz0, hz1, hz2⟩ := info_parts Try.info_int
  obtain ⟨j0, hj, hy0, hy1, hy2⟩ := info_parts Try.info_purse
  obtain ⟨np, rfl⟩ := Int.eq_ofNat_of_zero_le hb.p1
  obtain ⟨nx, rfl⟩ := Int.eq_ofNat_of_zero_le hb.x1
  have hp2 := hb.p2
  have hx2 := hb.x2
  have l2 := hb.s2
  have l3 := hb.c
  dsimp only at hp2 hx2 l2 l3
  have hm1 := fun W => run_make_rowN (P := Try.prog) 33 62 j0 _ Try.underlying33 hj hy0 .i64 .i64 np np (Nat.le_refl _) (by rw [hy2]; omega) (by omega) W
  have hm2 := fun W => run_make_rowN (P := Try.prog) 22 3 i0 _ Try.underlying22 hi hz0 .i64 .i64 nx nx (Nat.le_refl _) (by rw [hz2]; omega) (by omega) W
  rw [hy1] at hm1
  rw [hz1] at hm2
  obtain ⟨W, hW⟩ : ∃ W, W = (w.alloc (.cells (fairCells ⟨np, nx, stock, cash, bundles, refund, band, hours⟩ ⟨A1, c1, A2, c2, A3, c3⟩) 25)).alloc (.cells #[.slice none 0 0, .slice none 0 0, .slice none 0 0, .slice none 0 0, .int .i64 0] 35) := ⟨_, rfl⟩
  have sW : W.heap.size = w.heap.size + 2 := by subst hW; simp
  have bW : Below w.heap.size w W := by subst hW; exact ((Below.refl _ _).alloc (Nat.le_refl _) _).alloc (by simp) _
  have rF : Row W w.heap.size 25 (fairCells ⟨np, nx, stock, cash, bundles, refund, band, hours⟩ ⟨A1, c1, A2, c2, A3, c3⟩).toList := by subst hW; exact (row_new _ _ _ _ rfl).alloc _
  have rR : Row W (w.heap.size + 1) 35 #[.slice none 0 0, .slice none 0 0, .slice none 0 0, .slice none 0 0, .int .i64 0].toList := by subst hW; exact row_new _ _ _ _ (by simp)
  replace rF : Row W w.heap.size 25 [.int .i64 np, .int .i64 nx, .slice A1 stock.length c1, .slice A2 cash.length c2, .slice A3 bundles.length c3, .int .i64 refund, .int .i64 band, .int .i64 hours] := rF
  replace rR : Row W (w.heap.size + 1) 35 [.slice none 0 0, .slice none 0 0, .slice none 0 0, .slice none 0 0, .int .i64 0] := rR
  have FW := hF.below (bW.mono hB)
  have y0 : w.heap.size < W.heap.size := by omega
  have y1 : w.heap.size + 1 < W.heap.size := by omega
  have hBW : B ≤ W.heap.size := by omega
  have H1 : Hid (∀ x : World, Below W.heap.size W x → Reads x B 1 A1 stock.length (intCells stock)) := fun x hx => FW.s1.keep fun p hp => hx.cell (by omega)
  have H2 : Hid (∀ x : World, Below W.heap.size W x → Reads x B 1 A2 cash.length (intCells cash)) := fun x hx => FW.s2.keep fun p hp => hx.cell (by omega)
  have m1 : stock.length ≤ maxLen := by unfold maxLen; omega
  have m2 : cash.length ≤ maxLen := by unfold maxLen; omega
  have n1 : stock.length * 8 ≤ 140737488355328 := by omega
  have n2 : cash.length * 8 ≤ 140737488355328 := by omega
  clear l3 FW hv hF
  obtain ⟨_, x0, x1, x2, x3, x4, x5, x6, x7⟩ := Row.cells8 rF
  unfold fairV
  dsimp only at x0 x1 x2 x3 x4 x5 x6 x7 ⊢
  go_enter Try.func47, Try.ntmps47
  go_wp2_with fail
  rw [← hW]
  clear hW
  go_cut [2] (fun s2 wx => s2 = .pointer (some ⟨w.heap.size + 1, 0, none⟩) ∧ RB w wx ⟨np, nx, stock, cash, bundles, refund, band, hours⟩)
  case rest =>
    obtain ⟨rfl, ⟨E1, e1, E2, e2, E3, e3, E4, e4⟩, hbx, hbel, hC, hf⟩ := hcut
    obtain ⟨_, r0, r1, r2, r3, r4⟩ := Row.at_5 hbx
    clear hbx
    simp only [beginS] at r0 r1 r2 r3 r4
    go_wp2_with fail
    refine bodyPost_ret (v := .agg #[.slice E1 stock.length e1, .slice E2 cash.length e2, .slice E3 (beginS ⟨np, nx, stock, cash, bundles, refund, band, hours⟩).purses.length e3, .slice E4 (beginS ⟨np, nx, stock, cash, bundles, refund, band, hours⟩).boxes.length e4, .int .i64 0]) (by simp [beginS, results, Try.results47, go_sem, *]) rfl ?_
    exact ⟨hbel, ⟨E1, e1, E2, e2, E3, e3, E4, e4⟩, rfl, hC, hf⟩
  go_region_held3 (fun x => x.cell? ⟨w.heap.size, 0, none⟩ = some (.int .i64 np) ∧ x.cell? ⟨w.heap.size, 1, none⟩ = some (.int .i64 nx) ∧ x.cell? ⟨w.heap.size, 2, none⟩ = some (.slice A1 stock.length c1) ∧ x.cell? ⟨w.heap.size, 3, none⟩ = some (.slice A2 cash.length c2)) (first | go_keep | (refine ⟨?_, ?_, ?_, ?_⟩ <;> ((repeat rw [World.cell?_alloc_lt _ _ _ (by simp; omega)]); simp only [cell_far1]; (repeat rw [World.cell?_alloc_lt _ _ _ (by simp; omega)]); assumption))) (first
    | ((refine step_app_nil _ (by rfl) _ (.tmp 4) _ (by rfl) _ i0 _ 1 8 Try.underlying22 hi hz0 hz1 hz2 rfl (by decide) (by rfl) B A1 stock.length c1 (intCells stock) (by rfl) (H1.out _ (by (repeat first | exact Below.refl _ _ | assumption | (with_reducible refine below_drewN ?_ _) | (with_reducible refine Below.drew ?_) | (with_reducible refine Below.alloc ?_ ?_ _)) <;> (first | (simp; done) | (simp; omega) | omega))) (ints_one _) m1 n1 ?_; intro v1 X1 own1 hb1; have bx1 := below_step (w := W) (by (repeat first | exact Below.refl _ _ | assumption | (with_reducible refine below_drewN ?_ _) | (with_reducible refine Below.drew ?_) | (with_reducible refine Below.alloc ?_ ?_ _)) <;> (first | (simp; done) | (simp; omega) | omega)) hb1; have s1 := bx1.size; have sy1 := hb1.size; (try simp at sy1); have hi1 := Nat.lt_of_lt_of_le y0 s1; have hk1 := Nat.lt_of_lt_of_le y1 s1; obtain ⟨E1, e1, rfl, hr1, hf1, hl1⟩ := own_parts own1; have rF1 := Row.below rF bx1 y0; obtain ⟨_, x0, x1, x2, x3, x4, x5, x6, x7⟩ := Row.cells8 rF1; have rR1 := Row.below rR bx1 y1; obtain ⟨fR, k0, k1, k2, k3, k4⟩ := Row.at_5 rR1))
    | ((refine step_app_nil _ (by rfl) _ (.tmp 7) _ (by rfl) _ i0 _ 1 8 Try.underlying22 hi hz0 hz1 hz2 rfl (by decide) (by rfl) B A2 cash.length c2 (intCells cash) (by rfl) (H2.out _ (by (repeat first | exact Below.refl _ _ | assumption | (with_reducible refine below_drewN ?_ _) | (with_reducible refine Below.drew ?_) | (with_reducible refine Below.alloc ?_ ?_ _)) <;> (first | (simp; done) | (simp; omega) | omega))) (ints_one _) m2 n2 ?_; intro v2 X2 own2 hb2; have bx2 := below_step (w := W) (by (repeat first | exact Below.refl _ _ | assumption | (with_reducible refine below_drewN ?_ _) | (with_reducible refine Below.drew ?_) | (with_reducible refine Below.alloc ?_ ?_ _)) <;> (first | (simp; done) | (simp; omega) | omega)) hb2; have s2 := bx2.size; have sy2 := hb2.size; (try simp at sy2); have hi2 := Nat.lt_of_lt_of_le y0 s2; have hk2 := Nat.lt_of_lt_of_le y1 s2; obtain ⟨E2, e2, rfl, hr2, hf2, hl2⟩ := own_parts own2; have rF2 := Row.below rF bx2 y0; obtain ⟨_, x0, x1, x2, x3, x4, x5, x6, x7⟩ := Row.cells8 rF2; have rR2 := Row.below rR bx2 y1; obtain ⟨fR, k0, k1, k2, k3, k4⟩ := Row.at_5 rR2)))
  all_goals
    go_wp2_with fail
    go_meet
    refine ⟨rfl, ?_⟩
    have k12 : KeptBut [w.heap.size + 1] X1 X2 := by repeat (first | (with_reducible exact KeptBut.refl _ _) | (with_reducible refine KeptBut.below ?_ hb2) | (with_reducible refine KeptBut.alloc ?_ _) | (with_reducible refine KeptBut.drew ?_) | (with_reducible refine KeptBut.drewN ?_ _))
    have q1 : ∀ b o, E1 = some ⟨b, o, none⟩ → b < X1.heap.size ∧ b ∉ [w.heap.size + 1] := fun b o e => by have := hl1 b o e; simp at this ⊢; omega
    have q2 : ∀ b o, E2 = some ⟨b, o, none⟩ → b < X2.heap.size ∧ b ∉ [w.heap.size + 1] := fun b o e => by have := hl2 b o e; simp at this ⊢; omega
    have t2 := k12.size
    apply RB_intro (K := ⟨E1, e1, E2, e2, some ⟨_, 0, none⟩, np, some ⟨_, 0, none⟩, nx⟩)
    · simp only [countL, beginS, List.length_replicate, Int.toNat_natCast]
      (repeat (with_reducible refine Row.alloc ?_ _))
      first | (with_reducible exact setr5 rR2) | (with_reducible exact setr5 (Row.alloc rR2 _)) | (with_reducible exact setr5 (Row.alloc (Row.alloc rR2 _) _)) | (trace_state; fail)
    · (repeat (with_reducible refine Below.alloc ?_ (by simp; omega) _)); with_reducible exact belr5 (below_step bW bx2) (by omega)
    · refine ⟨?_, ?_, ?_, ?_, m1, m2, by simp [beginS, maxLen]; omega, by simp [beginS, maxLen]; omega⟩
      · refine Reads.more (B := X1.heap.size) (Reads.kb hr1 (by (repeat (with_reducible refine KeptBut.alloc ?_ _)); with_reducible exact kepr5 k12) q1) (by simp; omega)
      · refine Reads.more (B := X2.heap.size) (Reads.kb hr2 (by (repeat (with_reducible refine KeptBut.alloc ?_ _)); with_reducible exact kepr5 (KeptBut.refl _ _)) q2) (by simp; try omega)
      · refine (fun (h : Row _ _ 62 (purseCells (beginS ⟨np, nx, stock, cash, bundles, refund, band, hours⟩).purses)) => Row.reads h (by rw [purseCells_length]) h.lt) ?_
        simp only [beginS, Int.toNat_natCast]
        (repeat (first | (with_reducible refine new_purse _ _ _ (by first | (simp; done) | (simp; omega) | omega)) | (with_reducible refine new_ints _ _ _ (by first | (simp; done) | (simp; omega) | omega)) | (with_reducible refine Row.alloc ?_ _) | (with_reducible refine farr5 ?_ (by omega)) | (with_reducible refine Row.drew ?_) | (with_reducible refine Row.drewN ?_ _) | (with_reducible refine Row.below ?_ hb2 (by first | omega | (simp; done) | (simp; omega))) | (with_reducible refine Row.below ?_ hb1 (by first | omega | (simp; done) | (simp; omega)))))
      · refine (fun (h : Row _ _ 3 (intCells (beginS ⟨np, nx, stock, cash, bundles, refund, band, hours⟩).boxes)) => Row.reads h (by rw [intCells_length]; simp) h.lt) ?_
        simp only [beginS, Int.toNat_natCast]
        (repeat (first | (with_reducible refine new_purse _ _ _ (by first | (simp; done) | (simp; omega) | omega)) | (with_reducible refine new_ints _ _ _ (by first | (simp; done) | (simp; omega) | omega)) | (with_reducible refine Row.alloc ?_ _) | (with_reducible refine farr5 ?_ (by omega)) | (with_reducible refine Row.drew ?_) | (with_reducible refine Row.drewN ?_ _) | (with_reducible refine Row.below ?_ hb2 (by first | omega | (simp; done) | (simp; omega))) | (with_reducible refine Row.below ?_ hb1 (by first | omega | (simp; done) | (simp; omega)))))
    · intro b o e
      rcases e with e | e | e | e
      · have := hl1 b o e; (try simp at this); omega
      · have := hl2 b o e; (try simp at this); omega
      · simp at e; omega
      · simp at e; omega
end Go.Proofs.Ytonbaikdpcmbiaa
/- Contracts of the specification's Step (all kinds) and CheckDeals. Conditions: the arguments read as data. -/
namespace Go.Proofs.Ytonbaikdpcmbiaa
open Go.RowKit

theorem rStep_any (F : Fair) (R : Refs) (C : Count) (K : CRefs) (d : Deal) (B : Nat) (w : World) (hB : B ≤ w.heap.size) (hF : FairIn w B F R) (hC : CountIn w B C K) (hf : Fit F C) :
    Calls Try.prog 48 #[fairV F R, countV C K, dealV d] w (RPost w C K (stepS F C d)) := by
  obtain ⟨at_, kind, a, b, n⟩ := d
  by_cases h1 : kind = 1
  · subst h1; exact rstep1_any F R C K at_ a b n B w hB hF hC hf
  by_cases h2 : kind = 2
  · subst h2; exact rstep2_any F R C K at_ a b n B w hB hF hC hf
  by_cases h3 : kind = 3
  · subst h3; exact rstep3_any F R C K at_ a b n B w hB hF hC hf
  by_cases h4 : kind = 4
  · subst h4; exact rstep4_any F R C K at_ a b n B w hB hF hC hf
  by_cases h5 : kind = 5
  · subst h5; exact rstep5_any F R C K at_ a b n B w hB hF hC hf
  by_cases h6 : kind = 6
  · subst h6; exact rstep6_any F R C K at_ a b n B w hB hF hC hf
  by_cases h7 : kind = 7
  · subst h7; exact rstep7_any F R C K at_ a b n B w hB hF hC hf
  exact rstep0_any F R C K at_ kind a b n (by omega) B w hB hF hC hf
end Go.Proofs.Ytonbaikdpcmbiaa
namespace Go.Proofs.Ytonbaikdpcmbiaa
open Go.RowKit

/-- The slices of the count are not in block g. -/
def Off (g : Nat) (C : Count) (K : CRefs) : Prop := ∀ b o, (0 < C.stock.length ∧ K.A1 = some ⟨b, o, none⟩) ∨ (0 < C.cash.length ∧ K.A2 = some ⟨b, o, none⟩) ∨ (0 < C.purses.length ∧ K.A3 = some ⟨b, o, none⟩) ∨ (0 < C.boxes.length ∧ K.A4 = some ⟨b, o, none⟩) → g ≠ b
theorem reads_lt {w : World} {B size n b o : Nat} {A : Option Addr} {xs : List Value} (h : Reads w B size A n xs) (hn : 0 < n) (e : A = some ⟨b, o, none⟩) : b < B := by
  obtain ⟨b', o', e', hb, _⟩ := h.2 hn
  rw [e] at e'
  injection e' with e'
  injection e' with e1 _ _
  subst e1; exact hb
theorem off_lt {w : World} {B g : Nat} {C : Count} {K : CRefs} (h : CountIn w B C K) (hg : B ≤ g) : Off g C K := fun b o e => by
  rcases e with ⟨n, e⟩ | ⟨n, e⟩ | ⟨n, e⟩ | ⟨n, e⟩
  · have := reads_lt h.s1 n e; omega
  · have := reads_lt h.s2 n e; omega
  · have := reads_lt h.s3 n e; omega
  · have := reads_lt h.s4 n e; omega
theorem off_fresh {N g : Nat} {C : Count} {K : CRefs} (h : CFresh N K) (hg : g < N) : Off g C K := fun b o e => by
  have := h b o (by rcases e with e | e | e | e <;> simp [e.2])
  omega
theorem Reads.off {w : World} {B size n : Nat} {A : Option Addr} {xs : List Value} {p : Addr} (h : Reads w B size A n xs) (hp : ∀ b o, 0 < n → A = some ⟨b, o, none⟩ → p.block ≠ b) (u : Value) : Reads (w.setCell p u) B size A n xs :=
  ⟨h.1, fun hn => by
    obtain ⟨b, o, e, hb, hc⟩ := h.2 hn
    exact ⟨b, o, e, hb, fun j v hv => (World.cell?_setCell_other _ _ _ _ (fun e2 => hp b o hn e (by rw [e2]))).trans (hc j v hv)⟩⟩
theorem CountIn.off {w : World} {B : Nat} {C : Count} {K : CRefs} {p : Addr} (h : CountIn w B C K) (ho : Off p.block C K) (u : Value) : CountIn (w.setCell p u) B C K :=
  ⟨h.s1.off (fun b o n e => ho b o (.inl ⟨n, e⟩)) u, h.s2.off (fun b o n e => ho b o (.inr (.inl ⟨n, e⟩))) u, h.s3.off (fun b o n e => ho b o (.inr (.inr (.inl ⟨n, e⟩)))) u, h.s4.off (fun b o n e => ho b o (.inr (.inr (.inr ⟨n, e⟩)))) u, h.l1, h.l2, h.l3, h.l4⟩
section
variable {x : World} {g : Nat} {C : Count} {K : CRefs} {v0 v1 v2 v3 v4 : Value}
theorem cofr5 (h : CountIn x x.heap.size C K) (ho : Off g C K) : CountIn (((((x.setCell ⟨g, 0, none⟩ v0).setCell ⟨g, 1, none⟩ v1).setCell ⟨g, 2, none⟩ v2).setCell ⟨g, 3, none⟩ v3).setCell ⟨g, 4, none⟩ v4) (((((x.setCell ⟨g, 0, none⟩ v0).setCell ⟨g, 1, none⟩ v1).setCell ⟨g, 2, none⟩ v2).setCell ⟨g, 3, none⟩ v3).setCell ⟨g, 4, none⟩ v4).heap.size C K :=
  (((((h.off (p := ⟨g, 0, none⟩) ho v0).off (p := ⟨g, 1, none⟩) ho v1).off (p := ⟨g, 2, none⟩) ho v2).off (p := ⟨g, 3, none⟩) ho v3).off (p := ⟨g, 4, none⟩) ho v4).more (by simp [World.setCell])
theorem countAl (h : CountIn x x.heap.size C K) (o : Obj) : CountIn (x.alloc o) (x.alloc o).heap.size C K := (h.keep fun p hp => World.cell?_alloc_lt x _ p hp).more (by simp)
theorem rowr5 {t : TypeId} : Row (x.alloc (.cells #[v0, v1, v2, v3, v4] t)) x.heap.size t [v0, v1, v2, v3, v4] := row_new _ _ _ _ rfl
end
theorem al_lt (w : World) (o : Obj) : w.heap.size < (w.alloc o).heap.size := by simp
theorem al_lt' (w : World) (o : Obj) : w.heap.size < (w.alloc o).drew.heap.size := al_lt w o
abbrev zeroC5 : Array Value := #[.slice none 0 0, .slice none 0 0, .slice none 0 0, .slice none 0 0, .int .i64 0]
/-- What the count is behind a step that may be wrong. -/
def nextC (C : Count) (r : Option Count) : Count := r.getD C
/-- What the step's region has left. -/
def SMid (V : World) (C : Count) (r : Option Count) (s10 s11 : Value) (wx : World) : Prop :=
  ∃ g K', s10 = .pointer (some ⟨g, 0, none⟩) ∧ s11 = .bool r.isSome ∧ V.heap.size ≤ g ∧ Below V.heap.size V wx ∧ Row wx g 35 (countL (nextC C r) K') ∧ (r.isSome = true → CountIn wx wx.heap.size (nextC C r) K' ∧ CFresh V.heap.size K')
theorem SMid_intro {V wx : World} {C : Count} {r : Option Count} {s10 s11 : Value} (g : Nat) (K' : CRefs) (h1 : s10 = .pointer (some ⟨g, 0, none⟩)) (h2 : s11 = .bool r.isSome) (h3 : V.heap.size ≤ g) (h4 : Below V.heap.size V wx) (h5 : Row wx g 35 (countL (nextC C r) K')) (h6 : r.isSome = true → CountIn wx wx.heap.size (nextC C r) K' ∧ CFresh V.heap.size K') : SMid V C r s10 s11 wx := ⟨g, K', h1, h2, h3, h4, h5, h6⟩
theorem RPost.no_of {w w' : World} {C : Count} {K : CRefs} {e : Ending} (h : RPost w C K none e w') : e = .returned (.tuple #[countV C K, .bool false]) ∧ Below w.heap.size w w' := by
  rcases h with ⟨hb, ⟨_, he⟩ | ⟨C', K', hr, _⟩⟩
  · exact ⟨he, hb⟩
  · cases hr
theorem RPost.yes_of {w w' : World} {C C' : Count} {K : CRefs} {e : Ending} (h : RPost w C K (some C') e w') : ∃ K', e = .returned (.tuple #[countV C' K', .bool true]) ∧ CountIn w' w'.heap.size C' K' ∧ CFresh w.heap.size K' ∧ Below w.heap.size w w' := by
  rcases h with ⟨hb, ⟨hr, _⟩ | ⟨C2, K', hr, he, hc, hf⟩⟩
  · cases hr
  · injection hr with hr
    subst hr
    exact ⟨K', he, hc, hf, hb⟩
theorem Bounds.fit {F : Fair} {l : List Deal} {k : Nat} {C : Count} {t : Int} (hv : validB F = true) (hl : l.length ≤ 200) (h : goS F l k = some (C, t)) : Fit F C := by
  obtain ⟨hi, hT⟩ := go_inv hv hl h
  exact hi.fit (bounds_of hv) hT
end Go.Proofs.Ytonbaikdpcmbiaa
