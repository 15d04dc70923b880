/- Contract of the specification's Copy: an equal count in memory of its own. Conditions: the count reads as data. -/
import Derived.Test.YtonbaikdpcmbiaaUa
import Derived.Test.YtonbaikdpcmbiaaUc
import Derived.Deep.RegionHeld3
namespace Go.Proofs.Ytonbaikdpcmbiaa
open Go.RowKit

/-- No cell of the slice's block is frozen. -/
def Froz (w : World) (A : Option Addr) : Prop := ∀ b o, A = some ⟨b, o, none⟩ → ∀ j, w.frozen? ⟨b, j, none⟩ = false
/-- The slice's block lies from N on, below M. -/
def Lies (N M : Nat) (A : Option Addr) : Prop := ∀ b o, A = some ⟨b, o, none⟩ → N ≤ b ∧ b < M
theorem Froz.kept {w w' : World} {M : Nat} {A : Option Addr} {N : Nat} (h : Froz w A) (hl : Lies N M A) (hb : Below M w w') : Froz w' A := fun b o e j => by
  have := hl b o e
  rw [hb.frozen (p := ⟨b, j, none⟩) this.2]; exact h b o e j
theorem Reads.kb {w w' : World} {L : List Nat} {B size n : Nat} {A : Option Addr} {xs : List Value} (h : Reads w B size A n xs) (hk : KeptBut L w w') (hl : ∀ b o, A = some ⟨b, o, none⟩ → b < w.heap.size ∧ b ∉ L) : Reads w' B size A n xs :=
  ⟨h.1, fun hn => by
    obtain ⟨b, o, e, hb, hc⟩ := h.2 hn
    obtain ⟨h1, h2⟩ := hl b o e
    exact ⟨b, o, e, hb, fun j u hu => (World.cell?_of_block (hk.block b h1 h2)).trans (hc j u hu)⟩⟩
theorem Froz.kb {w w' : World} {L : List Nat} {A : Option Addr} (h : Froz w A) (hk : KeptBut L w w') (hl : ∀ b o, A = some ⟨b, o, none⟩ → b < w.heap.size ∧ b ∉ L) : Froz w' A := fun b o e j => by
  obtain ⟨h1, h2⟩ := hl b o e
  exact (World.frozen?_of_block (a := ⟨b, j, none⟩) (hk.block b h1 h2)).trans (h b o e j)
/-- A copy: each slice in a block of its own. -/
structure Own4 (w : World) (N : Nat) (C : Count) (K : CRefs) : Prop where
  inn : CountIn w w.heap.size C K
  f1 : Froz w K.A1
  f2 : Froz w K.A2
  f3 : Froz w K.A3
  f4 : Froz w K.A4
  sep : ∃ N1 N2 N3, N ≤ N1 ∧ N1 ≤ N2 ∧ N2 ≤ N3 ∧ N3 ≤ w.heap.size ∧ Lies N N1 K.A1 ∧ Lies N1 N2 K.A2 ∧ Lies N2 N3 K.A3 ∧ Lies N3 w.heap.size K.A4
def CopyPost (w : World) (C : Count) (e : Ending) (w' : World) : Prop := Below w.heap.size w w' ∧ ∃ K, e = .returned (countV C K) ∧ Own4 w' w.heap.size C K

theorem own_parts {w : World} {base : Nat} {e : TypeId} {size n : Nat} {v : Value} {xs : List Value} (h : w.ownsRow base e size v n xs) : ∃ A c, v = .slice A n c ∧ Reads w w.heap.size size A n xs ∧ Froz w A ∧ Lies base w.heap.size A := by
  rcases h.2 with ⟨rfl, h0⟩ | ⟨g, cap, cur, rfl, hg, hh, _⟩
  · obtain ⟨A, c, hv, hr⟩ := own_reads h
    injection hv with e1 e2 e3
    subst e1; subst e2; subst e3
    exact ⟨none, 0, rfl, hr, (fun b o e => by cases e), (fun b o e => by cases e)⟩
  · obtain ⟨A, c, hv, hr⟩ := own_reads h
    injection hv with e1 e2 e3
    subst e1; subst e3
    have hrow := (Row.of_own h).1
    refine ⟨_, _, rfl, hr, (fun b o e j => ?_), (fun b o e => ?_)⟩
    · injection e with e; injection e with e1 e2; subst e1; exact hrow.frozen j
    · injection e with e; injection e with e1 e2; subst e1; exact ⟨hg, hrow.lt⟩
theorem ints_one (l : List Int) : ∀ u ∈ intCells l, u.oneCell' = true := by
  intro u hu
  obtain ⟨x, _, rfl⟩ := List.mem_map.1 hu; rfl
theorem purses_one (l : List Purse) : ∀ u ∈ purseCells l, u.oneCell' = true := by
  intro u hu
  simp only [purseCells, List.mem_flatMap] at hu
  obtain ⟨d, _, hu⟩ := hu
  simp only [List.mem_cons, List.not_mem_nil, or_false] at hu
  rcases hu with rfl | rfl <;> rfl

set_option maxHeartbeats 4000000 in
set_option maxRecDepth 100000 in
theorem rCopy_any (C : Count) (K : CRefs) (w : World) (B : Nat) (hB : B ≤ w.heap.size) (hC : CountIn w B C K) (h1 : C.stock.length ≤ 1000) (h2 : C.cash.length ≤ 1000) (h3 : C.purses.length ≤ 1000) (h4 : C.boxes.length ≤ 1000) :
    Calls Try.prog 40 #[countV C K] w (CopyPost w C) := by
  obtain ⟨A1, c1, A2, c2, A3, c3, A4, c4⟩ := K
  obtain ⟨W, hW⟩ : ∃ W, W = (w.alloc (.cells #[.slice A1 C.stock.length c1, .slice A2 C.cash.length c2, .slice A3 C.purses.length c3, .slice A4 C.boxes.length c4, .int .i64 C.lost] 35)).alloc (.cells #[.slice none 0 0, .slice none 0 0, .slice none 0 0, .slice none 0 0, .int .i64 0] 35) := ⟨_, rfl⟩
  have sW : W.heap.size = w.heap.size + 2 := by subst hW; simp
  have bW : Below w.heap.size w W := by subst hW; exact ((Below.refl _ _).alloc (Nat.le_refl _) _).alloc (by simp) _
  have rC : Row W w.heap.size 35 [.slice A1 C.stock.length c1, .slice A2 C.cash.length c2, .slice A3 C.purses.length c3, .slice A4 C.boxes.length c4, .int .i64 C.lost] := by subst hW; exact (row_new _ _ _ _ rfl).alloc _
  have rR : Row W (w.heap.size + 1) 35 [.slice none 0 0, .slice none 0 0, .slice none 0 0, .slice none 0 0, .int .i64 0] := by subst hW; exact row_new _ _ _ _ (by simp)
  have CW := hC.keep (w' := W) fun p hp => bW.cell (by omega)
  have y0 : w.heap.size < W.heap.size := by omega
  have y1 : w.heap.size + 1 < W.heap.size := by omega
  have hBW : B ≤ W.heap.size := by omega
  obtain ⟨i0, hi, hz0, hz1, hz2⟩ := info_parts Try.info_int
  obtain ⟨j0, hj, hy0, hy1, hy2⟩ := info_parts Try.info_purse
  have H1 : Hid (∀ x : World, Below W.heap.size W x → Reads x B 1 A1 C.stock.length (intCells C.stock)) := fun x hx => CW.s1.keep fun p hp => hx.cell (by omega)
  have H2 : Hid (∀ x : World, Below W.heap.size W x → Reads x B 1 A2 C.cash.length (intCells C.cash)) := fun x hx => CW.s2.keep fun p hp => hx.cell (by omega)
  have H3 : Hid (∀ x : World, Below W.heap.size W x → Reads x B 2 A3 C.purses.length (purseCells C.purses)) := fun x hx => CW.s3.keep fun p hp => hx.cell (by omega)
  have H4 : Hid (∀ x : World, Below W.heap.size W x → Reads x B 1 A4 C.boxes.length (intCells C.boxes)) := fun x hx => CW.s4.keep fun p hp => hx.cell (by omega)
  have m1 : C.stock.length ≤ maxLen := by unfold maxLen; omega
  have m2 : C.cash.length ≤ maxLen := by unfold maxLen; omega
  have m3 : C.purses.length ≤ maxLen := by unfold maxLen; omega
  have m4 : C.boxes.length ≤ maxLen := by unfold maxLen; omega
  have n1 : C.stock.length * 8 ≤ 140737488355328 := by omega
  have n2 : C.cash.length * 8 ≤ 140737488355328 := by omega
  have n3 : C.purses.length * 16 ≤ 140737488355328 := by omega
  have n4 : C.boxes.length * 8 ≤ 140737488355328 := by omega
  obtain ⟨_, x0, x1, x2, x3, x4⟩ := Row.at_5 rC
  unfold countV
  dsimp only
  go_enter Try.func40, Try.ntmps40
  go_wp2_with fail
  rw [← hW]
  clear hW
  go_region_held3 (fun x => x.cell? ⟨w.heap.size, 0, none⟩ = some (.slice A1 C.stock.length c1) ∧ x.cell? ⟨w.heap.size, 1, none⟩ = some (.slice A2 C.cash.length c2) ∧ x.cell? ⟨w.heap.size, 2, none⟩ = some (.slice A3 C.purses.length c3) ∧ x.cell? ⟨w.heap.size, 3, none⟩ = some (.slice A4 C.boxes.length c4) ∧ x.cell? ⟨w.heap.size, 4, none⟩ = some (.int .i64 C.lost)) (go_keep) (first
    | ((refine step_app_nil _ (by rfl) _ (.tmp 4) _ (by rfl) _ i0 _ 1 8 Try.underlying22 hi hz0 hz1 hz2 rfl (by decide) (by rfl) B A1 C.stock.length c1 (intCells C.stock) (by rfl) (H1.out _ (by (repeat first | exact Below.refl _ _ | assumption | (with_reducible refine below_drewN ?_ _) | (with_reducible refine Below.drew ?_) | (with_reducible refine Below.alloc ?_ ?_ _)) <;> (first | (simp; done) | (simp; omega) | omega))) (ints_one _) m1 n1 ?_; intro v1 X1 own1 hb1; have bx1 := below_step (w := W) (by (repeat first | exact Below.refl _ _ | assumption | (with_reducible refine below_drewN ?_ _) | (with_reducible refine Below.drew ?_) | (with_reducible refine Below.alloc ?_ ?_ _)) <;> (first | (simp; done) | (simp; omega) | omega)) hb1; have s1 := bx1.size; obtain ⟨E1, e1, rfl, hr1, hf1, hl1⟩ := own_parts own1; obtain ⟨_, x0, x1, x2, x3, x4⟩ := Row.at_5 (Row.below rC bx1 y0)))
    | ((refine step_app_nil _ (by rfl) _ (.tmp 7) _ (by rfl) _ i0 _ 1 8 Try.underlying22 hi hz0 hz1 hz2 rfl (by decide) (by rfl) B A2 C.cash.length c2 (intCells C.cash) (by rfl) (H2.out _ (by (repeat first | exact Below.refl _ _ | assumption | (with_reducible refine below_drewN ?_ _) | (with_reducible refine Below.drew ?_) | (with_reducible refine Below.alloc ?_ ?_ _)) <;> (first | (simp; done) | (simp; omega) | omega))) (ints_one _) m2 n2 ?_; intro v2 X2 own2 hb2; have bx2 := below_step (w := W) (by (repeat first | exact Below.refl _ _ | assumption | (with_reducible refine below_drewN ?_ _) | (with_reducible refine Below.drew ?_) | (with_reducible refine Below.alloc ?_ ?_ _)) <;> (first | (simp; done) | (simp; omega) | omega)) hb2; have s2 := bx2.size; obtain ⟨E2, e2, rfl, hr2, hf2, hl2⟩ := own_parts own2; obtain ⟨_, x0, x1, x2, x3, x4⟩ := Row.at_5 (Row.below rC bx2 y0)))
    | ((refine step_app_nil _ (by rfl) _ (.tmp 10) _ (by rfl) _ j0 _ 2 16 Try.underlying33 hj hy0 hy1 hy2 rfl (by decide) (by rfl) B A3 C.purses.length c3 (purseCells C.purses) (by rfl) (H3.out _ (by (repeat first | exact Below.refl _ _ | assumption | (with_reducible refine below_drewN ?_ _) | (with_reducible refine Below.drew ?_) | (with_reducible refine Below.alloc ?_ ?_ _)) <;> (first | (simp; done) | (simp; omega) | omega))) (purses_one _) m3 n3 ?_; intro v3 X3 own3 hb3; have bx3 := below_step (w := W) (by (repeat first | exact Below.refl _ _ | assumption | (with_reducible refine below_drewN ?_ _) | (with_reducible refine Below.drew ?_) | (with_reducible refine Below.alloc ?_ ?_ _)) <;> (first | (simp; done) | (simp; omega) | omega)) hb3; have s3 := bx3.size; obtain ⟨E3, e3, rfl, hr3, hf3, hl3⟩ := own_parts own3; obtain ⟨_, x0, x1, x2, x3, x4⟩ := Row.at_5 (Row.below rC bx3 y0)))
    | ((refine step_app_nil _ (by rfl) _ (.tmp 13) _ (by rfl) _ i0 _ 1 8 Try.underlying22 hi hz0 hz1 hz2 rfl (by decide) (by rfl) B A4 C.boxes.length c4 (intCells C.boxes) (by rfl) (H4.out _ (by (repeat first | exact Below.refl _ _ | assumption | (with_reducible refine below_drewN ?_ _) | (with_reducible refine Below.drew ?_) | (with_reducible refine Below.alloc ?_ ?_ _)) <;> (first | (simp; done) | (simp; omega) | omega))) (ints_one _) m4 n4 ?_; intro v4 X4 own4 hb4; have bx4 := below_step (w := W) (by (repeat first | exact Below.refl _ _ | assumption | (with_reducible refine below_drewN ?_ _) | (with_reducible refine Below.drew ?_) | (with_reducible refine Below.alloc ?_ ?_ _)) <;> (first | (simp; done) | (simp; omega) | omega)) hb4; have s4 := bx4.size; obtain ⟨E4, e4, rfl, hr4, hf4, hl4⟩ := own_parts own4; obtain ⟨_, x0, x1, x2, x3, x4⟩ := Row.at_5 (Row.below rC bx4 y0); obtain ⟨fR, k0, k1, k2, k3, k4⟩ := Row.at_5 (Row.below rR bx4 y1))))
  all_goals
    have k12 : KeptBut [w.heap.size + 1] X1 X2 := by first | exact (KeptBut.refl _ _).below hb2 | exact (KeptBut.refl _ _).drew.below hb2 | exact ((KeptBut.refl _ _).drewN _).below hb2
    have k23 : KeptBut [w.heap.size + 1] X2 X3 := by first | exact (KeptBut.refl _ _).below hb3 | exact (KeptBut.refl _ _).drew.below hb3 | exact ((KeptBut.refl _ _).drewN _).below hb3
    have k34 : KeptBut [w.heap.size + 1] X3 X4 := by first | exact (KeptBut.refl _ _).below hb4 | exact (KeptBut.refl _ _).drew.below hb4 | exact ((KeptBut.refl _ _).drewN _).below hb4
    have l1 : Lies W.heap.size X1.heap.size E1 := hl1
    have l2 : Lies X1.heap.size X2.heap.size E2 := hl2
    have l3 : Lies X2.heap.size X3.heap.size E3 := hl3
    have l4 : Lies X3.heap.size X4.heap.size E4 := hl4
    have t2 := k12.size
    have t3 := k23.size
    have t4 := k34.size
    go_wp2_with fail
    refine bodyPost_ret (v := .agg #[.slice E1 C.stock.length e1, .slice E2 C.cash.length e2, .slice E3 C.purses.length e3, .slice E4 C.boxes.length e4, .int .i64 C.lost]) (by simp [results, Try.results40, go_sem, *]) rfl ?_
    have kz : ∀ u0 u1 u2 u3 u4, KeptBut [w.heap.size + 1] X4 (((((X4.setCell ⟨w.heap.size + 1, 0, none⟩ u0).setCell ⟨w.heap.size + 1, 1, none⟩ u1).setCell ⟨w.heap.size + 1, 2, none⟩ u2).setCell ⟨w.heap.size + 1, 3, none⟩ u3).setCell ⟨w.heap.size + 1, 4, none⟩ u4) := fun u0 u1 u2 u3 u4 => (((((KeptBut.refl _ X4).set (by simp) _).set (by simp) _).set (by simp) _).set (by simp) _).set (by simp) _
    have bz : ∀ V, KeptBut [w.heap.size + 1] X4 V → V.heap.size = X4.heap.size → CopyPost w C (.returned (.agg #[.slice E1 C.stock.length e1, .slice E2 C.cash.length e2, .slice E3 C.purses.length e3, .slice E4 C.boxes.length e4, .int .i64 C.lost])) V := fun V hV hs => by
      have q1 : ∀ b o, E1 = some ⟨b, o, none⟩ → b < X1.heap.size ∧ b ∉ [w.heap.size + 1] := fun b o e => by have := l1 b o e; simp; omega
      have q2 : ∀ b o, E2 = some ⟨b, o, none⟩ → b < X2.heap.size ∧ b ∉ [w.heap.size + 1] := fun b o e => by have := l2 b o e; simp; omega
      have q3 : ∀ b o, E3 = some ⟨b, o, none⟩ → b < X3.heap.size ∧ b ∉ [w.heap.size + 1] := fun b o e => by have := l3 b o e; simp; omega
      have q4 : ∀ b o, E4 = some ⟨b, o, none⟩ → b < X4.heap.size ∧ b ∉ [w.heap.size + 1] := fun b o e => by have := l4 b o e; simp; omega
      have v3 := k34.trans hV
      have v2 := k23.trans v3
      have v1 := k12.trans v2
      refine ⟨(bW.trans (bx4.mono (by omega))).trans (hV.to_below (by omega) (by simp)), ⟨E1, e1, E2, e2, E3, e3, E4, e4⟩, rfl, ?_⟩
      refine ⟨⟨(hr1.kb v1 q1).more (by omega), (hr2.kb v2 q2).more (by omega), (hr3.kb v3 q3).more (by omega), (hr4.kb hV q4).more (by omega), m1, m2, m3, m4⟩, hf1.kb v1 q1, hf2.kb v2 q2, hf3.kb v3 q3, hf4.kb hV q4, X1.heap.size, X2.heap.size, X3.heap.size, by omega, by omega, by omega, by omega, fun b o e => by have := l1 b o e; omega, l2, l3, fun b o e => by have := l4 b o e; omega⟩
    exact bz _ (kz _ _ _ _ _) (by simp [World.setCell])
end Go.Proofs.Ytonbaikdpcmbiaa
