/- TokensPlays: Check, CheckDeals, Play and Until return what the specification returns. No conditions. -/
import Derived.Test.YtfcalfccogbgnaaVi
import Derived.Test.YtfcalfccogbgnaaRc
import Derived.Deep.DeepCutAuto
import Derived.Test.YtfcalfccogbgnaaFrame
/- The walk of TokensPlays. Conditions: the arguments read as data; the deals' slice is no longer than its capacity. -/
namespace Go.Proofs.Ytfcalfccogbgnaa
open Go.RowKit

set_option maxHeartbeats 4000000 in
set_option maxRecDepth 100000 in
theorem plays_walk (F : Fair) (R : Refs) (l : List Deal) (at_ : Int) (A : Option Addr) (c B : Nat) (w : World) (hB : B ≤ w.heap.size) (hF : FairIn w B F R) (hl : Reads w B 5 A l.length (dealCells l)) (hn : l.length ≤ maxLen) (hc : l.length ≤ c) (hcm : c ≤ maxLen) :
    Calls Try.prog 3 #[fairV F R, .slice A l.length c, .int .i64 at_] w (WPost w) := by
  obtain ⟨S1, k1, S2, k2, S3, k3⟩ := R
  obtain ⟨W, hW⟩ : ∃ W, W = w.alloc (.cells (fairCells F ⟨S1, k1, S2, k2, S3, k3⟩) 25) := ⟨_, rfl⟩
  have sW : W.heap.size = w.heap.size + 1 := by subst hW; simp
  have bW : Below w.heap.size w W := by subst hW; exact (Below.refl _ _).alloc (Nat.le_refl _) _
  have rF : Row W w.heap.size 25 [.int .i64 F.purses, .int .i64 F.boxes, .slice S1 F.stock.length k1, .slice S2 F.cash.length k2, .slice S3 F.bundles.length k3, .int .i64 F.refund, .int .i64 F.band, .int .i64 F.hours] := by subst hW; exact row_new _ _ _ _ rfl
  unfold fairV
  dsimp only
  cases hlong : longB l with
  | true =>
    go_enter Try.func3, Try.ntmps3
    go_wp2_with (go_at_call 14; refine (long_any l _ _ _ hn).mono ?_; rintro e w' ⟨rfl, rfl⟩)
    rw [← hW]
    refine (works_any _).mono ?_
    rintro e w1 ⟨rfl, hb1⟩
    go_wp2_with fail
    go_ret
    exact ⟨rfl, below_step bW hb1⟩
  | false =>
    go_enter Try.func3, Try.ntmps3
    go_wp2_with (go_at_call 14; refine (long_any l _ _ _ hn).mono ?_; rintro e w' ⟨rfl, rfl⟩)
    rw [← hW]
    clear hW hlong
    have zF : w.heap.size < W.heap.size := rF.lt
    have HC1 : Hid (∀ x : World, Below W.heap.size W x → Calls Try.prog 16 #[fairV F ⟨S1, k1, S2, k2, S3, k3⟩] x fun e x' => e = .returned (.int .i64 (chkE F)) ∧ Below x.heap.size x x') := fun x hx => (Check_any F ⟨S1, k1, S2, k2, S3, k3⟩ x B (by have := hx.size; omega) (hF.below ((bW.trans (hx.mono (by omega))).mono hB))).mono fun _ _ h => ⟨h.1, h.2⟩
    have HC2 : Hid (∀ x : World, Below W.heap.size W x → Calls Try.prog 17 #[fairV F ⟨S1, k1, S2, k2, S3, k3⟩] x fun e x' => e = .returned (.int .i64 (chkE F)) ∧ Below x.heap.size x x') := fun x hx => rCheck_any F ⟨S1, k1, S2, k2, S3, k3⟩ x B (by have := hx.size; omega) (hF.below ((bW.trans (hx.mono (by omega))).mono hB))
    obtain ⟨_, q0, q1, q2, q3, q4, q5, q6, q7⟩ := Row.cells8 rF
    go_cut [20] (fun s20 wx => s20 = .bool false ∧ Below W.heap.size W wx)
    case first =>
      go_region_with (first
        | (go_at_call 16; go_must (refine (HC1.out _ ?_).mono ?_; (repeat (first | exact Below.refl _ _ | assumption | (with_reducible refine below_drewN ?_ _) | (with_reducible refine Below.drew ?_))); rintro e x1 ⟨rfl, hb1⟩; have bx1 := below_step (w := W) (by repeat (first | exact Below.refl _ _ | assumption | (with_reducible refine below_drewN ?_ _) | (with_reducible refine Below.drew ?_))) hb1; obtain ⟨_, q0, q1, q2, q3, q4, q5, q6, q7⟩ := Row.cells8 (Row.below rF bx1 zF)))
        | (go_at_call 17; go_must (refine (HC2.out _ ?_).mono ?_; (repeat (first | exact Below.refl _ _ | assumption | (with_reducible refine below_drewN ?_ _) | (with_reducible refine Below.drew ?_))); rintro e x2 ⟨rfl, hb2⟩; have bx2 := below_step (w := W) (by repeat (first | exact Below.refl _ _ | assumption | (with_reducible refine below_drewN ?_ _) | (with_reducible refine Below.drew ?_))) hb2; obtain ⟨_, q0, q1, q2, q3, q4, q5, q6, q7⟩ := Row.cells8 (Row.below rF bx2 zF))))
      all_goals
        go_wp2_with fail
        go_meet
        first | exact ⟨by simp, bx2⟩ | exact ⟨by simp, bx1⟩
    obtain ⟨e20, hb0⟩ := hcut
    subst e20
    have b0 := below_step bW hb0
    have s0 := hb0.size
    clear HC1 HC2
    replace rF := rF.below hb0 rF.lt
    clear q0 q1 q2 q3 q4 q5 q6 q7
    obtain ⟨_, q0, q1, q2, q3, q4, q5, q6, q7⟩ := Row.cells8 rF
    go_wp2_with fail
    refine (CheckDeals_any F ⟨S1, k1, S2, k2, S3, k3⟩ l A c B wc (by omega) (hF.below (b0.mono hB)) (hl.below (b0.mono hB)) hn).mono ?_
    rintro e w1 ⟨rfl, hb1⟩
    have b1 := below_step b0 hb1
    have s1 := hb1.size
    replace rF := rF.below hb1 rF.lt
    clear q0 q1 q2 q3 q4 q5 q6 q7
    obtain ⟨_, q0, q1, q2, q3, q4, q5, q6, q7⟩ := Row.cells8 rF
    go_wp2_with fail
    refine (rCheckDeals_any F ⟨S1, k1, S2, k2, S3, k3⟩ l A c B w1 (by omega) (hF.below (b1.mono hB)) (hl.below (b1.mono hB)) hn).mono ?_
    rintro e w2 ⟨rfl, hb2⟩
    have b2 := below_step b1 hb2
    have s2 := hb2.size
    replace rF := rF.below hb2 rF.lt
    clear q0 q1 q2 q3 q4 q5 q6 q7
    obtain ⟨_, q0, q1, q2, q3, q4, q5, q6, q7⟩ := Row.cells8 rF
    go_wp2_with fail
    refine (Play_any F ⟨S1, k1, S2, k2, S3, k3⟩ l A c B w2 (by omega) (hF.below (b2.mono hB)) (hl.below (b2.mono hB)) hn).mono ?_
    rintro e w3 ⟨hb3, ⟨E1, e1, E2, e2, E3, e3, E4, e4⟩, rfl, hC3⟩
    have b3 := below_step b2 hb3
    have s3 := hb3.size
    replace rF := rF.below hb3 rF.lt
    clear q0 q1 q2 q3 q4 q5 q6 q7
    obtain ⟨_, q0, q1, q2, q3, q4, q5, q6, q7⟩ := Row.cells8 rF
    unfold countV
    dsimp only
    have zF3 : w.heap.size < w3.heap.size := rF.lt
    go_wp2_with fail
    obtain ⟨X3, hX3⟩ : ∃ X3, X3 = w3.alloc (.cells #[.slice E1 (playS F l).stock.length e1, .slice E2 (playS F l).cash.length e2, .slice E3 (playS F l).purses.length e3, .slice E4 (playS F l).boxes.length e4, .int .i64 (playS F l).lost] 35) := ⟨_, rfl⟩
    rw [← hX3]
    have bX3 : Below w3.heap.size w3 X3 := by subst hX3; exact (Below.refl _ _).alloc (Nat.le_refl _) _
    have sX3 : X3.heap.size = w3.heap.size + 1 := by subst hX3; simp
    have rX : Row X3 w3.heap.size 35 [.slice E1 (playS F l).stock.length e1, .slice E2 (playS F l).cash.length e2, .slice E3 (playS F l).purses.length e3, .slice E4 (playS F l).boxes.length e4, .int .i64 (playS F l).lost] := by subst hX3; exact row_new _ _ _ _ rfl
    have B3 := below_step b3 bX3
    have CX3 := hC3.keep (w' := X3) fun p hp => bX3.cell hp
    clear hX3
    replace rF := rF.below bX3 rF.lt
    clear q0 q1 q2 q3 q4 q5 q6 q7
    obtain ⟨_, q0, q1, q2, q3, q4, q5, q6, q7⟩ := Row.cells8 rF
    refine (rPlay_any F ⟨S1, k1, S2, k2, S3, k3⟩ l A c B X3 (by omega) (hF.below (B3.mono hB)) (hl.below (B3.mono hB)) hn).mono ?_
    rintro e w4 ⟨hb4, ⟨G1, g1, G2, g2, G3, g3, G4, g4⟩, rfl, hC4⟩
    have b4 := below_step B3 hb4
    have s4 := hb4.size
    have zX := rX.lt
    replace rX := rX.below hb4 zX
    have CX4 := CX3.keep (w' := w4) fun p hp => hb4.cell (by omega)
    replace rF := rF.below hb4 rF.lt
    clear q0 q1 q2 q3 q4 q5 q6 q7
    obtain ⟨_, q0, q1, q2, q3, q4, q5, q6, q7⟩ := Row.cells8 rF
    unfold countV
    dsimp only
    have zX4 := rX.lt
    have zF4 := rF.lt
    obtain ⟨_, x0, x1, x2, x3, x4⟩ := Row.at_5 rX
    go_wp2_with fail
    obtain ⟨X4, hX4⟩ : ∃ X4, X4 = w4.alloc (.cells #[.slice G1 (playS F l).stock.length g1, .slice G2 (playS F l).cash.length g2, .slice G3 (playS F l).purses.length g3, .slice G4 (playS F l).boxes.length g4, .int .i64 (playS F l).lost] 35) := ⟨_, rfl⟩
    rw [← hX4]
    have bX4 : Below w4.heap.size w4 X4 := by subst hX4; exact (Below.refl _ _).alloc (Nat.le_refl _) _
    have sX4 : X4.heap.size = w4.heap.size + 1 := by subst hX4; simp
    have rY : Row X4 w4.heap.size 35 [.slice G1 (playS F l).stock.length g1, .slice G2 (playS F l).cash.length g2, .slice G3 (playS F l).purses.length g3, .slice G4 (playS F l).boxes.length g4, .int .i64 (playS F l).lost] := by subst hX4; exact row_new _ _ _ _ rfl
    have B4 := below_step b4 bX4
    clear hX4
    refine (sameCount_same (playS F l) ⟨E1, e1, E2, e2, E3, e3, E4, e4⟩ ⟨G1, g1, G2, g2, G3, g3, G4, g4⟩ X4 X4.heap.size (Nat.le_refl _) ((CX4.keep (w' := X4) fun p hp => bX4.cell (by omega)).more (by omega)) ((hC4.keep (w' := X4) fun p hp => bX4.cell hp).more (by omega))).mono ?_
    rintro e w5 ⟨rfl, hb5⟩
    have b5 := below_step B4 hb5
    have s5 := hb5.size
    replace rX := (rX.below bX4 zX4).below hb5 (by omega)
    replace rY := rY.below hb5 rY.lt
    replace rF := rF.below bX4 zF4
    clear x0 x1 x2 x3 x4 CX3 CX4 hC3 hC4
    replace rF := rF.below hb5 rF.lt
    clear q0 q1 q2 q3 q4 q5 q6 q7
    obtain ⟨_, q0, q1, q2, q3, q4, q5, q6, q7⟩ := Row.cells8 rF
    go_wp2_with fail
    refine (Until_new F ⟨S1, k1, S2, k2, S3, k3⟩ l at_ A c B w5 (by omega) (hF.below (b5.mono hB)) (hl.below (b5.mono hB)) hn hc hcm).mono ?_
    rintro e w6 ⟨hb6, ⟨H1, h1, H2, h2, H3, h3, H4, h4⟩, rfl, hC6, hf6⟩
    have b6 := below_step b5 hb6
    have s6 := hb6.size
    replace rX := rX.below hb6 rX.lt
    replace rY := rY.below hb6 rY.lt
    have ne1 : ¬ w.heap.size = w3.heap.size := by omega
    have ne2 : ¬ w3.heap.size = w.heap.size := by omega
    have ne3 : ¬ w3.heap.size = w4.heap.size := by omega
    have ne4 : ¬ w4.heap.size = w3.heap.size := by omega
    have ne5 : ¬ w.heap.size = w4.heap.size := by omega
    have ne6 : ¬ w4.heap.size = w.heap.size := by omega
    replace rF := rF.below hb6 rF.lt
    clear q0 q1 q2 q3 q4 q5 q6 q7
    obtain ⟨_, q0, q1, q2, q3, q4, q5, q6, q7⟩ := Row.cells8 rF
    obtain ⟨fx, x0, x1, x2, x3, x4⟩ := Row.at_5 rX
    unfold countV
    dsimp only
    go_wp2_with fail
    obtain ⟨Y6, hY6⟩ : ∃ Y6, Y6 = ((((w6.setCell ⟨w3.heap.size, 0, none⟩ (.slice H1 (untilC F l at_).stock.length h1)).setCell ⟨w3.heap.size, 1, none⟩ (.slice H2 (untilC F l at_).cash.length h2)).setCell ⟨w3.heap.size, 2, none⟩ (.slice H3 (untilC F l at_).purses.length h3)).setCell ⟨w3.heap.size, 3, none⟩ (.slice H4 (untilC F l at_).boxes.length h4)).setCell ⟨w3.heap.size, 4, none⟩ (.int .i64 (untilC F l at_).lost) := ⟨_, rfl⟩
    rw [← hY6]
    have sY6 : Y6.heap.size = w6.heap.size := by subst hY6; simp [World.setCell]
    have b6' : Below w.heap.size w Y6 := by subst hY6; exact belr5 b6 (by omega)
    have rX6 : Row Y6 w3.heap.size 35 [.slice H1 (untilC F l at_).stock.length h1, .slice H2 (untilC F l at_).cash.length h2, .slice H3 (untilC F l at_).purses.length h3, .slice H4 (untilC F l at_).boxes.length h4, .int .i64 (untilC F l at_).lost] := by subst hY6; exact setr5 rX
    have rY6 := by have := rY; exact (show Row Y6 w4.heap.size 35 [.slice G1 (playS F l).stock.length g1, .slice G2 (playS F l).cash.length g2, .slice G3 (playS F l).purses.length g3, .slice G4 (playS F l).boxes.length g4, .int .i64 (playS F l).lost] from by subst hY6; exact farr5 this ne4)
    have rF6 : Row Y6 w.heap.size 25 [.int .i64 F.purses, .int .i64 F.boxes, .slice S1 F.stock.length k1, .slice S2 F.cash.length k2, .slice S3 F.bundles.length k3, .int .i64 F.refund, .int .i64 F.band, .int .i64 F.hours] := by subst hY6; exact farr5 rF ne1
    have CY6 : CountIn Y6 Y6.heap.size (untilC F l at_) ⟨H1, h1, H2, h2, H3, h3, H4, h4⟩ := by subst hY6; exact cofr5 hC6 (off_fresh hf6 (by omega))
    clear hY6 x0 x1 x2 x3 x4 fx hC6 rX rY rF
    clear q0 q1 q2 q3 q4 q5 q6 q7
    obtain ⟨_, q0, q1, q2, q3, q4, q5, q6, q7⟩ := Row.cells8 rF6
    refine (rUntil_any F ⟨S1, k1, S2, k2, S3, k3⟩ l at_ A c B Y6 (by omega) (hF.below (b6'.mono hB)) (hl.below (b6'.mono hB)) hn hc hcm).mono ?_
    rintro e w7 ⟨hb7, ⟨I1, i1, I2, i2, I3, i3, I4, i4⟩, rfl, hC7, hf7⟩
    have b7 := below_step b6' hb7
    have s7 := hb7.size
    have rX7 := rX6.below hb7 rX6.lt
    have rY7 := rY6.below hb7 rY6.lt
    have CY7 := CY6.keep (w' := w7) fun p hp => hb7.cell hp
    clear q0 q1 q2 q3 q4 q5 q6 q7
    obtain ⟨_, x0, x1, x2, x3, x4⟩ := Row.at_5 rX7
    obtain ⟨fy, y0, y1, y2, y3, y4⟩ := Row.at_5 rY7
    unfold countV
    dsimp only
    go_wp2_with fail
    obtain ⟨Y7, hY7⟩ : ∃ Y7, Y7 = ((((w7.setCell ⟨w4.heap.size, 0, none⟩ (.slice I1 (untilC F l at_).stock.length i1)).setCell ⟨w4.heap.size, 1, none⟩ (.slice I2 (untilC F l at_).cash.length i2)).setCell ⟨w4.heap.size, 2, none⟩ (.slice I3 (untilC F l at_).purses.length i3)).setCell ⟨w4.heap.size, 3, none⟩ (.slice I4 (untilC F l at_).boxes.length i4)).setCell ⟨w4.heap.size, 4, none⟩ (.int .i64 (untilC F l at_).lost) := ⟨_, rfl⟩
    rw [← hY7]
    have sY7 : Y7.heap.size = w7.heap.size := by subst hY7; simp [World.setCell]
    have b7' : Below w.heap.size w Y7 := by subst hY7; exact belr5 b7 (by omega)
    have C1 : CountIn Y7 Y7.heap.size (untilC F l at_) ⟨H1, h1, H2, h2, H3, h3, H4, h4⟩ := by subst hY7; exact cofr5 (CY7.more (by omega)) (off_fresh hf6 (by omega))
    have C2 : CountIn Y7 Y7.heap.size (untilC F l at_) ⟨I1, i1, I2, i2, I3, i3, I4, i4⟩ := by subst hY7; exact cofr5 hC7 (off_fresh hf7 (by omega))
    clear hY7
    refine (sameCount_same (untilC F l at_) ⟨H1, h1, H2, h2, H3, h3, H4, h4⟩ ⟨I1, i1, I2, i2, I3, i3, I4, i4⟩ Y7 Y7.heap.size (Nat.le_refl _) C1 C2).mono ?_
    rintro e w8 ⟨rfl, hb8⟩
    have b8 := below_step b7' hb8
    go_wp2_with fail
    refine (works_any _).mono ?_
    rintro e w9 ⟨rfl, hb9⟩
    go_wp2_with fail
    go_ret
    exact ⟨rfl, below_step b8 hb9⟩
end Go.Proofs.Ytfcalfccogbgnaa
namespace Go.Proofs.Ytfcalfccogbgnaa
open Go.Joins Go.ChangeShapes Go.WideShapes Go.ChangeAt Go.RowKit Go.Deep

theorem open_deals3 {H : Type} {enc : TypeId × Value → H} {P : Program} {w : World} {base : Nat} {spare : Nat → Bool} {held : Bool} {t e : TypeId} {f0 f1 f2 f3 f4 : Field} {fuel : Nat} {v : Value} {x : DataW H × List MemPlace} (ht : P.underlying t = some (.slice e)) (he : P.underlying e = some (.struct #[f0, f1, f2, f3, f4])) (hone : oneCellFields P #[f0, f1, f2, f3, f4] = true) (hC : P.cellsOf e = 5)
    (h0 : P.underlying f0.type = some (.int .i64)) (h1 : P.underlying f1.type = some (.int .i64)) (h2 : P.underlying f2.type = some (.int .i64)) (h3 : P.underlying f3.type = some (.int .i64)) (h4 : P.underlying f4.type = some (.int .i64)) (h : DataW.trod enc P w base spare held fuel t [v] = some x) :
    ∃ A c l, v = .slice A (List.length l) c ∧ Reads w w.heap.size 5 A l.length (dealCells l) ∧ l.length ≤ c ∧ c ≤ maxLen := by
  rcases open_slice_fields ht he hone hC h with hcs | ⟨a, len, cap, hcs, hl, hm, hi⟩
  · injection hcs with h1 _
    exact ⟨none, 0, [], h1, Reads.none_, Nat.zero_le _, Nat.zero_le _⟩
  · injection hcs with hv _
    obtain ⟨l, hll, hq⟩ := exists_list (α := Deal) (fun i b => w.cell? (a.add (i * 5)) = some (.int .i64 b.at_) ∧ w.cell? (a.add (i * 5 + 1)) = some (.int .i64 b.kind) ∧ w.cell? (a.add (i * 5 + 2)) = some (.int .i64 b.a) ∧ w.cell? (a.add (i * 5 + 3)) = some (.int .i64 b.b) ∧ w.cell? (a.add (i * 5 + 4)) = some (.int .i64 b.n)) len (fun i hil => by
      obtain ⟨n, hf⟩ := hi i hil
      obtain ⟨u0, y0, c0, t0⟩ := hf 0 f0 rfl
      obtain ⟨u1, y1, c1, t1⟩ := hf 1 f1 rfl
      obtain ⟨u2, y2, c2, t2⟩ := hf 2 f2 rfl
      obtain ⟨u3, y3, c3, t3⟩ := hf 3 f3 rfl
      obtain ⟨u4, y4, c4, t4⟩ := hf 4 f4 rfl
      obtain ⟨k0, e0, _, _⟩ := DataW.trod_int h0 t0
      obtain ⟨k1, e1, _, _⟩ := DataW.trod_int h1 t1
      obtain ⟨k2, e2, _, _⟩ := DataW.trod_int h2 t2
      obtain ⟨k3, e3, _, _⟩ := DataW.trod_int h3 t3
      obtain ⟨k4, e4, _, _⟩ := DataW.trod_int h4 t4
      injection e0 with e0 _; injection e1 with e1 _; injection e2 with e2 _; injection e3 with e3 _; injection e4 with e4 _
      subst e0; subst e1; subst e2; subst e3; subst e4
      exact ⟨⟨k0, k1, k2, k3, k4⟩, by simpa using c0, by simpa using c1, by simpa using c2, by simpa using c3, by simpa using c4⟩)
    refine ⟨some a, cap, l, by rw [hll]; exact hv, reads_of (dealCells_length l) (by omega) (fun j u hu => ?_), by omega, hm⟩
    have hj : j < l.length * 5 := by have := (List.getElem?_eq_some_iff.1 hu).1; rw [dealCells_length] at this; exact this
    obtain ⟨b0, b1, b2, b3, b4⟩ := dealCells_at l (j / 5) (by omega)
    have hq' := hq (j / 5) (by omega)
    have hg : getd l (j / 5) = l[j / 5]'(by omega) := by simp only [getd, List.getElem?_eq_getElem (show j / 5 < l.length by omega), Option.getD_some]
    rw [hg] at b0 b1 b2 b3 b4
    have hm5 : j % 5 = 0 ∨ j % 5 = 1 ∨ j % 5 = 2 ∨ j % 5 = 3 ∨ j % 5 = 4 := by omega
    rcases hm5 with h5 | h5 | h5 | h5 | h5
    · rw [show j / 5 * 5 = j from by omega] at b0 hq'
      rw [b0] at hu; injection hu with hu; rw [← hu]; exact hq'.1
    · rw [show j / 5 * 5 + 1 = j from by omega] at b1 hq'
      rw [b1] at hu; injection hu with hu; rw [← hu]; exact hq'.2.1
    · rw [show j / 5 * 5 + 2 = j from by omega] at b2 hq'
      rw [b2] at hu; injection hu with hu; rw [← hu]; exact hq'.2.2.1
    · rw [show j / 5 * 5 + 3 = j from by omega] at b3 hq'
      rw [b3] at hu; injection hu with hu; rw [← hu]; exact hq'.2.2.2.1
    · rw [show j / 5 * 5 + 4 = j from by omega] at b4 hq'
      rw [b4] at hu; injection hu with hu; rw [← hu]; exact hq'.2.2.2.2

set_option maxRecDepth 100000 in
theorem plays_lifted (os : Os) (started : os.Started) (H : Type) (enc : TypeId × Value → H) :
    ReturnsInHanded {} Try.checked os 3 .any (Rows.tokensPlaysSpec.pre6 enc Try.prog Try.f3 Rows.tokensPlaysRow.domain false) (Rows.tokensPlaysSpec.post enc Try.prog Try.f3 false true false false) := by
  refine returnsInHanded_of_change (C := Try.checked) Try.own started (by kernel_rfl) Try.func3
    (ChangeSpec.witness6 (enc := enc) (C := Try.checked) false ⟨#[], #[.agg #[.int .i64 0, .int .i64 0, .slice none 0 0, .slice none 0 0, .slice none 0 0, .int .i64 0, .int .i64 0, .int .i64 0], .slice none 0 0, .int .i64 0], []⟩ 8 (by kernel_rfl) (by kernel_rfl) (by kernel_rfl) (by kernel_rfl)) ?_
  intro W base args ds gs before hval0 hW hcnd _
  have hval : ∀ (j : Nat) t v, Try.f3.params[j]? = some t → args[j]? = some v → Value.okWide Try.prog W .any base t v := hval0
  have hW' := hW
  obtain ⟨p, q, hA0, hV, rfl, hfz, hnd⟩ := hW
  have hA : DataW.TrodAll enc Try.prog W 0 (fun _ => true) true Try.f3.params.toList args.toList ds p := hA0
  rw [Try.params3] at hA hval
  obtain ⟨v0, vs0, d0, ds0, p0, q0, hargs, rfl, rfl, h0, r0⟩ := trodAll_cons hA
  obtain ⟨v1, vs1, d1, ds1, p1, q1, rfl, rfl, rfl, h1, r1⟩ := trodAll_cons r0
  obtain ⟨v2, vs2, d2, ds2, p2, q2, rfl, rfl, rfl, h2, r2⟩ := trodAll_cons r1
  obtain ⟨rfl, rfl, rfl⟩ := trodAll_nil r2
  obtain rfl : args = #[v0, v1, v2] := by cases args; simp_all
  obtain ⟨rfl, rfl⟩ := trodVars_none hV
  have k0 := h0
  have k1 := h1
  have k2 := h2
  have lt0 : ∀ x ∈ p0, x.block < W.heap.size := by obtain ⟨m, hm⟩ := k0; exact DataW.trod_lt m _ _ _ hm
  have lt1 : ∀ x ∈ p1, x.block < W.heap.size := by obtain ⟨m, hm⟩ := k1; exact DataW.trod_lt m _ _ _ hm
  have lt2 : ∀ x ∈ p2, x.block < W.heap.size := by obtain ⟨m, hm⟩ := k2; exact DataW.trod_lt m _ _ _ hm
  obtain ⟨F, R, rfl, hF⟩ := open_fair (hval 0 25 v0 rfl rfl) h0
  obtain ⟨a1, len1, cap1, rfl⟩ := okWide_slice Try.underlying26 (hval 1 26 v1 rfl rfl)
  obtain ⟨fuel, hf⟩ := h1
  obtain ⟨A, c, l, hv1, hl, hlc, hcm⟩ := open_deals3 Try.underlying26 Try.underlying65 (by kernel_rfl) (by kernel_rfl) Try.underlying3 Try.underlying3 Try.underlying3 Try.underlying3 Try.underlying3 (by simpa [Value.cells] using hf)
  obtain ⟨z, rfl⟩ := okWide_int Try.underlying3 (hval 2 3 v2 rfl rfl)
  rw [hv1] at hW' k1 ⊢
  clear hA0 hval0
  refine (plays_walk F R l z A c W.heap.size W (Nat.le_refl _) hF hl (by omega) hlc hcm).mono fun e W' ⟨he, bel⟩ => ?_
  subst he
  exact ⟨_, rfl, _, _, _, [], _, [], hW', trodAll_mk1 (shut_bool Try.underlying4 _), (trodAll_cons_mk (Below.trod Try.laidOut (by kernel_rfl) (of_decide_eq_true (by kernel_rfl)) k0 bel lt0) (trodAll_cons_mk (Below.trod Try.laidOut (by kernel_rfl) (of_decide_eq_true (by kernel_rfl)) k1 bel lt1) (trodAll_cons_mk (Below.trod Try.laidOut (by kernel_rfl) (of_decide_eq_true (by kernel_rfl)) k2 bel lt2) trodAll_mk0))), rfl, bel.frame _, fun h => by cases h⟩

theorem plays_holds : Rows.TokensPlaysSaid :=
  OpenClaim.holds_of_wide 3 Try.f3 rfl rfl rfl rfl rfl rfl rfl ⟨rfl, rfl, rfl, rfl, rfl⟩ rfl rfl rfl rfl rfl (by kernel_rfl) Try.func3 (by kernel_rfl)
    (of_decide_eq_true (by kernel_rfl)) (by unfold Func.isWrapper; first | (rw [if_pos (by decide +kernel)]; kernel_rfl) | (rw [if_neg (by decide +kernel)]; exact ⟨rfl, rfl⟩))
    (fun os started H enc _ => plays_lifted os started H enc)
#print axioms plays_holds
end Go.Proofs.Ytfcalfccogbgnaa
