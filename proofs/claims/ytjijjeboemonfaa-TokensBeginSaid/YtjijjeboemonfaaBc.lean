/- The walk of TokensBegin. Conditions: the arguments read as data; the deals' slice is no longer than its capacity. -/
import Derived.Test.YtjijjeboemonfaaBb
import Derived.Test.YtjijjeboemonfaaFh
import Derived.Deep.RegionHeld3
import Derived.Deep.DeepCutAuto
import Derived.Deep.CutBlock
namespace Go.Proofs.Ytjijjeboemonfaa
open Go.RowKit

theorem check_pre (F : Fair) (R : Refs) (l : List Deal) (h0 : errS F l = 0) (k : Nat) (hk : k ≤ l.length) (A : Option Addr) (c B : Nat) (w X : World) (hB : B ≤ w.heap.size) (hF : FairIn w B F R) (hl : Reads w B 5 A l.length (dealCells l)) (hn : l.length ≤ maxLen) (hX : Below w.heap.size w X) :
    Calls Try.prog 18 #[fairV F R, .slice A k c] X fun e w' => e = .returned (.tuple #[.int .i64 (atS F (l.take k)), .int .i64 0]) ∧ Below w.heap.size w w' := by
  have e : (l.take k).length = k := by rw [List.length_take]; omega
  have hp := (hl.below (hX.mono hB)).pre k hk
  have hn' : (l.take k).length ≤ maxLen := by omega
  have hs := hX.size
  have := CheckDeals_any F R (l.take k) A c B X (by omega) (hF.below (hX.mono hB)) (by rw [e]; exact hp) hn'
  rw [e, begin_ok h0] at this
  exact this.mono fun _ _ h => ⟨h.1, below_step hX h.2⟩
theorem alloc_lt (w : World) (o : Obj) : w.heap.size < (w.alloc o).heap.size := by simp
theorem alloc_lt' (w : World) (o : Obj) : w.heap.size < (w.alloc o).drew.heap.size := alloc_lt w o
abbrev zeroC : Array Value := #[.slice none 0 0, .slice none 0 0, .slice none 0 0, .slice none 0 0, .int .i64 0]
section
variable {x : World} {g N : Nat} {t : TypeId} {C : Count} {K : CRefs} {z0 z1 z2 z3 z4 v0 v1 v2 v3 v4 : Value}
theorem row5 : Row (x.alloc (.cells #[v0, v1, v2, v3, v4] t)) x.heap.size t [v0, v1, v2, v3, v4] := row_new _ _ _ _ rfl
theorem set5 (h : Row x g t [z0, z1, z2, z3, z4]) : Row (((((x.setCell ⟨g, 0, none⟩ v0).setCell ⟨g, 1, none⟩ v1).setCell ⟨g, 2, none⟩ v2).setCell ⟨g, 3, none⟩ v3).setCell ⟨g, 4, none⟩ v4) g t [v0, v1, v2, v3, v4] := by
  have := ((((h.set 0 v0).set 1 v1).set 2 v2).set 3 v3).set 4 v4
  exact this
theorem count5 (h : CountIn x x.heap.size C K) (hf : CFresh N K) (hg : g < N) : CountIn (((((x.setCell ⟨g, 0, none⟩ v0).setCell ⟨g, 1, none⟩ v1).setCell ⟨g, 2, none⟩ v2).setCell ⟨g, 3, none⟩ v3).setCell ⟨g, 4, none⟩ v4) (((((x.setCell ⟨g, 0, none⟩ v0).setCell ⟨g, 1, none⟩ v1).setCell ⟨g, 2, none⟩ v2).setCell ⟨g, 3, none⟩ v3).setCell ⟨g, 4, none⟩ v4).heap.size C K :=
  (((((h.far hf (p := ⟨g, 0, none⟩) hg v0).far hf (p := ⟨g, 1, none⟩) hg v1).far hf (p := ⟨g, 2, none⟩) hg v2).far hf (p := ⟨g, 3, none⟩) hg v3).far hf (p := ⟨g, 4, none⟩) hg v4).more (by simp [World.setCell])
theorem countA (h : CountIn x x.heap.size C K) (o : Obj) : CountIn (x.alloc o) (x.alloc o).heap.size C K := (h.keep fun p hp => World.cell?_alloc_lt x _ p hp).more (Nat.le_of_lt (alloc_lt _ _))
theorem below5 {B : Nat} {a : World} (h : Below B a x) (hg : B ≤ g) : Below B a (((((x.setCell ⟨g, 0, none⟩ v0).setCell ⟨g, 1, none⟩ v1).setCell ⟨g, 2, none⟩ v2).setCell ⟨g, 3, none⟩ v3).setCell ⟨g, 4, none⟩ v4) :=
  ((((h.setCell hg _).setCell hg _).setCell hg _).setCell hg _).setCell hg _
end
def UnCut (l : List Deal) (a : Int) (V : World) (s : Value) (wx : World) : Prop := ∃ k : Nat, s = .int .i64 k ∧ k ≤ l.length ∧ untilN l a = k ∧ wx = V
theorem Own4.alloc {w : World} {N : Nat} {C : Count} {K : CRefs} (h : Own4 w N C K) (o : Obj) : Own4 (w.alloc o) N C K := by
  obtain ⟨hi, f1, f2, f3, f4, N1, N2, N3, g0, g1, g2, g3, h1, h2, h3, h4⟩ := h
  have hk : KeptBut [] w (w.alloc o) := (KeptBut.refl _ _).alloc o
  refine ⟨(hi.keep fun p hp => World.cell?_alloc_lt w _ p hp).more (by simp), f1.kb hk fun b o e => ?_, f2.kb hk fun b o e => ?_, f3.kb hk fun b o e => ?_, f4.kb hk fun b o e => ?_, N1, N2, N3, g0, g1, g2, by simp; omega, h1, h2, h3, fun b o e => ?_⟩
  · have := h1 b o e; simp; omega
  · have := h2 b o e; simp; omega
  · have := h3 b o e; simp; omega
  · have := h4 b o e; simp; omega
  · have := h4 b o e; simp; omega

set_option maxHeartbeats 4000000 in
set_option maxRecDepth 100000 in
theorem begin_walk (F : Fair) (R : Refs) (l : List Deal) (at_ : Int) (A : Option Addr) (c B : Nat) (w : World) (hB : B ≤ w.heap.size) (hF : FairIn w B F R) (hl : Reads w B 5 A l.length (dealCells l)) (hn : l.length ≤ maxLen) (hc : l.length ≤ c) (hcm : c ≤ maxLen) :
    Calls Try.prog 10 #[fairV F R, .slice A l.length c, .int .i64 at_] w (WPost w) := by
  obtain ⟨W, hW⟩ : ∃ W, W = w.alloc (.cells (fairCells F R) 25) := ⟨_, rfl⟩
  have sW : W.heap.size = w.heap.size + 1 := by subst hW; simp
  have bW : Below w.heap.size w W := by subst hW; exact (Below.refl _ _).alloc (Nat.le_refl _) _
  have rF : Row W w.heap.size 25 (fairCells F R).toList := by subst hW; exact row_new _ _ _ _ rfl
  have hFW := hF.below (bW.mono hB)
  have hlW := hl.below (bW.mono hB)
  unfold fairV
  cases hlong : longB l with
  | true =>
    go_enter Try.func10, Try.ntmps10
    go_wp2_with (go_at_call 14; refine (long_any l _ _ _ hn).mono ?_; rintro e w' ⟨rfl, rfl⟩)
    rw [← hW]
    refine (works_any _).mono ?_
    rintro e w1 ⟨rfl, hb1⟩
    go_wp2_with fail
    go_ret
    exact ⟨rfl, below_step bW hb1⟩
  | false =>
    go_enter Try.func10, Try.ntmps10
    go_wp2_with (go_at_call 14; refine (long_any l _ _ _ hn).mono ?_; rintro e w' ⟨rfl, rfl⟩)
    rw [← hW]
    clear hW
    refine (Play_any F R l A c B W (by omega) hFW hlW hn).mono ?_
    rintro e w1 ⟨hb1, K, rfl, hC⟩
    have b1 := below_step bW hb1
    have rF1 := rF.below hb1 rF.lt
    have z1 := hb1.size
    obtain ⟨A1, c1, A2, c2, A3, c3, A4, c4⟩ := K
    unfold countV
    dsimp only
    go_upto_if 47 with (fail)
    obtain ⟨X, hX⟩ : ∃ X, X = w1.alloc (.cells #[.slice A1 (playS F l).stock.length c1, .slice A2 (playS F l).cash.length c2, .slice A3 (playS F l).purses.length c3, .slice A4 (playS F l).boxes.length c4, .int .i64 (playS F l).lost] 35) := ⟨_, rfl⟩
    rw [← hX]
    have sX : X.heap.size = w1.heap.size + 1 := by subst hX; simp
    have bX : Below w.heap.size w X := by subst hX; exact b1.alloc b1.size _
    have rFX : Row X w.heap.size 25 (fairCells F R).toList := by subst hX; exact rF1.alloc _
    have rCX : Row X w1.heap.size 35 (countL (playS F l) ⟨A1, c1, A2, c2, A3, c3, A4, c4⟩) := by subst hX; exact row_new _ _ _ _ rfl
    have CX : CountIn X w1.heap.size (playS F l) ⟨A1, c1, A2, c2, A3, c3, A4, c4⟩ := by subst hX; exact hC.keep fun p hp => World.cell?_alloc_lt w1 _ p hp
    clear hX hC hFW hlW
    by_cases he : errS F l = 0
    case neg =>
      have he' : (errS F l != 0) = true := by simpa using he
      clear he
      go_wp2_with fail
      refine (works_any _).mono ?_
      rintro e w4 ⟨rfl, hb4⟩
      go_wp2_with fail
      go_ret
      exact ⟨rfl, below_step bX hb4⟩
    have He := Lib.hid he
    rw [he]
    clear he
    have few : l.length ≤ 40 := by
      have := (went He.out).few
      simp only [longB, Bool.and_eq_false_iff, decide_eq_false_iff_not] at hlong
      omega
    obtain ⟨_, q0, q1, q2, q3, q4, q5, q6, q7⟩ := Row.cells8 rFX
    have hne : ¬ ((l.length : Int) + 1 = 0) := by omega
    have t1 := Int.lt_tmod_of_pos at_ (show (0 : Int) < (l.length : Int) + 1 by omega)
    have t2 := Int.tmod_lt_of_pos at_ (show (0 : Int) < (l.length : Int) + 1 by omega)
    go_upto_region 7 with (fail)
    obtain ⟨N, hN⟩ := Int.eq_ofNat_of_zero_le (Int.emod_nonneg (at_.tmod ((l.length : Int) + 1) + (l.length : Int) + 1) hne)
    have hN2 := Int.emod_lt_of_pos (at_.tmod ((l.length : Int) + 1) + (l.length : Int) + 1) (show (0 : Int) < (l.length : Int) + 1 by omega)
    rw [hN] at hN2 ⊢
    clear hN t1 t2 hne
    have FX := hF.below (bX.mono hB)
    have lX := hl.below (bX.mono hB)
    have hBX : B ≤ X.heap.size := by have := bX.size; omega
    have zF : w.heap.size < X.heap.size := rFX.lt
    have HC : Hid (∀ x : World, Below X.heap.size X x → Calls Try.prog 18 #[fairV F R, .slice A N c] x fun e w' => e = .returned (.tuple #[.int .i64 (atS F (l.take N)), .int .i64 0]) ∧ Below X.heap.size X w') := fun x hx => check_pre F R l He.out N (by omega) A c B X x hBX FX lX hn hx
    have n1 : (0 : Int) ≤ (N : Int) := by omega
    have n2 : (N : Int) ≤ (c : Int) := by omega
    have n3 : N ≤ c := by omega
    go_region_held3 (fun x => x.cell? ⟨w.heap.size, 0, none⟩ = some (.int .i64 F.purses) ∧ x.cell? ⟨w.heap.size, 1, none⟩ = some (.int .i64 F.boxes) ∧ x.cell? ⟨w.heap.size, 2, none⟩ = some (.slice R.A1 F.stock.length R.c1) ∧ x.cell? ⟨w.heap.size, 3, none⟩ = some (.slice R.A2 F.cash.length R.c2) ∧ x.cell? ⟨w.heap.size, 4, none⟩ = some (.slice R.A3 F.bundles.length R.c3) ∧ x.cell? ⟨w.heap.size, 5, none⟩ = some (.int .i64 F.refund) ∧ x.cell? ⟨w.heap.size, 6, none⟩ = some (.int .i64 F.band) ∧ x.cell? ⟨w.heap.size, 7, none⟩ = some (.int .i64 F.hours)) (go_keep) (first
      | (go_at_call 18; go_must (refine (HC.out _ ?_).mono ?_; (first | exact Below.refl _ _ | exact Below.drew (Below.refl _ _) | exact below_drewN (Below.refl _ _) _); rintro e V ⟨rfl, bV⟩; obtain ⟨_, q0, q1, q2, q3, q4, q5, q6, q7⟩ := Row.cells8 (Row.below rFX bV zF))))
    have sV := bV.size
    have rFV := rFX.below bV zF
    have rCV := rCX.below bV rCX.lt
    have lV := lX.below (bV.mono hBX)
    have FV := FX.below (bV.mono hBX)
    clear n1 n2 n3 HC hN2
    go_upto_block 0 with (fail)
    go_cut [12] (fun s12 wx => UnCut l at_ V s12 wx)
    case first =>
      go_wp2_with fail
      go_loop [12] (fun i => ∃ k : Nat, k ≤ l.length ∧ i = .int .i64 k ∧ ∀ j, j < k → (getd l j).at_ ≤ at_) (fun i => l.length - (intOf i).toNat)
      case atStart => exact ⟨0, Nat.zero_le _, rfl, fun j h => absurd h (by omega)⟩
      case round =>
        obtain ⟨k, hk, rfl, hall⟩ := hrel
        have Hall := Lib.hid hall
        clear hall
        by_cases hgo : k < l.length ∧ (getd l k).at_ ≤ at_
        · obtain ⟨hlt, hat⟩ := hgo
          obtain ⟨b, o, rfl, hb, hc0, _⟩ := lV.at5 hlt
          have hlt' : (k : Int) < (l.length : Int) := by omega
          have Hn : Hid (∀ j, j < k + 1 → (getd l j).at_ ≤ at_) := fun j hj => by
            rcases Nat.lt_or_ge j k with h | h
            · exact Hall.out j h
            · have : j = k := by omega
              subst this; exact hat
          go_wp2_with fail
          go_round
          case rel => exact ⟨k + 1, by omega, by go_num, Hn.out⟩
          case measure => simp [intOf]; omega
        · have hN : Hid (untilN l at_ = k) := untilN_eq at_ l k hk Hall.out (by omega)
          by_cases hlt : k < l.length
          · have hat : at_ < (getd l k).at_ := by omega
            clear hgo
            obtain ⟨b, o, rfl, hb, hc0, _⟩ := lV.at5 hlt
            have hlt' : (k : Int) < (l.length : Int) := by omega
            go_wp2_with fail
            go_meet
            exact ⟨k, rfl, hk, hN.out, rfl⟩
          · have hge : ¬ (k : Int) < (l.length : Int) := by omega
            clear hgo
            go_wp2_with fail
            go_meet
            exact ⟨k, rfl, hk, hN.out, rfl⟩
    case rest =>
      obtain ⟨k, rfl, hk, hN, rfl⟩ := hcut
      have HN := Lib.hid hN
      clear hN
      go_wp2_with fail
      refine (Until_any F R l at_ A c X.heap.size _ (by omega) (FV.more hBX) (lV.more hBX) hn hc hcm).mono ?_
      rintro e w3 ⟨hb3, ⟨B1, d1, B2, d2, B3, d3, B4, d4⟩, rfl, hC3⟩
      rw [He.out]
      have EC : Hid (untilC F l at_ = playS F (l.take k)) := by show _ = _; rw [untilC, if_pos He.out, HN.out]
      rw [EC.out] at hC3 ⊢
      unfold countV
      dsimp only
      go_upto_region 14 with (fail)
      have bw3 : Below X.heap.size X w3 := below_step bV hb3
      have sw3 := bw3.size
      obtain ⟨V2, hV2⟩ : ∃ V2, V2 = w3.alloc (.cells #[.slice B1 (playS F (l.take k)).stock.length d1, .slice B2 (playS F (l.take k)).cash.length d2, .slice B3 (playS F (l.take k)).purses.length d3, .slice B4 (playS F (l.take k)).boxes.length d4, .int .i64 (playS F (l.take k)).lost] 35) := ⟨_, rfl⟩
      rw [← hV2]
      have sV2 : V2.heap.size = w3.heap.size + 1 := by subst hV2; simp
      have bV2 : Below X.heap.size X V2 := by subst hV2; exact bw3.alloc sw3 _
      have rF2 := rFX.below bV2 zF
      have rC2 := rCX.below bV2 rCX.lt
      have rU2 : Row V2 w3.heap.size 35 (countL (playS F (l.take k)) ⟨B1, d1, B2, d2, B3, d3, B4, d4⟩) := by subst hV2; exact row_new _ _ _ _ rfl
      have CU2 : CountIn V2 w3.heap.size (playS F (l.take k)) ⟨B1, d1, B2, d2, B3, d3, B4, d4⟩ := by subst hV2; exact hC3.keep fun p hp => World.cell?_alloc_lt w3 _ p hp
      have CC2 : CountIn V2 w1.heap.size (playS F l) ⟨A1, c1, A2, c2, A3, c3, A4, c4⟩ := CX.keep fun p hp => bV2.cell (by omega)
      have F2 := FX.below (bV2.mono hBX)
      have l2 := lX.below (bV2.mono hBX)
      have hB2 : B ≤ V2.heap.size := by omega
      have zF2 : w.heap.size < V2.heap.size := rF2.lt
      have HP : Hid (∀ x : World, Below V2.heap.size V2 x → Calls Try.prog 20 #[fairV F R, .slice A k c] x fun e w' => PlNew x F (l.take k) e w' ∧ Below V2.heap.size V2 w') := fun x hx => play_pre F R l k hk A c B V2 x hB2 F2 l2 hn hx
      have n1 : (0 : Int) ≤ (k : Int) := by omega
      have n2 : (k : Int) ≤ (c : Int) := by omega
      have n3 : k ≤ c := by omega
      have SV2 := Lib.hid sV2
      have sV3 : w3.heap.size < V2.heap.size := by omega
      clear hV2 hC3 q0 q1 q2 q3 q4 q5 q6 q7 sV2
      go_cut [14, 15] (fun s14 s15 wx => FreeMid V2 F (l.take k) s15 s14 wx)
      case first =>
        obtain ⟨_, q0, q1, q2, q3, q4, q5, q6, q7⟩ := Row.cells8 rF2
        have ne1 : ¬ V2.heap.size = w.heap.size := by omega
        have ne2 : ¬ w.heap.size = V2.heap.size := by omega
        go_region_held3 (fun x => x.cell? ⟨w.heap.size, 0, none⟩ = some (.int .i64 F.purses) ∧ x.cell? ⟨w.heap.size, 1, none⟩ = some (.int .i64 F.boxes) ∧ x.cell? ⟨w.heap.size, 2, none⟩ = some (.slice R.A1 F.stock.length R.c1) ∧ x.cell? ⟨w.heap.size, 3, none⟩ = some (.slice R.A2 F.cash.length R.c2) ∧ x.cell? ⟨w.heap.size, 4, none⟩ = some (.slice R.A3 F.bundles.length R.c3) ∧ x.cell? ⟨w.heap.size, 5, none⟩ = some (.int .i64 F.refund) ∧ x.cell? ⟨w.heap.size, 6, none⟩ = some (.int .i64 F.band) ∧ x.cell? ⟨w.heap.size, 7, none⟩ = some (.int .i64 F.hours)) (go_keep) (first
          | (go_at_call 20; go_must (refine (HP.out _ ?_).mono ?_; (first | exact Below.refl _ _ | exact Below.drew (Below.refl _ _) | exact below_drewN (Below.refl _ _) _ | exact Below.alloc (Below.refl _ _) (Nat.le_refl _) _ | exact Below.drew (Below.alloc (Below.refl _ _) (Nat.le_refl _) _) | exact below_drewN (Below.alloc (Below.refl _ _) (Nat.le_refl _) _) _); rintro e x3 ⟨⟨hb4, ⟨G1, g1, G2, g2, G3, g3, G4, g4⟩, rfl, hC4, hf4⟩, bx3⟩; obtain ⟨_, q0, q1, q2, q3, q4, q5, q6, q7⟩ := Row.cells8 (Row.below rF2 bx3 zF2); (first | (have rz : Row x3 V2.heap.size 35 zeroC.toList := Row.below (row_new V2 _ zeroC _ rfl) hb4 (alloc_lt _ _); obtain ⟨fz, z0, z1, z2, z3, z4⟩ := Row.at_5 rz) | (have rz : Row x3 V2.heap.size 35 zeroC.toList := Row.below (Row.drew (row_new V2 _ zeroC _ rfl)) hb4 (alloc_lt' _ _); obtain ⟨fz, z0, z1, z2, z3, z4⟩ := Row.at_5 rz) | (have rz : Row x3 V2.heap.size 35 zeroC.toList := Row.below (row_new V2.drew _ zeroC _ rfl) hb4 (alloc_lt _ _); obtain ⟨fz, z0, z1, z2, z3, z4⟩ := Row.at_5 rz) | skip))))
        all_goals
          go_wp2_with fail
          go_meet
          refine ⟨_, ⟨G1, g1, G2, g2, G3, g3, G4, g4⟩, rfl, rfl, ?_, ?_, ?_, ?_⟩
          · first | (with_reducible exact Nat.le_refl _) | (with_reducible exact bx3.size)
          · first | (with_reducible exact Below.alloc bx3 bx3.size _) | (with_reducible exact below5 bx3 (Nat.le_refl _))
          · first | (with_reducible exact countA hC4 _) | (with_reducible exact count5 hC4 hf4 (alloc_lt' _ _))
          · first | (with_reducible exact row5) | (with_reducible exact set5 rz)
      case rest =>
        obtain ⟨g, ⟨G1, g1, G2, g2, G3, g3, G4, g4⟩, e15, e14, hg, bM, hC4, rM⟩ := hcut
        rw [begin_ok He.out] at e15
        subst e15
        subst e14
        dsimp only at rM
        have sM := bM.size
        have rFM := rF2.below bM zF2
        have rCM := rC2.below bM rC2.lt
        have rUM := rU2.below bM rU2.lt
        have CUM := CU2.keep (w' := wc) fun p hp => bM.cell (by omega)
        have CCM := CC2.keep (w' := wc) fun p hp => bM.cell (by omega)
        have FM := F2.below (bM.mono hB2)
        have lM := l2.below (bM.mono hB2)
        obtain ⟨_, x0, x1, x2, x3, x4⟩ := Row.at_5 rUM
        obtain ⟨_, y0, y1, y2, y3, y4⟩ := Row.at_5 rM
        go_wp2_with fail
        refine (sameCount_same (playS F (l.take k)) ⟨B1, d1, B2, d2, B3, d3, B4, d4⟩ ⟨G1, g1, G2, g2, G3, g3, G4, g4⟩ _ wc.heap.size (Nat.le_refl _) (CUM.more (by omega)) hC4).mono ?_
        rintro e w5 ⟨rfl, hb5⟩
        have s5 := hb5.size
        have rF5 := rFM.below hb5 rFM.lt
        have rC5 := rCM.below hb5 rCM.lt
        have C5 := CCM.keep (w' := w5) fun p hp => hb5.cell (by omega)
        have bM0 := below_step bV2 bM
        have b5 := below_step bM0 hb5
        have F5 := FX.below (b5.mono hBX)
        have l5 := lX.below (b5.mono hBX)
        clear x0 x1 x2 x3 x4 y0 y1 y2 y3 y4
        obtain ⟨_, x0, x1, x2, x3, x4⟩ := Row.at_5 rC5
        obtain ⟨_, q0, q1, q2, q3, q4, q5, q6, q7⟩ := Row.cells8 rF5
        go_wp2_with fail
        refine (audit_C (K := ⟨A1, c1, A2, c2, A3, c3, A4, c4⟩) He.out (by omega) F5 l5 hn (C5.more (by omega))).mono ?_
        rintro e w6 ⟨hb6, D1, f1, D2, f2, D3, f3, rfl, _, _, _⟩
        have s6 := hb6.size
        have rF6 := rF5.below hb6 rF5.lt
        have rC6 := rC5.below hb6 rC5.lt
        have C6 := C5.keep (w' := w6) fun p hp => hb6.cell (by omega)
        have b6X := below_step b5 hb6
        have F6 := FX.below (b6X.mono hBX)
        have l6 := lX.below (b6X.mono hBX)
        have hB6 : B ≤ w6.heap.size := by omega
        have zF6 : w.heap.size < w6.heap.size := rF6.lt
        have b6 : Below w.heap.size w w6 := below_step bX b6X
        obtain ⟨v1, v2, v3, v4⟩ : (playS F l).stock.length ≤ 1000 ∧ (playS F l).cash.length ≤ 1000 ∧ (playS F l).purses.length ≤ 1000 ∧ (playS F l).boxes.length ≤ 1000 := by
          have hw := went He.out
          have hb0 := bounds_of hw.val
          rw [hw.inv.n1, hw.inv.n2, hw.inv.n3, hw.inv.n4]
          have := hb0.s2; have := hb0.p2; have := hb0.x2
          omega
        clear x0 x1 x2 x3 x4 q0 q1 q2 q3 q4 q5 q6 q7
        go_wp2_with fail
        go_loopw [19] (fun i wr => ∃ k : Nat, k ≤ (playS F l).cash.length ∧ i = .int .i64 k ∧ Below w6.heap.size w6 wr) (fun i _ => (playS F l).cash.length - (intOf i).toNat)
        case atStart => exact ⟨0, Nat.zero_le _, rfl, Below.refl _ _⟩
        case round =>
          obtain ⟨k, hk, rfl, hbk⟩ := hrel
          have sk := hbk.size
          have rFk := rF6.below hbk zF6
          have rCk := rC6.below hbk rC6.lt
          have Ck := C6.keep (w' := wr) fun p hp => hbk.cell (by omega)
          obtain ⟨_, x0, x1, x2, x3, x4⟩ := Row.at_5 rCk
          by_cases hlt : k < (playS F l).cash.length
          · have hlt' : (k : Int) < ((playS F l).cash.length : Int) := by omega
            go_wp2_with fail
            refine (rCopy_any (playS F l) ⟨A1, c1, A2, c2, A3, c3, A4, c4⟩ wr w1.heap.size (by omega) Ck v1 v2 v3 v4).mono ?_
            rintro e y ⟨hby, ⟨E1, e1, E2, e2, E3, e3, E4, e4⟩, rfl, hO⟩
            have sy := hby.size
            clear x0 x1 x2 x3 x4
            unfold countV
            dsimp only
            go_upto_region 24 with (fail)
            obtain ⟨V, hV⟩ : ∃ V, V = y.alloc (.cells #[.slice E1 (playS F l).stock.length e1, .slice E2 (playS F l).cash.length e2, .slice E3 (playS F l).purses.length e3, .slice E4 (playS F l).boxes.length e4, .int .i64 (playS F l).lost] 35) := ⟨_, rfl⟩
            rw [← hV]
            have sV' : y.heap.size < V.heap.size := by subst hV; simp
            have bV' : Below wr.heap.size wr V := by subst hV; exact hby.alloc sy _
            have rO : Row V y.heap.size 35 (countL (playS F l) ⟨E1, e1, E2, e2, E3, e3, E4, e4⟩) := by subst hV; exact row_new _ _ _ _ rfl
            have hO2 : Own4 V wr.heap.size (playS F l) ⟨E1, e1, E2, e2, E3, e3, E4, e4⟩ := by subst hV; exact hO.alloc _
            have hlow : ∀ b o, E2 = some ⟨b, o, none⟩ → wr.heap.size ≤ b ∧ b < y.heap.size := by
              obtain ⟨M1, M2, M3, m0, m1, m2, m3, L1, L2, L3, L4⟩ := hO.sep
              intro b o e
              have := L2 b o e
              omega
            clear hV hO
            obtain ⟨b, o, hE, _, hcc⟩ := hO2.inn.s2.at1 hlt
            dsimp only at hE
            subst hE
            have hck : V.cell? ⟨b, o + k, none⟩ = some (.int .i64 (geti (playS F l).cash k)) := hcc k hlt
            clear hcc
            obtain ⟨hbl, hbh⟩ := hlow b o rfl
            have hfz : ∀ j, V.frozen? ⟨b, j, none⟩ = false := hO2.f2 b o rfl
            obtain ⟨_, x0, x1, x2, x3, x4⟩ := Row.at_5 rO
            go_upto_region 25 with (fail)
            obtain ⟨U, hU⟩ : ∃ U, U = V.setCell ⟨b, o + k, none⟩ (.int .i64 (wrap64 (geti (playS F l).cash k + 1))) := ⟨_, rfl⟩
            rw [← hU]
            have sU : U.heap.size = V.heap.size := by subst hU; simp [World.setCell]
            have bU : Below wr.heap.size wr U := by subst hU; exact bV'.setCell hbl _
            have rOU : Row U y.heap.size 35 (countL (playS F l) ⟨E1, e1, some ⟨b, o, none⟩, e2, E3, e3, E4, e4⟩) := by subst hU; exact rO.far (by dsimp only; omega) _
            have hD : CountIn U U.heap.size (otT (playS F l) k) ⟨E1, e1, some ⟨b, o, none⟩, e2, E3, e3, E4, e4⟩ := by subst hU; exact (own_T hO2 rfl k hlt).more (by simp [World.setCell])
            have rFU := rFk.below bU rFk.lt
            clear hU x0 x1 x2 x3 x4 hck hO2
            have bU6 := below_step hbk bU
            have FU := F6.below (bU6.mono hB6)
            have lU := l6.below (bU6.mono hB6)
            have hBU : B ≤ U.heap.size := by have := bU6.size; omega
            have HU := Lib.hid sU
            clear sU
            obtain ⟨_, x0, x1, x2, x3, x4⟩ := Row.at_5 rOU
            obtain ⟨_, q0, q1, q2, q3, q4, q5, q6, q7⟩ := Row.cells8 rFU
            go_wp2_with fail
            refine (audit_T (K := ⟨E1, e1, some ⟨b, o, none⟩, e2, E3, e3, E4, e4⟩) He.out hBU FU lU hn k hlt hD).mono ?_
            rintro e y2 ⟨hb7, D1, f1, D2, f2, D3, f3, rfl, hr, _, _⟩
            have hr' : Reads y2 y2.heap.size 1 D1 1 (intCells [(k : Int)]) := by first | exact hr | exact hr rfl | exact hr trivial | exact hr rfl trivial | exact hr trivial rfl
            have b72 := below_step bU6 hb7
            clear x0 x1 x2 x3 x4 q0 q1 q2 q3 q4 q5 q6 q7
            go_wp2_with fail
            refine (sameInts_any [(k : Int)] [(k : Int)] D1 (some ⟨y2.heap.size, 0, none⟩) 1 1 f1 1 y2.heap.size (y2.heap.size + 1) _ (hr'.alloc (Nat.le_refl _) _) ((row_new y2 3 #[.int .i64 k] _ rfl).reads rfl (by omega)) (by unfold maxLen; omega) (by unfold maxLen; omega)).mono ?_
            rintro e y3 ⟨rfl, hk3⟩
            have b73 : Below w6.heap.size w6 y3 := (b72.alloc b72.size _).trans (hk3.to_below (by have := b72.size; simp; omega) (by simp))
            go_wp2_with fail
            go_roundw
            case rel => exact ⟨k + 1, by omega, by go_num, b73⟩
            case measure => simp [intOf]; omega
          · have hge : ¬ (k : Int) < ((playS F l).cash.length : Int) := by omega
            clear hlt
            go_wp2_with fail
            go_loopw [25] (fun i wr => ∃ k : Nat, k ≤ (playS F l).purses.length ∧ i = .int .i64 k ∧ Below w6.heap.size w6 wr) (fun i _ => (playS F l).purses.length - (intOf i).toNat)
            case atStart => exact ⟨0, Nat.zero_le _, rfl, hbk⟩
            case round =>
              obtain ⟨k, hk, rfl, hbk⟩ := hrel
              have sk := hbk.size
              have rFk := rF6.below hbk zF6
              have rCk := rC6.below hbk rC6.lt
              have Ck := C6.keep (w' := wr) fun p hp => hbk.cell (by omega)
              obtain ⟨_, x0, x1, x2, x3, x4⟩ := Row.at_5 rCk
              by_cases hlt : k < (playS F l).purses.length
              · have hlt' : (k : Int) < ((playS F l).purses.length : Int) := by omega
                go_wp2_with fail
                refine (rCopy_any (playS F l) ⟨A1, c1, A2, c2, A3, c3, A4, c4⟩ wr w1.heap.size (by omega) Ck v1 v2 v3 v4).mono ?_
                rintro e y ⟨hby, ⟨E1, e1, E2, e2, E3, e3, E4, e4⟩, rfl, hO⟩
                have sy := hby.size
                clear x0 x1 x2 x3 x4
                unfold countV
                dsimp only
                go_upto_region 32 with (fail)
                obtain ⟨V, hV⟩ : ∃ V, V = y.alloc (.cells #[.slice E1 (playS F l).stock.length e1, .slice E2 (playS F l).cash.length e2, .slice E3 (playS F l).purses.length e3, .slice E4 (playS F l).boxes.length e4, .int .i64 (playS F l).lost] 35) := ⟨_, rfl⟩
                rw [← hV]
                have sV' : y.heap.size < V.heap.size := by subst hV; simp
                have bV' : Below wr.heap.size wr V := by subst hV; exact hby.alloc sy _
                have rO : Row V y.heap.size 35 (countL (playS F l) ⟨E1, e1, E2, e2, E3, e3, E4, e4⟩) := by subst hV; exact row_new _ _ _ _ rfl
                have hO2 : Own4 V wr.heap.size (playS F l) ⟨E1, e1, E2, e2, E3, e3, E4, e4⟩ := by subst hV; exact hO.alloc _
                have hlow : ∀ b o, E3 = some ⟨b, o, none⟩ → wr.heap.size ≤ b ∧ b < y.heap.size := by
                  obtain ⟨M1, M2, M3, m0, m1, m2, m3, L1, L2, L3, L4⟩ := hO.sep
                  intro b o e
                  have := L3 b o e
                  omega
                clear hV hO
                obtain ⟨b, o, hE, _, _, hck⟩ := hO2.inn.s3.at3 hlt
                dsimp only at hE
                subst hE
                obtain ⟨hbl, hbh⟩ := hlow b o rfl
                have hfz : ∀ j, V.frozen? ⟨b, j, none⟩ = false := hO2.f3 b o rfl
                obtain ⟨_, x0, x1, x2, x3, x4⟩ := Row.at_5 rO
                go_upto_region 33 with (fail)
                obtain ⟨U, hU⟩ : ∃ U, U = V.setCell ⟨b, o + k * 2 + 1, none⟩ (.int .i64 (wrap64 ((getp (playS F l).purses k).til - 1))) := ⟨_, rfl⟩
                rw [← hU]
                have sU : U.heap.size = V.heap.size := by subst hU; simp [World.setCell]
                have bU : Below wr.heap.size wr U := by subst hU; exact bV'.setCell hbl _
                have rOU : Row U y.heap.size 35 (countL (playS F l) ⟨E1, e1, E2, e2, some ⟨b, o, none⟩, e3, E4, e4⟩) := by subst hU; exact rO.far (by dsimp only; omega) _
                have hD : CountIn U U.heap.size (otP (playS F l) k) ⟨E1, e1, E2, e2, some ⟨b, o, none⟩, e3, E4, e4⟩ := by subst hU; exact (own_P hO2 rfl k hlt).more (by simp [World.setCell])
                have rFU := rFk.below bU rFk.lt
                clear hU x0 x1 x2 x3 x4 hck hO2
                have bU6 := below_step hbk bU
                have FU := F6.below (bU6.mono hB6)
                have lU := l6.below (bU6.mono hB6)
                have hBU : B ≤ U.heap.size := by have := bU6.size; omega
                have HU := Lib.hid sU
                clear sU
                obtain ⟨_, x0, x1, x2, x3, x4⟩ := Row.at_5 rOU
                obtain ⟨_, q0, q1, q2, q3, q4, q5, q6, q7⟩ := Row.cells8 rFU
                go_wp2_with fail
                refine (audit_P (K := ⟨E1, e1, E2, e2, some ⟨b, o, none⟩, e3, E4, e4⟩) He.out hBU FU lU hn k hlt hD).mono ?_
                rintro e y2 ⟨hb7, D1, f1, D2, f2, D3, f3, rfl, _, hr, _⟩
                have hr' : Reads y2 y2.heap.size 1 D2 1 (intCells [(k : Int)]) := by first | exact hr | exact hr rfl | exact hr trivial | exact hr rfl trivial | exact hr trivial rfl
                have b72 := below_step bU6 hb7
                clear x0 x1 x2 x3 x4 q0 q1 q2 q3 q4 q5 q6 q7
                go_wp2_with fail
                refine (sameInts_any [(k : Int)] [(k : Int)] D2 (some ⟨y2.heap.size, 0, none⟩) 1 1 f2 1 y2.heap.size (y2.heap.size + 1) _ (hr'.alloc (Nat.le_refl _) _) ((row_new y2 3 #[.int .i64 k] _ rfl).reads rfl (by omega)) (by unfold maxLen; omega) (by unfold maxLen; omega)).mono ?_
                rintro e y3 ⟨rfl, hk3⟩
                have b73 : Below w6.heap.size w6 y3 := (b72.alloc b72.size _).trans (hk3.to_below (by have := b72.size; simp; omega) (by simp))
                go_wp2_with fail
                go_roundw
                case rel => exact ⟨k + 1, by omega, by go_num, b73⟩
                case measure => simp [intOf]; omega
              · have hge : ¬ (k : Int) < ((playS F l).purses.length : Int) := by omega
                clear hlt
                go_wp2_with fail
                go_loopw [31] (fun i wr => ∃ k : Nat, k ≤ (playS F l).boxes.length ∧ i = .int .i64 k ∧ Below w6.heap.size w6 wr) (fun i _ => (playS F l).boxes.length - (intOf i).toNat)
                case atStart => exact ⟨0, Nat.zero_le _, rfl, hbk⟩
                case round =>
                  obtain ⟨k, hk, rfl, hbk⟩ := hrel
                  have sk := hbk.size
                  have rFk := rF6.below hbk zF6
                  have rCk := rC6.below hbk rC6.lt
                  have Ck := C6.keep (w' := wr) fun p hp => hbk.cell (by omega)
                  obtain ⟨_, x0, x1, x2, x3, x4⟩ := Row.at_5 rCk
                  by_cases hlt : k < (playS F l).boxes.length
                  · have hlt' : (k : Int) < ((playS F l).boxes.length : Int) := by omega
                    go_wp2_with fail
                    refine (rCopy_any (playS F l) ⟨A1, c1, A2, c2, A3, c3, A4, c4⟩ wr w1.heap.size (by omega) Ck v1 v2 v3 v4).mono ?_
                    rintro e y ⟨hby, ⟨E1, e1, E2, e2, E3, e3, E4, e4⟩, rfl, hO⟩
                    have sy := hby.size
                    clear x0 x1 x2 x3 x4
                    unfold countV
                    dsimp only
                    go_upto_region 40 with (fail)
                    obtain ⟨V, hV⟩ : ∃ V, V = y.alloc (.cells #[.slice E1 (playS F l).stock.length e1, .slice E2 (playS F l).cash.length e2, .slice E3 (playS F l).purses.length e3, .slice E4 (playS F l).boxes.length e4, .int .i64 (playS F l).lost] 35) := ⟨_, rfl⟩
                    rw [← hV]
                    have sV' : y.heap.size < V.heap.size := by subst hV; simp
                    have bV' : Below wr.heap.size wr V := by subst hV; exact hby.alloc sy _
                    have rO : Row V y.heap.size 35 (countL (playS F l) ⟨E1, e1, E2, e2, E3, e3, E4, e4⟩) := by subst hV; exact row_new _ _ _ _ rfl
                    have hO2 : Own4 V wr.heap.size (playS F l) ⟨E1, e1, E2, e2, E3, e3, E4, e4⟩ := by subst hV; exact hO.alloc _
                    have hlow : ∀ b o, E4 = some ⟨b, o, none⟩ → wr.heap.size ≤ b ∧ b < y.heap.size := by
                      obtain ⟨M1, M2, M3, m0, m1, m2, m3, L1, L2, L3, L4⟩ := hO.sep
                      intro b o e
                      have := L4 b o e
                      omega
                    clear hV hO
                    obtain ⟨b, o, hE, _, hcc⟩ := hO2.inn.s4.at1 hlt
                    dsimp only at hE
                    subst hE
                    have hck : V.cell? ⟨b, o + k, none⟩ = some (.int .i64 (geti (playS F l).boxes k)) := hcc k hlt
                    clear hcc
                    obtain ⟨hbl, hbh⟩ := hlow b o rfl
                    have hfz : ∀ j, V.frozen? ⟨b, j, none⟩ = false := hO2.f4 b o rfl
                    obtain ⟨_, x0, x1, x2, x3, x4⟩ := Row.at_5 rO
                    go_upto_region 41 with (fail)
                    obtain ⟨U, hU⟩ : ∃ U, U = V.setCell ⟨b, o + k, none⟩ (.int .i64 (wrap64 (geti (playS F l).boxes k - 1))) := ⟨_, rfl⟩
                    rw [← hU]
                    have sU : U.heap.size = V.heap.size := by subst hU; simp [World.setCell]
                    have bU : Below wr.heap.size wr U := by subst hU; exact bV'.setCell hbl _
                    have rOU : Row U y.heap.size 35 (countL (playS F l) ⟨E1, e1, E2, e2, E3, e3, some ⟨b, o, none⟩, e4⟩) := by subst hU; exact rO.far (by dsimp only; omega) _
                    have hD : CountIn U U.heap.size (otB (playS F l) k) ⟨E1, e1, E2, e2, E3, e3, some ⟨b, o, none⟩, e4⟩ := by subst hU; exact (own_B hO2 rfl k hlt).more (by simp [World.setCell])
                    have rFU := rFk.below bU rFk.lt
                    clear hU x0 x1 x2 x3 x4 hck hO2
                    have bU6 := below_step hbk bU
                    have FU := F6.below (bU6.mono hB6)
                    have lU := l6.below (bU6.mono hB6)
                    have hBU : B ≤ U.heap.size := by have := bU6.size; omega
                    have HU := Lib.hid sU
                    clear sU
                    obtain ⟨_, x0, x1, x2, x3, x4⟩ := Row.at_5 rOU
                    obtain ⟨_, q0, q1, q2, q3, q4, q5, q6, q7⟩ := Row.cells8 rFU
                    go_wp2_with fail
                    refine (audit_B (K := ⟨E1, e1, E2, e2, E3, e3, some ⟨b, o, none⟩, e4⟩) He.out hBU FU lU hn k hlt hD).mono ?_
                    rintro e y2 ⟨hb7, D1, f1, D2, f2, D3, f3, rfl, _, _, hr⟩
                    have hr' : Reads y2 y2.heap.size 1 D3 1 (intCells [(k : Int)]) := by first | exact hr | exact hr rfl | exact hr trivial | exact hr rfl trivial | exact hr trivial rfl
                    have b72 := below_step bU6 hb7
                    clear x0 x1 x2 x3 x4 q0 q1 q2 q3 q4 q5 q6 q7
                    go_wp2_with fail
                    refine (sameInts_any [(k : Int)] [(k : Int)] D3 (some ⟨y2.heap.size, 0, none⟩) 1 1 f3 1 y2.heap.size (y2.heap.size + 1) _ (hr'.alloc (Nat.le_refl _) _) ((row_new y2 3 #[.int .i64 k] _ rfl).reads rfl (by omega)) (by unfold maxLen; omega) (by unfold maxLen; omega)).mono ?_
                    rintro e y3 ⟨rfl, hk3⟩
                    have b73 : Below w6.heap.size w6 y3 := (b72.alloc b72.size _).trans (hk3.to_below (by have := b72.size; simp; omega) (by simp))
                    go_wp2_with fail
                    go_roundw
                    case rel => exact ⟨k + 1, by omega, by go_num, b73⟩
                    case measure => simp [intOf]; omega
                  · have hge : ¬ (k : Int) < ((playS F l).boxes.length : Int) := by omega
                    clear hlt
                    go_wp2_with fail
                    refine (works_any _).mono ?_
                    rintro e w9 ⟨rfl, hb9⟩
                    go_wp2_with fail
                    go_ret
                    exact ⟨rfl, below_step (below_step b6 hbk) hb9⟩
end Go.Proofs.Ytjijjeboemonfaa
