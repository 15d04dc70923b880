/- The specification's sum, and plain words for its account: what a ride leaves in the boxes. Conditions: the slice reads as a list. -/
import Derived.Test.YtonbaikdpcmbiaaVd
import Derived.Test.YtonbaikdpcmbiaaWy
/- Contracts of the specification's Play and Until. Conditions: the arguments read as data; for Until the slice is no longer than its capacity. -/
/- Contract of the specification's CheckDeals. Conditions: the arguments read as data. -/
namespace Go.Proofs.Ytonbaikdpcmbiaa
open Go.RowKit

set_option maxHeartbeats 4000000 in
set_option maxRecDepth 100000 in
theorem rCheckDeals_any (F : Fair) (R : Refs) (l : List Deal) (A : Option Addr) (c B : Nat) (w : World) (hB : B ≤ w.heap.size) (hF : FairIn w B F R) (hl : Reads w B 5 A l.length (dealCells l)) (hn : l.length ≤ maxLen) :
    Calls Try.prog 19 #[fairV F R, .slice A l.length c] w fun e w' => e = .returned (.tuple #[.int .i64 (atS F l), .int .i64 (errS F l)]) ∧ Below w.heap.size w w' := by
  unfold maxLen at hn
  obtain ⟨S1, k1, S2, k2, S3, k3⟩ := R
  obtain ⟨W, hW⟩ : ∃ W, W = w.alloc (.cells (fairCells F ⟨S1, k1, S2, k2, S3, k3⟩) 25) := ⟨_, rfl⟩
  have sW : W.heap.size = w.heap.size + 1 := by subst hW; simp
  have bW : Below w.heap.size w W := by subst hW; exact (Below.refl _ _).alloc (Nat.le_refl _) _
  have rF : Row W w.heap.size 25 [.int .i64 F.purses, .int .i64 F.boxes, .slice S1 F.stock.length k1, .slice S2 F.cash.length k2, .slice S3 F.bundles.length k3, .int .i64 F.refund, .int .i64 F.band, .int .i64 F.hours] := by subst hW; exact row_new _ _ _ _ rfl
  unfold fairV
  dsimp only
  go_enter Try.func19, Try.ntmps19
  go_wp2_with fail
  rw [← hW]
  clear hW
  refine (rCheck_any F ⟨S1, k1, S2, k2, S3, k3⟩ W B (by omega) (hF.below (bW.mono hB))).mono ?_
  rintro e w1 ⟨rfl, hb1⟩
  have b1 := below_step bW hb1
  have s1 := hb1.size
  replace rF := rF.below hb1 rF.lt
  cases hv : validB F with
  | false =>
    have Hq : Hid (errS F l = 10 ∧ atS F l = 0) := by show _ ∧ _; simp [atS, errS, hv]
    have he : chkE F = 10 := by simp [chkE, hv]
    rw [he]
    go_wp2_with fail
    refine bodyPost_ret (v := .tuple #[.int .i64 0, .int .i64 10]) (by simp [results, Try.results19, go_sem, *]) rfl ?_
    exact ⟨by rw [Hq.out.1, Hq.out.2], b1⟩
  | true =>
    have he : chkE F = 0 := by simp [chkE, hv]
    rw [he]
    rcases Nat.lt_or_ge 200 l.length with h200 | h200
    · have Hq : Hid (errS F l = 2 ∧ atS F l = 0) := by show _ ∧ _; simp [atS, errS, hv, h200]
      have h200' : (200 : Int) < (l.length : Int) := by omega
      go_wp2_with fail
      refine bodyPost_ret (v := .tuple #[.int .i64 0, .int .i64 2]) (by simp [results, Try.results19, go_sem, *]) rfl ?_
      exact ⟨by rw [Hq.out.1, Hq.out.2], b1⟩
    · have h200' : (l.length : Int) ≤ 200 := by omega
      obtain ⟨_, q0, q1, q2, q3, q4, q5, q6, q7⟩ := Row.cells8 rF
      go_wp2_with fail
      refine (rBegin_any F ⟨S1, k1, S2, k2, S3, k3⟩ w1 B (by omega) (hF.below (b1.mono hB)) hv).mono ?_
      rintro e w2 ⟨hb2, ⟨E1, e1, E2, e2, E3, e3, E4, e4⟩, rfl, hC0, hf0⟩
      have b2 := below_step b1 hb2
      have s2 := hb2.size
      replace rF := rF.below hb2 rF.lt
      unfold countV
      dsimp only
      clear q0 q1 q2 q3 q4 q5 q6 q7
      go_wp2_with fail
      obtain ⟨V0, hV0⟩ : ∃ V0, V0 = w2.alloc (.cells #[.slice E1 (beginS F).stock.length e1, .slice E2 (beginS F).cash.length e2, .slice E3 (beginS F).purses.length e3, .slice E4 (beginS F).boxes.length e4, .int .i64 (beginS F).lost] 35) := ⟨_, rfl⟩
      rw [← hV0]
      have sV0 : V0.heap.size = w2.heap.size + 1 := by subst hV0; simp
      have bV0 : Below w.heap.size w V0 := by subst hV0; exact b2.alloc b2.size _
      have rFV0 : Row V0 w.heap.size 25 [.int .i64 F.purses, .int .i64 F.boxes, .slice S1 F.stock.length k1, .slice S2 F.cash.length k2, .slice S3 F.bundles.length k3, .int .i64 F.refund, .int .i64 F.band, .int .i64 F.hours] := by subst hV0; exact rF.alloc _
      have rC0 : Row V0 w2.heap.size 35 (countL (beginS F) ⟨E1, e1, E2, e2, E3, e3, E4, e4⟩) := by subst hV0; exact row_new _ _ _ _ rfl
      have hCV0 : CountIn V0 V0.heap.size (beginS F) ⟨E1, e1, E2, e2, E3, e3, E4, e4⟩ := by subst hV0; exact countAl hC0 _
      have hO0 : Off w2.heap.size (beginS F) ⟨E1, e1, E2, e2, E3, e3, E4, e4⟩ := off_lt hC0 (Nat.le_refl _)
      have h0 : goS F l 0 = some (beginS F, 0) := by simp [goS, runS]
      have zw : w.heap.size < w2.heap.size := by omega
      clear hV0 hb1 hb2 rF b1 b2 hf0
      go_loopw [8, 9] (fun la i wr => ∃ (k : Nat) (C : Count) (t : Int) (K : CRefs), k ≤ l.length ∧ i = .int .i64 k ∧ la = .int .i64 t ∧ goS F l k = some (C, t) ∧ KeptBut [w2.heap.size] V0 wr ∧ Row wr w2.heap.size 35 (countL C K) ∧ CountIn wr wr.heap.size C K ∧ Off w2.heap.size C K) (fun _ i _ => l.length - (intOf i).toNat)
      case atStart => exact ⟨0, beginS F, 0, _, Nat.zero_le _, rfl, rfl, h0, KeptBut.refl _ _, rC0, hCV0, hO0⟩
      case round =>
        obtain ⟨k, C, t, K, hk, rfl, rfl, hgo, hkp, rC, hC, hoff⟩ := hrel
        have Hgo := Lib.hid hgo
        have rFr := rFV0.kept hkp (by simp; omega)
        have sr := hkp.size
        have br : Below w.heap.size w wr := bV0.trans (hkp.to_below (by omega) (by simp; omega))
        by_cases hlt : k < l.length
        case neg =>
          have ek : k = l.length := by omega
          have Hq : Hid (errS F l = 0 ∧ atS F l = 0) := by
            have h2 : ¬ 200 < l.length := by omega
            rw [ek] at hgo
            show _ ∧ _
            simp [atS, errS, hv, h2, hgo]
          have hge : ¬ (k : Int) < (l.length : Int) := by omega
          clear hgo ek
          go_wp2_with fail
          refine bodyPost_ret (v := .tuple #[.int .i64 0, .int .i64 0]) (by simp [results, Try.results19, go_sem, *]) rfl ?_
          exact ⟨by rw [Hq.out.1, Hq.out.2], br⟩
        have hlt' : (k : Int) < (l.length : Int) := by omega
        have hfit : Fit F C := Bounds.fit hv h200 hgo
        have Fr := hF.below (br.mono hB)
        have lr := hl.below (br.mono hB)
        obtain ⟨b, o, rfl, hb, d0, d1, d2, d3, d4⟩ := lr.at5 hlt
        obtain ⟨K1, m1, K2, m2, K3, m3, K4, m4⟩ := K
        obtain ⟨_, q0, q1, q2, q3, q4, q5, q6, q7⟩ := Row.cells8 rFr
        replace rC : Row wr w2.heap.size 35 [.slice K1 C.stock.length m1, .slice K2 C.cash.length m2, .slice K3 C.purses.length m3, .slice K4 C.boxes.length m4, .int .i64 C.lost] := rC
        have zC2 := rC.lt
        obtain ⟨_, y0, y1, y2, y3, y4⟩ := Row.at_5 rC
        have zb : b < wr.heap.size := by omega
        clear hgo lr
        go_upto_region 11 with (fail)
        have zF2 : w.heap.size < wr.heap.size := rFr.lt
        have HS : Hid (∀ x : World, Below wr.heap.size wr x → Calls Try.prog 48 #[fairV F ⟨S1, k1, S2, k2, S3, k3⟩, countV C ⟨K1, m1, K2, m2, K3, m3, K4, m4⟩, dealV (getd l k)] x fun e x' => RPost x C ⟨K1, m1, K2, m2, K3, m3, K4, m4⟩ (stepS F C (getd l k)) e x' ∧ Below wr.heap.size wr x') := fun x hx => (rStep_any F ⟨S1, k1, S2, k2, S3, k3⟩ C ⟨K1, m1, K2, m2, K3, m3, K4, m4⟩ (getd l k) wr.heap.size x hx.size ((Fr.more (by omega)).below hx) (hC.keep fun p hp => hx.cell hp) hfit).mono fun _ _ h => ⟨h, below_step hx h.1⟩
        go_cut [10, 11] (fun s10 s11 wx => SMid wr C (stepS F C (getd l k)) s10 s11 wx)
        case first =>
          have ne1 : ¬ wr.heap.size = w.heap.size := by omega
          have ne2 : ¬ w.heap.size = wr.heap.size := by omega
          have ne3 : ¬ wr.heap.size = w2.heap.size := by omega
          have ne4 : ¬ w2.heap.size = wr.heap.size := by omega
          have ne5 : ¬ wr.heap.size = b := by omega
          have ne6 : ¬ b = wr.heap.size := by omega
          cases hst : stepS F C (getd l k) with
          | none =>
            rw [hst] at HS
            go_region_held3 (fun x => x.cell? ⟨w.heap.size, 0, none⟩ = some (.int .i64 F.purses) ∧ x.cell? ⟨w.heap.size, 1, none⟩ = some (.int .i64 F.boxes) ∧ x.cell? ⟨w.heap.size, 2, none⟩ = some (.slice S1 F.stock.length k1) ∧ x.cell? ⟨w.heap.size, 3, none⟩ = some (.slice S2 F.cash.length k2) ∧ x.cell? ⟨w.heap.size, 4, none⟩ = some (.slice S3 F.bundles.length k3) ∧ x.cell? ⟨w.heap.size, 5, none⟩ = some (.int .i64 F.refund) ∧ x.cell? ⟨w.heap.size, 6, none⟩ = some (.int .i64 F.band) ∧ x.cell? ⟨w.heap.size, 7, none⟩ = some (.int .i64 F.hours) ∧ x.cell? ⟨w2.heap.size, 0, none⟩ = some (.slice K1 C.stock.length m1) ∧ x.cell? ⟨w2.heap.size, 1, none⟩ = some (.slice K2 C.cash.length m2) ∧ x.cell? ⟨w2.heap.size, 2, none⟩ = some (.slice K3 C.purses.length m3) ∧ x.cell? ⟨w2.heap.size, 3, none⟩ = some (.slice K4 C.boxes.length m4) ∧ x.cell? ⟨w2.heap.size, 4, none⟩ = some (.int .i64 C.lost) ∧ x.cell? ⟨b, o + k * 5, none⟩ = some (.int .i64 (getd l k).at_) ∧ x.cell? ⟨b, o + k * 5 + 1, none⟩ = some (.int .i64 (getd l k).kind) ∧ x.cell? ⟨b, o + k * 5 + 2, none⟩ = some (.int .i64 (getd l k).a) ∧ x.cell? ⟨b, o + k * 5 + 3, none⟩ = some (.int .i64 (getd l k).b) ∧ x.cell? ⟨b, o + k * 5 + 4, none⟩ = some (.int .i64 (getd l k).n)) (go_keep) (first
              | (go_at_call 48; go_must (refine (HS.out _ ?_).mono ?_; (first | exact Below.refl _ _ | exact Below.drew (Below.refl _ _) | exact below_drewN (Below.refl _ _) _ | exact Below.alloc (Below.refl _ _) (Nat.le_refl _) _ | exact Below.drew (Below.alloc (Below.refl _ _) (Nat.le_refl _) _) | exact below_drewN (Below.alloc (Below.refl _ _) (Nat.le_refl _) _) _); rintro e x3 ⟨hp4, bx3⟩; obtain ⟨rfl, hb4⟩ := hp4.no_of; obtain ⟨_, q0, q1, q2, q3, q4, q5, q6, q7⟩ := Row.cells8 (Row.below rFr bx3 zF2); obtain ⟨_, y0, y1, y2, y3, y4⟩ := Row.at_5 (Row.below rC bx3 zC2); have d0 := (bx3.cell (p := ⟨b, o + k * 5, none⟩) zb).trans d0; have d1 := (bx3.cell (p := ⟨b, o + k * 5 + 1, none⟩) zb).trans d1; have d2 := (bx3.cell (p := ⟨b, o + k * 5 + 2, none⟩) zb).trans d2; have d3 := (bx3.cell (p := ⟨b, o + k * 5 + 3, none⟩) zb).trans d3; have d4 := (bx3.cell (p := ⟨b, o + k * 5 + 4, none⟩) zb).trans d4; (first | (have rz : Row x3 wr.heap.size 35 zeroC5.toList := Row.below (row_new wr _ zeroC5 _ rfl) hb4 (al_lt _ _); obtain ⟨fz, z0, z1, z2, z3, z4⟩ := Row.at_5 rz) | (have rz : Row x3 wr.heap.size 35 zeroC5.toList := Row.below (Row.drew (row_new wr _ zeroC5 _ rfl)) hb4 (al_lt' _ _); obtain ⟨fz, z0, z1, z2, z3, z4⟩ := Row.at_5 rz) | (have rz : Row x3 wr.heap.size 35 zeroC5.toList := Row.below (row_new wr.drew _ zeroC5 _ rfl) hb4 (al_lt _ _); obtain ⟨fz, z0, z1, z2, z3, z4⟩ := Row.at_5 rz) | skip))))
            all_goals
              go_wp2_with fail
              go_meet
              rw [hst]
              refine SMid_intro _ ⟨K1, m1, K2, m2, K3, m3, K4, m4⟩ rfl rfl ?_ ?_ ?_ ?_
              · first | (with_reducible exact Nat.le_refl _) | (with_reducible exact bx3.size)
              · first | (with_reducible exact Below.alloc bx3 bx3.size _) | (with_reducible exact belr5 bx3 (Nat.le_refl _))
              · simp only [nextC, Option.getD_none, countL]
                first | (with_reducible exact rowr5) | (with_reducible exact setr5 rz)
              · exact fun h => by cases h
          | some C' =>
            rw [hst] at HS
            go_region_held3 (fun x => x.cell? ⟨w.heap.size, 0, none⟩ = some (.int .i64 F.purses) ∧ x.cell? ⟨w.heap.size, 1, none⟩ = some (.int .i64 F.boxes) ∧ x.cell? ⟨w.heap.size, 2, none⟩ = some (.slice S1 F.stock.length k1) ∧ x.cell? ⟨w.heap.size, 3, none⟩ = some (.slice S2 F.cash.length k2) ∧ x.cell? ⟨w.heap.size, 4, none⟩ = some (.slice S3 F.bundles.length k3) ∧ x.cell? ⟨w.heap.size, 5, none⟩ = some (.int .i64 F.refund) ∧ x.cell? ⟨w.heap.size, 6, none⟩ = some (.int .i64 F.band) ∧ x.cell? ⟨w.heap.size, 7, none⟩ = some (.int .i64 F.hours) ∧ x.cell? ⟨w2.heap.size, 0, none⟩ = some (.slice K1 C.stock.length m1) ∧ x.cell? ⟨w2.heap.size, 1, none⟩ = some (.slice K2 C.cash.length m2) ∧ x.cell? ⟨w2.heap.size, 2, none⟩ = some (.slice K3 C.purses.length m3) ∧ x.cell? ⟨w2.heap.size, 3, none⟩ = some (.slice K4 C.boxes.length m4) ∧ x.cell? ⟨w2.heap.size, 4, none⟩ = some (.int .i64 C.lost) ∧ x.cell? ⟨b, o + k * 5, none⟩ = some (.int .i64 (getd l k).at_) ∧ x.cell? ⟨b, o + k * 5 + 1, none⟩ = some (.int .i64 (getd l k).kind) ∧ x.cell? ⟨b, o + k * 5 + 2, none⟩ = some (.int .i64 (getd l k).a) ∧ x.cell? ⟨b, o + k * 5 + 3, none⟩ = some (.int .i64 (getd l k).b) ∧ x.cell? ⟨b, o + k * 5 + 4, none⟩ = some (.int .i64 (getd l k).n)) (go_keep) (first
              | (go_at_call 48; go_must (refine (HS.out _ ?_).mono ?_; (first | exact Below.refl _ _ | exact Below.drew (Below.refl _ _) | exact below_drewN (Below.refl _ _) _ | exact Below.alloc (Below.refl _ _) (Nat.le_refl _) _ | exact Below.drew (Below.alloc (Below.refl _ _) (Nat.le_refl _) _) | exact below_drewN (Below.alloc (Below.refl _ _) (Nat.le_refl _) _) _); rintro e x3 ⟨hp4, bx3⟩; obtain ⟨⟨G1, g1, G2, g2, G3, g3, G4, g4⟩, rfl, hC4, hf4, hb4⟩ := hp4.yes_of; obtain ⟨_, q0, q1, q2, q3, q4, q5, q6, q7⟩ := Row.cells8 (Row.below rFr bx3 zF2); obtain ⟨_, y0, y1, y2, y3, y4⟩ := Row.at_5 (Row.below rC bx3 zC2); have d0 := (bx3.cell (p := ⟨b, o + k * 5, none⟩) zb).trans d0; have d1 := (bx3.cell (p := ⟨b, o + k * 5 + 1, none⟩) zb).trans d1; have d2 := (bx3.cell (p := ⟨b, o + k * 5 + 2, none⟩) zb).trans d2; have d3 := (bx3.cell (p := ⟨b, o + k * 5 + 3, none⟩) zb).trans d3; have d4 := (bx3.cell (p := ⟨b, o + k * 5 + 4, none⟩) zb).trans d4; (first | (have rz : Row x3 wr.heap.size 35 zeroC5.toList := Row.below (row_new wr _ zeroC5 _ rfl) hb4 (al_lt _ _); obtain ⟨fz, z0, z1, z2, z3, z4⟩ := Row.at_5 rz) | (have rz : Row x3 wr.heap.size 35 zeroC5.toList := Row.below (Row.drew (row_new wr _ zeroC5 _ rfl)) hb4 (al_lt' _ _); obtain ⟨fz, z0, z1, z2, z3, z4⟩ := Row.at_5 rz) | (have rz : Row x3 wr.heap.size 35 zeroC5.toList := Row.below (row_new wr.drew _ zeroC5 _ rfl) hb4 (al_lt _ _); obtain ⟨fz, z0, z1, z2, z3, z4⟩ := Row.at_5 rz) | skip))))
            all_goals
              go_wp2_with fail
              go_meet
              rw [hst]
              refine SMid_intro _ ⟨G1, g1, G2, g2, G3, g3, G4, g4⟩ rfl rfl ?_ ?_ ?_ ?_
              · first | (with_reducible exact Nat.le_refl _) | (with_reducible exact bx3.size)
              · first | (with_reducible exact Below.alloc bx3 bx3.size _) | (with_reducible exact belr5 bx3 (Nat.le_refl _))
              · simp only [nextC, Option.getD_some, countL]
                first | (with_reducible exact rowr5) | (with_reducible exact setr5 rz)
              · simp only [nextC, Option.getD_some]; exact fun _ => ⟨by first | (with_reducible exact countAl hC4 _) | (with_reducible exact cofr5 hC4 (off_fresh hf4 (al_lt _ _))) | (with_reducible exact cofr5 hC4 (off_fresh hf4 (al_lt' _ _))), hf4.mono (by simp)⟩
        case rest =>
          obtain ⟨g, ⟨G1, g1, G2, g2, G3, g3, G4, g4⟩, e10, e11, hg, bM, rM, hC4⟩ := hcut
          subst e10
          subst e11
          have rCM := rC.below bM zC2
          have sM := bM.size
          have bMw : Below w.heap.size w wc := br.trans (bM.mono (by omega))
          replace d0 := (bM.cell (p := ⟨b, o + k * 5, none⟩) zb).trans d0
          clear q0 q1 q2 q3 q4 q5 q6 q7 y0 y1 y2 y3 y4 d1 d2 d3 d4 HS
          cases hst : stepS F C (getd l k) with
          | none =>
            have Hq : Hid (errS F l = 11 ∧ atS F l = k) := by
              have h2 : ¬ 200 < l.length := by omega
              have hbad := bad_at F l k hlt C t Hgo.out (by rw [goS_succ F l k hlt C t Hgo.out, hst]; split <;> rfl)
              show _ ∧ _
              simp [atS, errS, hv, h2, hbad.1, hbad.2]
            simp only [Option.isSome_none]
            go_wp2_with fail
            refine bodyPost_ret (v := .tuple #[.int .i64 k, .int .i64 11]) (by simp [results, Try.results19, go_sem, *]) rfl ?_
            exact ⟨by rw [Hq.out.1, Hq.out.2], bMw⟩
          | some C' =>
            rw [hst] at rM hC4
            obtain ⟨hC5, hf5⟩ := hC4 rfl
            simp only [nextC, Option.getD_some] at rM hC5
            replace rM : Row wc g 35 [.slice G1 C'.stock.length g1, .slice G2 C'.cash.length g2, .slice G3 C'.purses.length g3, .slice G4 C'.boxes.length g4, .int .i64 C'.lost] := rM
            have Hst := Lib.hid hst
            clear hC4 hst
            simp only [Option.isSome_some]
            cases hin : inB (getd l k).at_ t 1440 with
            | false =>
              have Hq : Hid (errS F l = 11 ∧ atS F l = k) := by
                have h2 : ¬ 200 < l.length := by omega
                have hbad := bad_at F l k hlt C t Hgo.out (by rw [goS_succ F l k hlt C t Hgo.out, hin]; rfl)
                show _ ∧ _
                simp [atS, errS, hv, h2, hbad.1, hbad.2]
              go_wp2_with (first | (go_at_call 44; refine (rwithin_any _ _ _ _).mono ?_; rintro e w5 ⟨rfl, rfl⟩))
              refine bodyPost_ret (v := .tuple #[.int .i64 k, .int .i64 11]) (by simp [results, Try.results19, go_sem, *]) rfl ?_
              exact ⟨by rw [Hq.out.1, Hq.out.2], bMw⟩
            | true =>
              have Hgo2 : Hid (goS F l (k + 1) = some (C', (getd l k).at_)) := by show _ = _; rw [goS_succ F l k hlt C t Hgo.out, hin, Hst.out]; rfl
              obtain ⟨_, z0, z1, z2, z3, z4⟩ := Row.at_5 rM
              obtain ⟨fy, y0, y1, y2, y3, y4⟩ := Row.at_5 rCM
              go_wp2_with (first | (go_at_call 44; refine (rwithin_any _ _ _ _).mono ?_; rintro e w5 ⟨rfl, rfl⟩))
              go_roundw
              case rel => exact ⟨k + 1, C', (getd l k).at_, ⟨G1, g1, G2, g2, G3, g3, G4, g4⟩, by omega, by go_num, rfl, Hgo2.out, kepr5 (hkp.below bM), setr5 rCM, cofr5 hC5 (off_fresh hf5 zC2), off_fresh hf5 zC2⟩
              case measure => simp [intOf]; omega
end Go.Proofs.Ytonbaikdpcmbiaa
/- Contract of the specification's Played, for right deals. Conditions: the arguments read as data; the deals are right. -/
namespace Go.Proofs.Ytonbaikdpcmbiaa
open Go.RowKit

/-- What Played leaves: the count behind all deals, in new memory. -/
def PdPost (w : World) (F : Fair) (l : List Deal) (e : Ending) (w' : World) : Prop :=
  Below w.heap.size w w' ∧ ∃ K, e = .returned (countV (playS F l) K) ∧ CountIn w' w'.heap.size (playS F l) K ∧ CFresh w.heap.size K
theorem err_parts {F : Fair} {l : List Deal} (h : errS F l = 0) : validB F = true ∧ l.length ≤ 200 ∧ ∃ C t, goS F l l.length = some (C, t) ∧ playS F l = C := by
  unfold errS at h
  cases hv : validB F with
  | false => rw [hv] at h; simp at h
  | true =>
    rw [hv] at h
    simp only [Bool.true_eq_false, if_false] at h
    by_cases h2 : 200 < l.length
    · rw [if_pos h2] at h; cases h
    · rw [if_neg h2] at h
      cases hg : goS F l l.length with
      | none => rw [hg] at h; cases h
      | some x =>
        obtain ⟨C, t⟩ := x
        exact ⟨rfl, by omega, C, t, rfl, by simp [playS, hv, h2, hg]⟩
theorem step_right {F : Fair} {l : List Deal} (h : errS F l = 0) {k : Nat} (hk : k < l.length) {C : Count} {t : Int} (hg : goS F l k = some (C, t)) : ∃ C', stepS F C (getd l k) = some C' ∧ goS F l (k + 1) = some (C', (getd l k).at_) := by
  obtain ⟨_, _, C1, t1, h1, _⟩ := err_parts h
  cases hn : goS F l (k + 1) with
  | none => have := (bad_at F l k hk C t hg hn).1; rw [h1] at this; cases this
  | some x =>
    have hs := goS_succ F l k hk C t hg
    rw [hn] at hs
    by_cases hi : inB (getd l k).at_ t 1440 = true
    · rw [if_pos hi] at hs
      cases hst : stepS F C (getd l k) with
      | none => rw [hst] at hs; cases hs
      | some C' => rw [hst] at hs; exact ⟨C', rfl, hs⟩
    · rw [if_neg hi] at hs; cases hs

set_option maxHeartbeats 4000000 in
set_option maxRecDepth 100000 in
theorem rPlayed_any (F : Fair) (R : Refs) (l : List Deal) (A : Option Addr) (c B : Nat) (w : World) (hB : B ≤ w.heap.size) (hF : FairIn w B F R) (hl : Reads w B 5 A l.length (dealCells l)) (he : errS F l = 0) :
    Calls Try.prog 49 #[fairV F R, .slice A l.length c] w (PdPost w F l) := by
  obtain ⟨hv, h200, Cl, tl, hgl, hpl⟩ := err_parts he
  obtain ⟨S1, k1, S2, k2, S3, k3⟩ := R
  obtain ⟨W, hW⟩ : ∃ W, W = (w.alloc (.cells (fairCells F ⟨S1, k1, S2, k2, S3, k3⟩) 25)).alloc (.cells #[.slice none 0 0, .slice none 0 0, .slice none 0 0, .slice none 0 0, .int .i64 0] 35) := ⟨_, rfl⟩
  have sW : W.heap.size = w.heap.size + 2 := by subst hW; simp
  have bW : Below w.heap.size w W := by subst hW; exact ((Below.refl _ _).alloc (Nat.le_refl _) _).alloc (by simp) _
  have rF : Row W w.heap.size 25 [.int .i64 F.purses, .int .i64 F.boxes, .slice S1 F.stock.length k1, .slice S2 F.cash.length k2, .slice S3 F.bundles.length k3, .int .i64 F.refund, .int .i64 F.band, .int .i64 F.hours] := by subst hW; exact (row_new _ _ _ _ rfl).alloc _
  have rR : Row W (w.heap.size + 1) 35 [.slice none 0 0, .slice none 0 0, .slice none 0 0, .slice none 0 0, .int .i64 0] := by subst hW; exact row_new _ _ _ _ (by simp)
  obtain ⟨_, q0, q1, q2, q3, q4, q5, q6, q7⟩ := Row.cells8 rF
  unfold fairV
  dsimp only
  go_enter Try.func49, Try.ntmps49
  go_wp2_with fail
  rw [← hW]
  clear hW
  refine (rBegin_any F ⟨S1, k1, S2, k2, S3, k3⟩ W B (by omega) (hF.below (bW.mono hB)) hv).mono ?_
  rintro e w2 ⟨hb2, ⟨E1, e1, E2, e2, E3, e3, E4, e4⟩, rfl, hC0, hf0⟩
  have b2 := below_step bW hb2
  have s2 := hb2.size
  replace rF := rF.below hb2 rF.lt
  replace rR := rR.below hb2 rR.lt
  unfold countV
  dsimp only
  clear q0 q1 q2 q3 q4 q5 q6 q7
  go_wp2_with fail
  obtain ⟨V0, hV0⟩ : ∃ V0, V0 = w2.alloc (.cells #[.slice E1 (beginS F).stock.length e1, .slice E2 (beginS F).cash.length e2, .slice E3 (beginS F).purses.length e3, .slice E4 (beginS F).boxes.length e4, .int .i64 (beginS F).lost] 35) := ⟨_, rfl⟩
  rw [← hV0]
  have sV0 : V0.heap.size = w2.heap.size + 1 := by subst hV0; simp
  have bV0 : Below w.heap.size w V0 := by subst hV0; exact b2.alloc b2.size _
  have rFV0 : Row V0 w.heap.size 25 [.int .i64 F.purses, .int .i64 F.boxes, .slice S1 F.stock.length k1, .slice S2 F.cash.length k2, .slice S3 F.bundles.length k3, .int .i64 F.refund, .int .i64 F.band, .int .i64 F.hours] := by subst hV0; exact rF.alloc _
  have rRV0 : Row V0 (w.heap.size + 1) 35 [.slice none 0 0, .slice none 0 0, .slice none 0 0, .slice none 0 0, .int .i64 0] := by subst hV0; exact rR.alloc _
  have rC0 : Row V0 w2.heap.size 35 (countL (beginS F) ⟨E1, e1, E2, e2, E3, e3, E4, e4⟩) := by subst hV0; exact row_new _ _ _ _ rfl
  have hCV0 : CountIn V0 V0.heap.size (beginS F) ⟨E1, e1, E2, e2, E3, e3, E4, e4⟩ := by subst hV0; exact countAl hC0 _
  have hO0 : Off w2.heap.size (beginS F) ⟨E1, e1, E2, e2, E3, e3, E4, e4⟩ := off_lt hC0 (Nat.le_refl _)
  have h0 : goS F l 0 = some (beginS F, 0) := by simp [goS, runS]
  have hf0 : CFresh (w.heap.size + 2) ⟨E1, e1, E2, e2, E3, e3, E4, e4⟩ := hf0.mono (by omega)
  have zw : w.heap.size + 2 ≤ w2.heap.size := by omega
  clear hV0 hb2 rF rR b2
  go_loopw [6] (fun i wr => ∃ (k : Nat) (C : Count) (t : Int) (K : CRefs), k ≤ l.length ∧ i = .int .i64 k ∧ goS F l k = some (C, t) ∧ KeptBut [w2.heap.size] V0 wr ∧ Row wr w2.heap.size 35 (countL C K) ∧ CountIn wr wr.heap.size C K ∧ Off w2.heap.size C K ∧ CFresh (w.heap.size + 2) K) (fun i _ => l.length - (intOf i).toNat)
  case atStart => exact ⟨0, beginS F, 0, _, Nat.zero_le _, rfl, h0, KeptBut.refl _ _, rC0, hCV0, hO0, hf0⟩
  case round =>
    obtain ⟨k, C, t, K, hk, rfl, hgo, hkp, rC, hC, hoff, hfr⟩ := hrel
    have rFr := rFV0.kept hkp (by simp; omega)
    have rRr := rRV0.kept hkp (by simp; omega)
    have sr := hkp.size
    have br : Below w.heap.size w wr := bV0.trans (hkp.to_below (by omega) (by simp; omega))
    obtain ⟨K1, m1, K2, m2, K3, m3, K4, m4⟩ := K
    replace rC : Row wr w2.heap.size 35 [.slice K1 C.stock.length m1, .slice K2 C.cash.length m2, .slice K3 C.purses.length m3, .slice K4 C.boxes.length m4, .int .i64 C.lost] := rC
    have zC2 := rC.lt
    obtain ⟨fy, y0, y1, y2, y3, y4⟩ := Row.at_5 rC
    by_cases hlt : k < l.length
    case neg =>
      have ek : k = l.length := by omega
      have hCe : Hid (playS F l = C) := by show _ = _; rw [hpl]; rw [ek, hgl] at hgo; injection hgo with hgo; injection hgo
      have hge : ¬ (k : Int) < (l.length : Int) := by omega
      have ne1 : ¬ w2.heap.size = w.heap.size + 1 := by omega
      have ne2 : ¬ w.heap.size + 1 = w2.heap.size := by omega
      obtain ⟨fr, r0, r1, r2, r3, r4⟩ := Row.at_5 rRr
      clear hgo ek hgl hpl
      go_wp2_with fail
      refine bodyPost_ret (v := .agg #[.slice K1 C.stock.length m1, .slice K2 C.cash.length m2, .slice K3 C.purses.length m3, .slice K4 C.boxes.length m4, .int .i64 C.lost]) (by simp [results, Try.results49, go_sem, *]) rfl ?_
      refine ⟨belr5 br (by omega), ⟨K1, m1, K2, m2, K3, m3, K4, m4⟩, by rw [hCe.out], ?_, hfr.mono (by omega)⟩
      rw [hCe.out]
      exact cofr5 hC (off_fresh hfr (by omega))
    have hlt' : (k : Int) < (l.length : Int) := by omega
    have hfit : Fit F C := Bounds.fit hv h200 hgo
    obtain ⟨C', hst, hgo2⟩ := step_right he hlt hgo
    have Fr := hF.below (br.mono hB)
    have lr := hl.below (br.mono hB)
    obtain ⟨b, o, rfl, hb, d0, d1, d2, d3, d4⟩ := lr.at5 hlt
    obtain ⟨_, q0, q1, q2, q3, q4, q5, q6, q7⟩ := Row.cells8 rFr
    have zb : b < wr.heap.size := by omega
    have HS : Hid (∀ x : World, Below wr.heap.size wr x → Calls Try.prog 48 #[fairV F ⟨S1, k1, S2, k2, S3, k3⟩, countV C ⟨K1, m1, K2, m2, K3, m3, K4, m4⟩, dealV (getd l k)] x fun e x' => (∃ K', e = .returned (.tuple #[countV C' K', .bool true]) ∧ CountIn x' x'.heap.size C' K' ∧ CFresh x.heap.size K' ∧ Below x.heap.size x x') ∧ Below wr.heap.size wr x') := fun x hx => (rStep_any F ⟨S1, k1, S2, k2, S3, k3⟩ C ⟨K1, m1, K2, m2, K3, m3, K4, m4⟩ (getd l k) wr.heap.size x hx.size ((Fr.more (by omega)).below hx) (hC.keep fun p hp => hx.cell hp) hfit).mono fun _ _ h => by rw [hst] at h; exact ⟨h.yes_of, below_step hx h.1⟩
    have Hgo2 := Lib.hid hgo2
    clear lr hgo hgo2 hst
    go_upto_region 5 with (fail)
    go_region_with
      (first | (go_at_call 48; go_must (refine (HS.out _ ?_).mono ?_; (first | exact Below.refl _ _ | exact Below.drew (Below.refl _ _) | exact below_drewN (Below.refl _ _) _); rintro e x3 ⟨⟨⟨G1, g1, G2, g2, G3, g3, G4, g4⟩, rfl, hC4, hf4, hb4⟩, bx3⟩; have rC3 := rC.below bx3 zC2; have sx3 := bx3.size; obtain ⟨fy, y0, y1, y2, y3, y4⟩ := Row.at_5 rC3)))
    all_goals
      go_wp2_with fail
      go_roundw
      case rel => exact ⟨k + 1, C', (getd l k).at_, ⟨G1, g1, G2, g2, G3, g3, G4, g4⟩, by omega, by go_num, Hgo2.out, kepr5 (hkp.below bx3), setr5 rC3, cofr5 hC4 (off_fresh hf4 zC2), off_fresh hf4 zC2, hf4.mono (by simp; omega)⟩
      case measure => simp [intOf]; omega
end Go.Proofs.Ytonbaikdpcmbiaa
namespace Go.Proofs.Ytonbaikdpcmbiaa
open Go.RowKit

/-- What Until leaves, in new memory. -/
def UnNew (w : World) (F : Fair) (l : List Deal) (a : Int) (e : Ending) (w' : World) : Prop :=
  Below w.heap.size w w' ∧ ∃ K, e = .returned (.tuple #[countV (untilC F l a) K, .int .i64 (errS F l)]) ∧ CountIn w' w'.heap.size (untilC F l a) K ∧ CFresh w.heap.size K
theorem play_err {F : Fair} {l : List Deal} (h : ¬ errS F l = 0) : playS F l = ⟨[], [], [], [], 0⟩ := by
  unfold errS at h
  unfold playS
  cases hv : validB F with
  | false => simp
  | true =>
    rw [hv] at h
    simp only [Bool.true_eq_false, if_false] at h ⊢
    by_cases h2 : 200 < l.length
    · rw [if_pos h2]
    · rw [if_neg h2] at h ⊢
      cases hg : goS F l l.length with
      | none => rfl
      | some x => rw [hg] at h; exact absurd rfl h
theorem played_pre (F : Fair) (R : Refs) (l : List Deal) (k : Nat) (hk : k ≤ l.length) (A : Option Addr) (c B : Nat) (w X : World) (hB : B ≤ w.heap.size) (hF : FairIn w B F R) (hl : Reads w B 5 A l.length (dealCells l)) (he : errS F l = 0) (hX : Below w.heap.size w X) :
    Calls Try.prog 49 #[fairV F R, .slice A k c] X fun e w' => PdPost X F (l.take k) e w' ∧ Below w.heap.size w w' := by
  have e : (l.take k).length = k := by rw [List.length_take]; omega
  have hp := (hl.below (hX.mono hB)).pre k hk
  have hs := hX.size
  have := rPlayed_any F R (l.take k) A c B X (by omega) (hF.below (hX.mono hB)) (by rw [e]; exact hp) (begin_ok he k)
  rw [e] at this
  exact this.mono fun _ _ h => ⟨h, below_step hX h.1⟩

set_option maxHeartbeats 4000000 in
set_option maxRecDepth 100000 in
theorem rPlay_any (F : Fair) (R : Refs) (l : List Deal) (A : Option Addr) (c B : Nat) (w : World) (hB : B ≤ w.heap.size) (hF : FairIn w B F R) (hl : Reads w B 5 A l.length (dealCells l)) (hn : l.length ≤ maxLen) :
    Calls Try.prog 21 #[fairV F R, .slice A l.length c] w (PlPost w F l) := by
  obtain ⟨S1, k1, S2, k2, S3, k3⟩ := R
  obtain ⟨W, hW⟩ : ∃ W, W = (w.alloc (.cells (fairCells F ⟨S1, k1, S2, k2, S3, k3⟩) 25)).alloc (.cells #[.slice none 0 0, .slice none 0 0, .slice none 0 0, .slice none 0 0, .int .i64 0] 35) := ⟨_, rfl⟩
  have sW : W.heap.size = w.heap.size + 2 := by subst hW; simp
  have bW : Below w.heap.size w W := by subst hW; exact ((Below.refl _ _).alloc (Nat.le_refl _) _).alloc (by simp) _
  have rF : Row W w.heap.size 25 [.int .i64 F.purses, .int .i64 F.boxes, .slice S1 F.stock.length k1, .slice S2 F.cash.length k2, .slice S3 F.bundles.length k3, .int .i64 F.refund, .int .i64 F.band, .int .i64 F.hours] := by subst hW; exact (row_new _ _ _ _ rfl).alloc _
  have rR : Row W (w.heap.size + 1) 35 [.slice none 0 0, .slice none 0 0, .slice none 0 0, .slice none 0 0, .int .i64 0] := by subst hW; exact row_new _ _ _ _ (by simp)
  obtain ⟨_, q0, q1, q2, q3, q4, q5, q6, q7⟩ := Row.cells8 rF
  unfold fairV
  dsimp only
  go_enter Try.func21, Try.ntmps21
  go_wp2_with fail
  rw [← hW]
  clear hW
  refine (rCheckDeals_any F ⟨S1, k1, S2, k2, S3, k3⟩ l A c B W (by omega) (hF.below (bW.mono hB)) (hl.below (bW.mono hB)) hn).mono ?_
  rintro e w1 ⟨rfl, hb1⟩
  have b1 := below_step bW hb1
  have s1 := hb1.size
  replace rF := rF.below hb1 rF.lt
  replace rR := rR.below hb1 rR.lt
  clear q0 q1 q2 q3 q4 q5 q6 q7
  obtain ⟨_, q0, q1, q2, q3, q4, q5, q6, q7⟩ := Row.cells8 rF
  obtain ⟨fr, r0, r1, r2, r3, r4⟩ := Row.at_5 rR
  by_cases he : errS F l = 0
  case neg =>
    have he' : (errS F l != 0) = true := by simpa using he
    have Hq : Hid (playS F l = ⟨[], [], [], [], 0⟩) := play_err he
    clear he
    go_wp2_with fail
    refine bodyPost_ret (v := .tuple #[.agg #[.slice none 0 0, .slice none 0 0, .slice none 0 0, .slice none 0 0, .int .i64 0], .int .i64 (errS F l)]) (by simp [results, Try.results21, go_sem, *]) rfl ?_
    refine ⟨by first | (with_reducible exact belr5 b1 (by omega)) | (repeat (first | (with_reducible exact b1) | (with_reducible refine Below.setCell ?_ (by dsimp only; omega) _))), ⟨none, 0, none, 0, none, 0, none, 0⟩, by rw [Hq.out]; rfl, by rw [Hq.out]; exact CountIn.none_ _ _⟩
  rw [he]
  go_wp2_with fail
  refine (rPlayed_any F ⟨S1, k1, S2, k2, S3, k3⟩ l A c B w1 (by omega) (hF.below (b1.mono hB)) (hl.below (b1.mono hB)) he).mono ?_
  rintro e w2 ⟨hb2, ⟨E1, e1, E2, e2, E3, e3, E4, e4⟩, rfl, hC, hf⟩
  have b2 := below_step b1 hb2
  have s2 := hb2.size
  have z1 := rR.lt
  replace rR := rR.below hb2 z1
  clear r0 r1 r2 r3 r4 fr
  obtain ⟨fr, r0, r1, r2, r3, r4⟩ := Row.at_5 rR
  unfold countV
  dsimp only
  have He := Lib.hid he
  clear he
  go_wp2_with fail
  refine bodyPost_ret (v := .tuple #[.agg #[.slice E1 (playS F l).stock.length e1, .slice E2 (playS F l).cash.length e2, .slice E3 (playS F l).purses.length e3, .slice E4 (playS F l).boxes.length e4, .int .i64 (playS F l).lost], .int .i64 0]) (by simp [results, Try.results21, go_sem, *]) rfl ?_
  exact ⟨belr5 b2 (by omega), ⟨E1, e1, E2, e2, E3, e3, E4, e4⟩, by rw [He.out], cofr5 hC (off_fresh hf z1)⟩
end Go.Proofs.Ytonbaikdpcmbiaa
namespace Go.Proofs.Ytonbaikdpcmbiaa
open Go.RowKit

set_option maxHeartbeats 400000 in
theorem rsum_any (zs : List Int) (A : Option Addr) (n c B : Nat) (w : World) (hr : Reads w B 1 A n (intCells zs)) (hn : n ≤ maxLen) :
    Calls Try.prog 53 #[.slice A n c] w fun e w' => e = .returned (.int .i64 (sumW zs)) ∧ w = w' := by
  unfold maxLen at hn
  go_enter Try.func53, Try.ntmps53
  go_wp2_with fail
  go_loop [3, 4] (fun s i => ∃ k : Nat, k ≤ n ∧ i = .int .i64 k ∧ s = .int .i64 (sumW (zs.take k))) (fun _ i => n - (intOf i).toNat)
  case atStart => exact ⟨0, Nat.zero_le _, rfl, rfl⟩
  case round =>
    obtain ⟨k, hk, rfl, rfl⟩ := hrel
    have hz : zs.length = n := by simpa [intCells] using hr.1
    by_cases hlt : k < n
    · obtain ⟨b, o, rfl, hb, hc⟩ := hr.at1 hlt
      have hck := hc k hlt
      clear hc
      have Hsn := Lib.hid (sumW_snoc zs k (by omega))
      clear hz
      go_wp2
      go_round
      case rel => exact ⟨k + 1, by omega, by go_num, by rw [Hsn.out]⟩
      case measure => simp [intOf]; omega
    · have : k = n := by omega
      subst this
      clear hz
      go_wp2
      go_ret
      refine ⟨ret_int ?_, rfl⟩
      rw [List.take_of_length_le (by have := hr.1; simp [intCells] at this; omega)]

theorem taken_eq {F : Fair} {C C' : Count} {T : Int} {d : Deal} (hb : Bounds F) (h : Inv F C T 1000000000) (hT : T ≤ 800000) (hk : d.kind = 2) (hs : stepS F C d = some C') : wrap64 (sumW C'.boxes - sumW C.boxes) = fareS C' d := by
  have h' := step_inv hb h hT ⟨by decide, by decide⟩ hs
  have n1 := tot_nn _ h.b
  have n2 := tot_nn _ h'.b
  have t1 : tot C.boxes ≤ 800000 := by have := tot_nn _ h.s; have := tot_nn _ h.p; have := h.l; have := h.t; omega
  have t2 : tot C'.boxes ≤ 800000 := by have := tot_nn _ h'.s; have := tot_nn _ h'.p; have := h'.l; have := h'.t; omega
  rw [sumW_tot _ h.b (by omega), sumW_tot _ h'.b (by omega)]
  have hs2 : rideS F C d = some C' := by simpa [stepS, hk] using hs
  clear hs
  unfold rideS at hs2
  by_cases hp : isPurse F d.a = true
  case neg => simp [hp] at hs2
  by_cases hx : isBox F d.b = true
  case neg => simp [hx] at hs2
  by_cases hn : inB d.n 0 1000 = true
  case neg => simp [hn] at hs2
  simp only [hp, hx, hn, Bool.not_true, Bool.or_self, Bool.false_eq_true, if_false] at hs2
  by_cases hlt : (getp C.purses d.a).tokens < fareS C d
  · rw [if_pos hlt] at hs2; cases hs2
  · rw [if_neg hlt] at hs2
    injection hs2 with hs2
    obtain ⟨a, ea, la⟩ := isPurse_nat hp
    obtain ⟨b, eb, lb⟩ := isBox_nat hx
    obtain ⟨q1, q2⟩ := box_bd h hT lb
    have hn' := inB_iff.1 hn
    have hf : 0 ≤ fareS C d ∧ fareS C d ≤ 1000 := by unfold fareS; split <;> omega
    have e1 : tot C'.boxes = tot C.boxes + fareS C d := by
      rw [← hs2]
      dsimp only
      rw [eb]; unfold addi
      rw [Int.toNat_natCast, tot_set _ _ _ (by rw [h.n4]; exact lb), wrap64_id (by omega) (by omega)]
      omega
    have e2 : (getp C'.purses d.a).til = (getp C.purses d.a).til := by
      rw [← hs2]
      dsimp only
      have la' : a < C.purses.length := by rw [h.n3]; exact la
      rw [ea]
      simp [getp, subp, la']
    have e3 : fareS C' d = fareS C d := by unfold fareS; rw [e2]
    rw [e1, e3, wrap64_id (by omega) (by omega)]
    omega
/-- What the specification counts of one deal is what the account counts. -/
theorem tally_ride {F : Fair} {l : List Deal} {k : Nat} {C C' : Count} {t : Int} (hv : validB F = true) (hl : l.length ≤ 200) (h : goS F l k = some (C, t)) (hk : (getd l k).kind = 2) (hs : stepS F C (getd l k) = some C') (a : Int × Int × Int) :
    tallyS F C' (getd l k) a = (a.1, wrap64 (a.2.1 + wrap64 (sumW C'.boxes - sumW C.boxes)), a.2.2) := by
  obtain ⟨hi, hT⟩ := go_inv hv hl h
  rw [taken_eq (bounds_of hv) hi hT hk hs]
  simp [tallyS, hk]
theorem goS_take {F : Fair} {l : List Deal} {k : Nat} (hk : k ≤ l.length) : goS F (l.take k) (l.take k).length = goS F l k := by
  unfold goS
  rw [List.length_take, Nat.min_eq_left hk, List.take_take, Nat.min_self]
theorem play_at {F : Fair} {l : List Deal} (h : errS F l = 0) {k : Nat} (hk : k ≤ l.length) {C : Count} {t : Int} (hg : goS F l k = some (C, t)) : playS F (l.take k) = C := by
  obtain ⟨hv, h2, _⟩ := err_parts h
  have h3 : ¬ 200 < (l.take k).length := by rw [List.length_take]; omega
  have e : goS F (l.take k) (l.take k).length = goS F l k := goS_take hk
  rw [playS, hv]
  simp only [Bool.true_eq_false, if_false, if_neg h3, e, hg]
end Go.Proofs.Ytonbaikdpcmbiaa
