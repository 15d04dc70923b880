/- TokensAccounts: Account and Audit return what the specification returns, for every count. No conditions. -/
import Derived.Test.YtfcalfccogbgnaaVf
import Derived.Test.YtfcalfccogbgnaaUe
import Derived.Test.YtfcalfccogbgnaaTc
import Derived.Test.YtfcalfccogbgnaaFrame
/- Contract of the specification's Audit. Conditions: the arguments read as data. -/
namespace Go.Proofs.Ytfcalfccogbgnaa
open Go.RowKit

set_option maxHeartbeats 8000000 in
set_option maxRecDepth 100000 in
theorem rAudit_any (F : Fair) (R : Refs) (l : List Deal) (D : Count) (L : CRefs) (A : Option Addr) (c B : Nat) (w : World) (hB : B ≤ w.heap.size) (hF : FairIn w B F R) (hl : Reads w B 5 A l.length (dealCells l)) (hn : l.length ≤ maxLen) (hD : CountIn w B D L) :
    Calls Try.prog 28 #[fairV F R, .slice A l.length c, countV D L] w (AudPost w F l D) := by
  obtain ⟨B1, d1, B2, d2, B3, d3, B4, d4⟩ := L
  obtain ⟨S1, k1, S2, k2, S3, k3⟩ := R
  obtain ⟨i0, hi, hz0, hz1, hz2⟩ := info_parts Try.info_int
  obtain ⟨W, hW⟩ : ∃ W, W = (w.alloc (.cells (fairCells F ⟨S1, k1, S2, k2, S3, k3⟩) 25)).alloc (.cells #[.slice B1 D.stock.length d1, .slice B2 D.cash.length d2, .slice B3 D.purses.length d3, .slice B4 D.boxes.length d4, .int .i64 D.lost] 35) := ⟨_, rfl⟩
  have sW : W.heap.size = w.heap.size + 2 := by subst hW; simp
  have bW : Below w.heap.size w W := by subst hW; exact ((Below.refl _ _).alloc (Nat.le_refl _) _).alloc (by simp) _
  have rD : Row W (w.heap.size + 1) 35 [.slice B1 D.stock.length d1, .slice B2 D.cash.length d2, .slice B3 D.purses.length d3, .slice B4 D.boxes.length d4, .int .i64 D.lost] := by subst hW; exact row_new _ _ _ _ (by simp)
  unfold fairV countV
  dsimp only
  go_enter Try.func28, Try.ntmps28
  go_wp2_with fail
  rw [← hW]
  clear hW
  refine (rPlay_any F ⟨S1, k1, S2, k2, S3, k3⟩ l A c B W (by omega) (hF.below (bW.mono hB)) (hl.below (bW.mono hB)) hn).mono ?_
  rintro e w1 ⟨hb1, ⟨A1, c1, A2, c2, A3, c3, A4, c4⟩, rfl, hC⟩
  have b1 := below_step bW hb1
  have rD1 := rD.below hb1 rD.lt
  have z1 := hb1.size
  by_cases he : errS F l = 0
  case neg =>
    have he' : (errS F l != 0) = true := by simpa using he
    have Ha : Hid (audS F l D = ([], [], [], errS F l)) := by show _ = _; rw [audS, if_neg he]
    clear he
    unfold countV
    dsimp only
    go_wp2_with fail
    refine bodyPost_ret (v := .tuple #[.slice none 0 0, .slice none 0 0, .slice none 0 0, .int .i64 (errS F l)]) (by simp [results, Try.results28, go_sem, *]) rfl ?_
    exact aud_none Ha.out (b1.alloc b1.size _)
  have hw := went he
  have n2 : (playS F l).cash.length = (playS F l).stock.length := by rw [hw.inv.n2, hw.inv.n1]
  have hb0 := bounds_of hw.val
  have u1 : (playS F l).stock.length ≤ 8 := by rw [hw.inv.n1]; exact hb0.s2
  have u3 : (playS F l).purses.length ≤ 20 := by rw [hw.inv.n3]; have := hb0.p2; omega
  have u4 : (playS F l).boxes.length ≤ 12 := by rw [hw.inv.n4]; have := hb0.x2; omega
  have hau : audS F l D = if lensB (playS F l) D then (numsI (auT (playS F l) D) (playS F l).stock.length, numsI (auP (playS F l) D) (playS F l).purses.length, numsI (auB (playS F l) D) (playS F l).boxes.length, 0) else ([], [], [], 1) := by rw [audS, if_pos he]
  have Hau := Lib.hid hau
  have N2 := Lib.hid n2
  rw [he]
  clear hw hb0 he hau n2
  generalize playS F l = C at *
  unfold countV
  dsimp only
  go_upto_region 4 with (fail)
  obtain ⟨X, hX⟩ : ∃ X, X = w1.alloc (.cells #[.slice A1 C.stock.length c1, .slice A2 C.cash.length c2, .slice A3 C.purses.length c3, .slice A4 C.boxes.length c4, .int .i64 C.lost] 35) := ⟨_, rfl⟩
  rw [← hX]
  have sX : X.heap.size = w1.heap.size + 1 := by subst hX; simp
  have bX0 : Below w.heap.size w X := by subst hX; exact b1.alloc b1.size _
  have rD0 : Row X (w.heap.size + 1) 35 [.slice B1 D.stock.length d1, .slice B2 D.cash.length d2, .slice B3 D.purses.length d3, .slice B4 D.boxes.length d4, .int .i64 D.lost] := by subst hX; exact rD1.alloc _
  have rC0 : Row X w1.heap.size 35 [.slice A1 C.stock.length c1, .slice A2 C.cash.length c2, .slice A3 C.purses.length c3, .slice A4 C.boxes.length c4, .int .i64 C.lost] := by subst hX; exact row_new _ _ _ _ rfl
  have CC0 : CountIn X w1.heap.size C ⟨A1, c1, A2, c2, A3, c3, A4, c4⟩ := by subst hX; exact hC.keep fun p hp => World.cell?_alloc_lt w1 _ p hp
  have CD0 : CountIn X B D ⟨B1, d1, B2, d2, B3, d3, B4, d4⟩ := hD.keep fun p hp => bX0.cell (by omega)
  have zX : w1.heap.size < X.heap.size := rC0.lt
  clear hX hC rD rD1 hF hl sX
  obtain ⟨_, x0, x1, x2, x3, x4⟩ := Row.at_5 rC0
  obtain ⟨_, y0, y1, y2, y3, y4⟩ := Row.at_5 rD0
  cases hlen : lensB C D with
  | false =>
    have Ha : Hid (audS F l D = ([], [], [], 1)) := by show _ = _; rw [Hau.out, hlen]; rfl
    go_wp2_with fail
    all_goals first
      | (refine bodyPost_ret (v := .tuple #[.slice none 0 0, .slice none 0 0, .slice none 0 0, .int .i64 1]) (by simp [results, Try.results28, go_sem, *]) rfl ?_; exact aud_none Ha.out bX0)
      | (exfalso; revert hlen; simp [lensB, *]; done)
      | (exfalso; simp_all [lensB]; done)
      | (exfalso; simp_all [lensB]; omega)
  | true =>
    have hl2 := hlen
    simp only [lensB, Bool.and_eq_true, decide_eq_true_eq] at hl2
    obtain ⟨⟨⟨j1, j2⟩, j3⟩, j4⟩ := hl2
    have Ha : Hid (audS F l D = (numsI (auT C D) C.stock.length, numsI (auP C D) C.purses.length, numsI (auB C D) C.boxes.length, 0)) := by show _ = _; rw [Hau.out, hlen]; rfl
    have J := Lib.hid (And.intro j1 (And.intro j2 (And.intro j3 (And.intro j4 N2.out))))
    have g1 : ((D.stock.length : Int) != (C.stock.length : Int)) = false := by simp [j1]
    have g2 : ((D.cash.length : Int) != (C.cash.length : Int)) = false := by simp [j2]
    have g3 : ((D.purses.length : Int) != (C.purses.length : Int)) = false := by simp [j3]
    have g4 : ((D.boxes.length : Int) != (C.boxes.length : Int)) = false := by simp [j4]
    have zD : w.heap.size + 1 < X.heap.size := rD0.lt
    clear j1 j2 j3 j4 hlen
    go_wp2_with fail
    clear g1 g2 g3 g4 x0 x1 x2 x3 x4 y0 y1 y2 y3 y4
    go_loopw [12, 15] (fun v i wr => ∃ k : Nat, k ≤ C.stock.length ∧ i = .int .i64 k ∧ wr.ownsRow X.heap.size 3 1 v (numsI (auT C D) k).length (intCells (numsI (auT C D) k)) ∧ Below X.heap.size X wr) (fun _ i _ => C.stock.length - (intOf i).toNat)
    case atStart => exact ⟨0, Nat.zero_le _, rfl, owns_nil _ _ _ _, Below.refl _ _⟩
    case round =>
      obtain ⟨k, hk, rfl, hown, hbel⟩ := hrel
      have hs := hbel.size
      have hl := numsI_len (auT C D) k
      have rCr := rC0.below hbel rC0.lt
      have rDr := rD0.below hbel rD0.lt
      have CCr := CC0.keep (w' := wr) fun q hq => hbel.cell (by omega)
      have CDr := CD0.keep (w' := wr) fun q hq => hbel.cell (by omega)
      obtain ⟨_, x0, x1, x2, x3, x4⟩ := Row.at_5 rCr
      obtain ⟨_, y0, y1, y2, y3, y4⟩ := Row.at_5 rDr
      by_cases hlt : k < C.stock.length
      case pos =>
        have hlt' : (k : Int) < (C.stock.length : Int) := by omega
        have zz : wr.heap.size < wr.heap.size + 1 := Nat.lt_succ_self _
        have ck2 : k < C.cash.length := by have := J.out.2.2.2.2; omega
        have dk1 : k < D.stock.length := by have := J.out.1; omega
        have dk2 : k < D.cash.length := by have := J.out.2.1; omega
        have ck2' : (k : Int) < (C.cash.length : Int) := by omega
        have dk1' : (k : Int) < (D.stock.length : Int) := by omega
        have dk2' : (k : Int) < (D.cash.length : Int) := by omega
        obtain ⟨cab, cao, cae, _, cap⟩ := CCr.s1.at1 (k := k) hlt
        dsimp only at cae
        subst cae
        have caq : wr.cell? ⟨cab, cao + k, none⟩ = some (.int .i64 (geti C.stock k)) := cap k hlt
        clear cap
        obtain ⟨cbb, cbo, cbe, _, cbp⟩ := CCr.s2.at1 (k := k) ck2
        dsimp only at cbe
        subst cbe
        have cbq : wr.cell? ⟨cbb, cbo + k, none⟩ = some (.int .i64 (geti C.cash k)) := cbp k ck2
        clear cbp
        obtain ⟨dab, dao, dae, _, dap⟩ := CDr.s1.at1 (k := k) dk1
        dsimp only at dae
        subst dae
        have daq : wr.cell? ⟨dab, dao + k, none⟩ = some (.int .i64 (geti D.stock k)) := dap k dk1
        clear dap
        obtain ⟨dbb, dbo, dbe, _, dbp⟩ := CDr.s2.at1 (k := k) dk2
        dsimp only at dbe
        subst dbe
        have dbq : wr.cell? ⟨dbb, dbo + k, none⟩ = some (.int .i64 (geti D.cash k)) := dbp k dk2
        clear dbp
        cases ht : geti C.stock k != geti D.stock k with
        | true =>
          have hp : (auT C D) k = true := by simp [auT, ht]
          go_wp2_with fail
          go_quiet (fail)
          have En := Lib.hid (numsI_yes (auT C D) k hp)
          have m1 : (numsI (auT C D) k).length + 1 ≤ maxLen := by unfold maxLen; omega
          have m2 : ((numsI (auT C D) k).length + 1) * 8 ≤ 140737488355328 := by omega
          clear hp
          go_wp2_with (at_builtin; refine wpList_app _ rfl _ _ 22 rfl X.heap.size 3 i0 (.int .i64 0) 1 8 Try.underlying22 hi hz0 hz1 hz2 rfl (by decide) u12 (numsI (auT C D) k).length (intCells (numsI (auT C D) k)) rfl ?qo (wr.heap.size + 1) (some ⟨wr.heap.size, 0, none⟩) 1 1 (intCells [(k : Int)]) rfl ?qr ?q1 m1 m2 ?qb ?_)
          case qo => first | exact owns_alloc hown _ | exact owns_alloc (owns_drewN hown _) _ | exact owns_drewN (owns_alloc hown _) _
          case qr =>
            refine Row.reads (t := 3) ?_ rfl (by omega)
            show Row _ _ _ [.int .i64 k]
            first | exact row_one _ _ _ _ (by simp; done) | exact (row_one _ _ _ _ (by simp; done)).drewN _
          case q1 => intro u hu; simp [intCells] at hu; subst hu; rfl
          case qb => simp; omega
          intro v' wz hown' hbel'
          go_wp2_with fail
          go_roundw
          case rel => exact ⟨k + 1, by omega, by go_num, by rw [En.out]; simpa [intCells] using hown', Below.trans (by repeat (first | (with_reducible exact hbel) | (with_reducible refine below_drewN ?_ _) | (with_reducible refine Below.alloc ?_ ?_ _) | (simp; omega))) hbel'⟩
          case measure => simp [intOf]; omega
        | false =>
          cases hc : geti C.cash k != geti D.cash k with
          | true =>
            have hp : (auT C D) k = true := by simp [auT, hc]
            go_wp2_with fail
            go_quiet (fail)
            have En := Lib.hid (numsI_yes (auT C D) k hp)
            have m1 : (numsI (auT C D) k).length + 1 ≤ maxLen := by unfold maxLen; omega
            have m2 : ((numsI (auT C D) k).length + 1) * 8 ≤ 140737488355328 := by omega
            clear hp
            go_wp2_with (at_builtin; refine wpList_app _ rfl _ _ 22 rfl X.heap.size 3 i0 (.int .i64 0) 1 8 Try.underlying22 hi hz0 hz1 hz2 rfl (by decide) u12 (numsI (auT C D) k).length (intCells (numsI (auT C D) k)) rfl ?qo (wr.heap.size + 1) (some ⟨wr.heap.size, 0, none⟩) 1 1 (intCells [(k : Int)]) rfl ?qr ?q1 m1 m2 ?qb ?_)
            case qo => first | exact owns_alloc hown _ | exact owns_alloc (owns_drewN hown _) _ | exact owns_drewN (owns_alloc hown _) _
            case qr =>
              refine Row.reads (t := 3) ?_ rfl (by omega)
              show Row _ _ _ [.int .i64 k]
              first | exact row_one _ _ _ _ (by simp; done) | exact (row_one _ _ _ _ (by simp; done)).drewN _
            case q1 => intro u hu; simp [intCells] at hu; subst hu; rfl
            case qb => simp; omega
            intro v' wz hown' hbel'
            go_wp2_with fail
            go_roundw
            case rel => exact ⟨k + 1, by omega, by go_num, by rw [En.out]; simpa [intCells] using hown', Below.trans (by repeat (first | (with_reducible exact hbel) | (with_reducible refine below_drewN ?_ _) | (with_reducible refine Below.alloc ?_ ?_ _) | (simp; omega))) hbel'⟩
            case measure => simp [intOf]; omega
          | false =>
            have hp : (auT C D) k = false := by simp only [auT, ht, hc]; rfl
            go_wp2_with fail
            go_quiet (fail)
            have En := Lib.hid (numsI_no (auT C D) k hp)
            go_wp2_with fail
            go_roundw
            case rel => exact ⟨k + 1, by omega, by go_num, by rw [En.out]; exact hown, below_drewN hbel _⟩
            case measure => simp [intOf]; omega
      have hge : ¬ (k : Int) < (C.stock.length : Int) := by omega
      have ek : Hid (k = C.stock.length) := by show _ = _; omega
      obtain rfl := ek.out
      obtain ⟨F1, f1, hv1, hr1⟩ := own_reads hown
      subst hv1
      have rC1 := rCr
      have rD1 := rDr
      have CC1 := CCr
      have CD1 := CDr
      have hb1 := hbel
      have bX1 := below_step bX0 hbel
      rename World => V1
      have sV1 := hb1.size
      clear hown rCr rDr CCr CDr hbel hl hs ek hk
      go_wp2_with fail
      clear x0 x1 x2 x3 x4 y0 y1 y2 y3 y4 hge
      go_loopw [13, 16] (fun v i wr => ∃ k : Nat, k ≤ C.purses.length ∧ i = .int .i64 k ∧ wr.ownsRow V1.heap.size 3 1 v (numsI (auP C D) k).length (intCells (numsI (auP C D) k)) ∧ Below V1.heap.size V1 wr) (fun _ i _ => C.purses.length - (intOf i).toNat)
      case atStart => exact ⟨0, Nat.zero_le _, rfl, owns_nil _ _ _ _, Below.refl _ _⟩
      case round =>
        obtain ⟨k, hk, rfl, hown, hbel⟩ := hrel
        have hs := hbel.size
        have hl := numsI_len (auP C D) k
        have rCr := rC1.below hbel rC1.lt
        have rDr := rD1.below hbel rD1.lt
        have CCr := CC1.keep (w' := wr) fun q hq => hbel.cell (by omega)
        have CDr := CD1.keep (w' := wr) fun q hq => hbel.cell (by omega)
        obtain ⟨_, x0, x1, x2, x3, x4⟩ := Row.at_5 rCr
        obtain ⟨_, y0, y1, y2, y3, y4⟩ := Row.at_5 rDr
        by_cases hlt : k < C.purses.length
        case pos =>
          have hlt' : (k : Int) < (C.purses.length : Int) := by omega
          have zz : wr.heap.size < wr.heap.size + 1 := Nat.lt_succ_self _
          have dk : k < D.purses.length := by have := J.out.2.2.1; omega
          have dk' : (k : Int) < (D.purses.length : Int) := by omega
          obtain ⟨pb, po, pe, _, p1, p2⟩ := CCr.s3.at3 hlt
          dsimp only at pe
          subst pe
          obtain ⟨qb, qo, qe, _, p3, p4⟩ := CDr.s3.at3 dk
          dsimp only at qe
          subst qe
          by_cases e1 : (getp C.purses k).tokens = (getp D.purses k).tokens
          case pos =>
            by_cases e2 : (getp C.purses k).til = (getp D.purses k).til
            case pos =>
              have hp : (auP C D) k = false := by simp [auP, e1, e2]
              go_wp2_with fail
              go_quiet (fail)
              have En := Lib.hid (numsI_no (auP C D) k hp)
              go_wp2_with fail
              go_roundw
              case rel => exact ⟨k + 1, by omega, by go_num, by rw [En.out]; exact hown, below_drewN hbel _⟩
              case measure => simp [intOf]; omega
            case neg =>
              have hp : (auP C D) k = true := by simp [auP, e2]
              go_wp2_with fail
              go_quiet (fail)
              have En := Lib.hid (numsI_yes (auP C D) k hp)
              have m1 : (numsI (auP C D) k).length + 1 ≤ maxLen := by unfold maxLen; omega
              have m2 : ((numsI (auP C D) k).length + 1) * 8 ≤ 140737488355328 := by omega
              clear hp
              go_wp2_with (at_builtin; refine wpList_app _ rfl _ _ 22 rfl V1.heap.size 3 i0 (.int .i64 0) 1 8 Try.underlying22 hi hz0 hz1 hz2 rfl (by decide) u13 (numsI (auP C D) k).length (intCells (numsI (auP C D) k)) rfl ?qo (wr.heap.size + 1) (some ⟨wr.heap.size, 0, none⟩) 1 1 (intCells [(k : Int)]) rfl ?qr ?q1 m1 m2 ?qb ?_)
              case qo => first | exact owns_alloc hown _ | exact owns_alloc (owns_drewN hown _) _ | exact owns_drewN (owns_alloc hown _) _
              case qr =>
                refine Row.reads (t := 3) ?_ rfl (by omega)
                show Row _ _ _ [.int .i64 k]
                first | exact row_one _ _ _ _ (by simp; done) | exact (row_one _ _ _ _ (by simp; done)).drewN _
              case q1 => intro u hu; simp [intCells] at hu; subst hu; rfl
              case qb => simp; omega
              intro v' wz hown' hbel'
              go_wp2_with fail
              go_roundw
              case rel => exact ⟨k + 1, by omega, by go_num, by rw [En.out]; simpa [intCells] using hown', Below.trans (by repeat (first | (with_reducible exact hbel) | (with_reducible refine below_drewN ?_ _) | (with_reducible refine Below.alloc ?_ ?_ _) | (simp; omega))) hbel'⟩
              case measure => simp [intOf]; omega
          case neg =>
            have hp : (auP C D) k = true := by simp [auP, e1]
            go_wp2_with fail
            go_quiet (fail)
            have En := Lib.hid (numsI_yes (auP C D) k hp)
            have m1 : (numsI (auP C D) k).length + 1 ≤ maxLen := by unfold maxLen; omega
            have m2 : ((numsI (auP C D) k).length + 1) * 8 ≤ 140737488355328 := by omega
            clear hp
            go_wp2_with (at_builtin; refine wpList_app _ rfl _ _ 22 rfl V1.heap.size 3 i0 (.int .i64 0) 1 8 Try.underlying22 hi hz0 hz1 hz2 rfl (by decide) u13 (numsI (auP C D) k).length (intCells (numsI (auP C D) k)) rfl ?qo (wr.heap.size + 1) (some ⟨wr.heap.size, 0, none⟩) 1 1 (intCells [(k : Int)]) rfl ?qr ?q1 m1 m2 ?qb ?_)
            case qo => first | exact owns_alloc hown _ | exact owns_alloc (owns_drewN hown _) _ | exact owns_drewN (owns_alloc hown _) _
            case qr =>
              refine Row.reads (t := 3) ?_ rfl (by omega)
              show Row _ _ _ [.int .i64 k]
              first | exact row_one _ _ _ _ (by simp; done) | exact (row_one _ _ _ _ (by simp; done)).drewN _
            case q1 => intro u hu; simp [intCells] at hu; subst hu; rfl
            case qb => simp; omega
            intro v' wz hown' hbel'
            go_wp2_with fail
            go_roundw
            case rel => exact ⟨k + 1, by omega, by go_num, by rw [En.out]; simpa [intCells] using hown', Below.trans (by repeat (first | (with_reducible exact hbel) | (with_reducible refine below_drewN ?_ _) | (with_reducible refine Below.alloc ?_ ?_ _) | (simp; omega))) hbel'⟩
            case measure => simp [intOf]; omega
        have hge : ¬ (k : Int) < (C.purses.length : Int) := by omega
        have ek : Hid (k = C.purses.length) := by show _ = _; omega
        obtain rfl := ek.out
        obtain ⟨F2, f2, hv2, hr2⟩ := own_reads hown
        subst hv2
        have rC2 := rCr
        have rD2 := rDr
        have CC2 := CCr
        have CD2 := CDr
        have hb2 := hbel
        have bX2 := below_step bX1 hbel
        rename World => V2
        have sV2 := hb2.size
        clear hown rCr rDr CCr CDr hbel hl hs ek hk
        go_wp2_with fail
        clear x0 x1 x2 x3 x4 y0 y1 y2 y3 y4 hge
        go_loopw [14, 17] (fun v i wr => ∃ k : Nat, k ≤ C.boxes.length ∧ i = .int .i64 k ∧ wr.ownsRow V2.heap.size 3 1 v (numsI (auB C D) k).length (intCells (numsI (auB C D) k)) ∧ Below V2.heap.size V2 wr) (fun _ i _ => C.boxes.length - (intOf i).toNat)
        case atStart => exact ⟨0, Nat.zero_le _, rfl, owns_nil _ _ _ _, Below.refl _ _⟩
        case round =>
          obtain ⟨k, hk, rfl, hown, hbel⟩ := hrel
          have hs := hbel.size
          have hl := numsI_len (auB C D) k
          have rCr := rC2.below hbel rC2.lt
          have rDr := rD2.below hbel rD2.lt
          have CCr := CC2.keep (w' := wr) fun q hq => hbel.cell (by omega)
          have CDr := CD2.keep (w' := wr) fun q hq => hbel.cell (by omega)
          obtain ⟨_, x0, x1, x2, x3, x4⟩ := Row.at_5 rCr
          obtain ⟨_, y0, y1, y2, y3, y4⟩ := Row.at_5 rDr
          by_cases hlt : k < C.boxes.length
          case pos =>
            have hlt' : (k : Int) < (C.boxes.length : Int) := by omega
            have zz : wr.heap.size < wr.heap.size + 1 := Nat.lt_succ_self _
            have dk : k < D.boxes.length := by have := J.out.2.2.2.1; omega
            have dk' : (k : Int) < (D.boxes.length : Int) := by omega
            obtain ⟨cab, cao, cae, _, cap⟩ := CCr.s4.at1 (k := k) hlt
            dsimp only at cae
            subst cae
            have caq : wr.cell? ⟨cab, cao + k, none⟩ = some (.int .i64 (geti C.boxes k)) := cap k hlt
            clear cap
            obtain ⟨dab, dao, dae, _, dap⟩ := CDr.s4.at1 (k := k) dk
            dsimp only at dae
            subst dae
            have daq : wr.cell? ⟨dab, dao + k, none⟩ = some (.int .i64 (geti D.boxes k)) := dap k dk
            clear dap
            cases ht : geti C.boxes k != geti D.boxes k with
            | true =>
              have hp : (auB C D) k = true := by simp [auB, ht]
              go_wp2_with fail
              go_quiet (fail)
              have En := Lib.hid (numsI_yes (auB C D) k hp)
              have m1 : (numsI (auB C D) k).length + 1 ≤ maxLen := by unfold maxLen; omega
              have m2 : ((numsI (auB C D) k).length + 1) * 8 ≤ 140737488355328 := by omega
              clear hp
              go_wp2_with (at_builtin; refine wpList_app _ rfl _ _ 22 rfl V2.heap.size 3 i0 (.int .i64 0) 1 8 Try.underlying22 hi hz0 hz1 hz2 rfl (by decide) u14 (numsI (auB C D) k).length (intCells (numsI (auB C D) k)) rfl ?qo (wr.heap.size + 1) (some ⟨wr.heap.size, 0, none⟩) 1 1 (intCells [(k : Int)]) rfl ?qr ?q1 m1 m2 ?qb ?_)
              case qo => first | exact owns_alloc hown _ | exact owns_alloc (owns_drewN hown _) _ | exact owns_drewN (owns_alloc hown _) _
              case qr =>
                refine Row.reads (t := 3) ?_ rfl (by omega)
                show Row _ _ _ [.int .i64 k]
                first | exact row_one _ _ _ _ (by simp; done) | exact (row_one _ _ _ _ (by simp; done)).drewN _
              case q1 => intro u hu; simp [intCells] at hu; subst hu; rfl
              case qb => simp; omega
              intro v' wz hown' hbel'
              go_wp2_with fail
              go_roundw
              case rel => exact ⟨k + 1, by omega, by go_num, by rw [En.out]; simpa [intCells] using hown', Below.trans (by repeat (first | (with_reducible exact hbel) | (with_reducible refine below_drewN ?_ _) | (with_reducible refine Below.alloc ?_ ?_ _) | (simp; omega))) hbel'⟩
              case measure => simp [intOf]; omega
            | false =>
              have hp : (auB C D) k = false := by simp only [auB, ht]
              go_wp2_with fail
              go_quiet (fail)
              have En := Lib.hid (numsI_no (auB C D) k hp)
              go_wp2_with fail
              go_roundw
              case rel => exact ⟨k + 1, by omega, by go_num, by rw [En.out]; exact hown, below_drewN hbel _⟩
              case measure => simp [intOf]; omega
          have hge : ¬ (k : Int) < (C.boxes.length : Int) := by omega
          have ek : Hid (k = C.boxes.length) := by show _ = _; omega
          obtain rfl := ek.out
          obtain ⟨F3, f3, hv3, hr3⟩ := own_reads hown
          subst hv3
          have rC3 := rCr
          have rD3 := rDr
          have CC3 := CCr
          have CD3 := CDr
          have hb3 := hbel
          have bX3 := below_step bX2 hbel
          rename World => V3
          have sV3 := hb3.size
          clear hown rCr rDr CCr CDr hbel hl hs ek hk
          go_wp2_with fail
          refine bodyPost_ret (v := .tuple #[.slice F1 (numsI (auT C D) C.stock.length).length f1, .slice F2 (numsI (auP C D) C.purses.length).length f2, .slice F3 (numsI (auB C D) C.boxes.length).length f3, .int .i64 0]) (by simp [results, Try.results28, go_sem, *]) rfl ?_
          refine ⟨bX3, F1, f1, F2, f2, F3, f3, by rw [Ha.out], ?_, ?_, ?_⟩
          · rw [Ha.out]
            exact (((hr1.below hb2).below (hb3.mono sV2))).more (by omega)
          · rw [Ha.out]
            exact (hr2.below hb3).more (by omega)
          · rw [Ha.out]
            exact hr3
end Go.Proofs.Ytfcalfccogbgnaa
/- TokensAccounts: Account and Audit return what the specification returns, for every count. No conditions. -/
namespace Go.Proofs.Ytfcalfccogbgnaa
open Go.RowKit

theorem acc_six (F : Fair) (l : List Deal) : ∃ a0 a1 a2 a3 a4 a5, (accS F l).1 = [a0, a1, a2, a3, a4, a5] := by
  by_cases he : errS F l = 0
  · rw [acc_ok he]; exact ⟨_, _, _, _, _, _, rfl⟩
  · rw [acc_err he]; exact ⟨_, _, _, _, _, _, rfl⟩

theorem aud_len (F : Fair) (l : List Deal) (D : Count) : (audS F l D).1.length ≤ maxLen ∧ (audS F l D).2.1.length ≤ maxLen ∧ (audS F l D).2.2.1.length ≤ maxLen := by
  unfold audS maxLen
  by_cases he : errS F l = 0
  · have hw := went he
    have hb := bounds_of hw.val
    have u1 : (playS F l).stock.length ≤ 8 := by rw [hw.inv.n1]; exact hb.s2
    have u3 : (playS F l).purses.length ≤ 20 := by rw [hw.inv.n3]; have := hb.p2; omega
    have u4 : (playS F l).boxes.length ≤ 12 := by rw [hw.inv.n4]; have := hb.x2; omega
    rw [if_pos he]
    have v1 := numsI_len (auT (playS F l) D) (playS F l).stock.length
    have v3 := numsI_len (auP (playS F l) D) (playS F l).purses.length
    have v4 := numsI_len (auB (playS F l) D) (playS F l).boxes.length
    split
    · exact ⟨by dsimp only; omega, by dsimp only; omega, by dsimp only; omega⟩
    · exact ⟨Nat.zero_le _, Nat.zero_le _, Nat.zero_le _⟩
  · rw [if_neg he]
    exact ⟨Nat.zero_le _, Nat.zero_le _, Nat.zero_le _⟩

set_option maxHeartbeats 4000000 in
set_option maxRecDepth 100000 in
theorem accounts_walk (F : Fair) (R : Refs) (l : List Deal) (D : Count) (L : CRefs) (A : Option Addr) (c B : Nat) (w : World) (hB : B ≤ w.heap.size) (hF : FairIn w B F R) (hl : Reads w B 5 A l.length (dealCells l)) (hn : l.length ≤ maxLen) (hc : l.length ≤ c) (hcm : c ≤ maxLen) (hD : CountIn w B D L) :
    Calls Try.prog 4 #[fairV F R, .slice A l.length c, countV D L] w (WPost w) := by
  obtain ⟨S1, k1, S2, k2, S3, k3⟩ := R
  obtain ⟨B1, d1, B2, d2, B3, d3, B4, d4⟩ := L
  obtain ⟨W, hW⟩ : ∃ W, W = (w.alloc (.cells (fairCells F ⟨S1, k1, S2, k2, S3, k3⟩) 25)).alloc (.cells #[.slice B1 D.stock.length d1, .slice B2 D.cash.length d2, .slice B3 D.purses.length d3, .slice B4 D.boxes.length d4, .int .i64 D.lost] 35) := ⟨_, rfl⟩
  have sW : W.heap.size = w.heap.size + 2 := by subst hW; simp
  have bW : Below w.heap.size w W := by subst hW; exact ((Below.refl _ _).alloc (Nat.le_refl _) _).alloc (by simp) _
  have rF : Row W w.heap.size 25 [.int .i64 F.purses, .int .i64 F.boxes, .slice S1 F.stock.length k1, .slice S2 F.cash.length k2, .slice S3 F.bundles.length k3, .int .i64 F.refund, .int .i64 F.band, .int .i64 F.hours] := by subst hW; exact (row_new _ _ _ _ rfl).alloc _
  have rD : Row W (w.heap.size + 1) 35 [.slice B1 D.stock.length d1, .slice B2 D.cash.length d2, .slice B3 D.purses.length d3, .slice B4 D.boxes.length d4, .int .i64 D.lost] := by subst hW; exact row_new _ _ _ _ (by simp)
  unfold fairV countV
  dsimp only
  cases hlong : longB l with
  | true =>
    go_enter Try.func4, Try.ntmps4
    go_wp2_with (go_at_call 14; refine (long_any l _ _ _ hn).mono ?_; rintro e w' ⟨rfl, rfl⟩)
    rw [← hW]
    refine (works_any _).mono ?_
    rintro e w1 ⟨rfl, hb1⟩
    go_wp2_with fail
    go_ret
    exact ⟨rfl, below_step bW hb1⟩
  | false =>
    obtain ⟨_, q0, q1, q2, q3, q4, q5, q6, q7⟩ := Row.cells8 rF
    obtain ⟨_, y0, y1, y2, y3, y4⟩ := Row.at_5 rD
    obtain ⟨a0, a1, a2, a3, a4, a5, hacc⟩ := acc_six F l
    go_enter Try.func4, Try.ntmps4
    go_wp2_with (go_at_call 14; refine (long_any l _ _ _ hn).mono ?_; rintro e w' ⟨rfl, rfl⟩)
    rw [← hW]
    clear hW hlong
    refine (Account_any F ⟨S1, k1, S2, k2, S3, k3⟩ l A c B W (by omega) (hF.below (bW.mono hB)) (hl.below (bW.mono hB)) hn).mono ?_
    rintro e w1 ⟨hb1, rfl⟩
    have b1 := below_step bW hb1
    have s1 := hb1.size
    replace rF := rF.below hb1 rF.lt
    replace rD := rD.below hb1 rD.lt
    clear q0 q1 q2 q3 q4 q5 q6 q7 y0 y1 y2 y3 y4
    obtain ⟨_, q0, q1, q2, q3, q4, q5, q6, q7⟩ := Row.cells8 rF
    obtain ⟨_, y0, y1, y2, y3, y4⟩ := Row.at_5 rD
    have z1 := rF.lt
    have z1' := rD.lt
    rw [hacc]
    simp only [intCells, List.map_cons, List.map_nil]
    go_wp2_with fail
    obtain ⟨X, hX⟩ : ∃ X, X = w1.alloc (.cells #[.int .i64 a0, .int .i64 a1, .int .i64 a2, .int .i64 a3, .int .i64 a4, .int .i64 a5] 42) := ⟨_, rfl⟩
    rw [← hX]
    have bX : Below w1.heap.size w1 X := by subst hX; exact (Below.refl _ _).alloc (Nat.le_refl _) _
    have sX : X.heap.size = w1.heap.size + 1 := by subst hX; simp
    have rX : Row X w1.heap.size 42 [.int .i64 a0, .int .i64 a1, .int .i64 a2, .int .i64 a3, .int .i64 a4, .int .i64 a5] := by subst hX; exact row_new _ _ _ _ rfl
    have BX := below_step b1 bX
    clear hX
    replace rF := rF.below bX rF.lt
    replace rD := rD.below bX rD.lt
    clear q0 q1 q2 q3 q4 q5 q6 q7 y0 y1 y2 y3 y4
    obtain ⟨_, q0, q1, q2, q3, q4, q5, q6, q7⟩ := Row.cells8 rF
    obtain ⟨_, y0, y1, y2, y3, y4⟩ := Row.at_5 rD
    refine (rAccount_any F ⟨S1, k1, S2, k2, S3, k3⟩ l A c B X (by omega) (hF.below (BX.mono hB)) (hl.below (BX.mono hB)) hn hc hcm).mono ?_
    rintro e w2 ⟨hb2, rfl⟩
    have b2 := below_step BX hb2
    have s2 := hb2.size
    replace rX := rX.below hb2 rX.lt
    replace rF := rF.below hb2 rF.lt
    replace rD := rD.below hb2 rD.lt
    clear q0 q1 q2 q3 q4 q5 q6 q7 y0 y1 y2 y3 y4
    obtain ⟨_, q0, q1, q2, q3, q4, q5, q6, q7⟩ := Row.cells8 rF
    obtain ⟨_, y0, y1, y2, y3, y4⟩ := Row.at_5 rD
    have z2 := rF.lt
    have z2' := rD.lt
    have z2x := rX.lt
    obtain ⟨_, x0, x1, x2, x3, x4, x5⟩ := six rX
    rw [hacc]
    simp only [intCells, List.map_cons, List.map_nil]
    go_wp2_with fail
    obtain ⟨Y, hY⟩ : ∃ Y, Y = w2.alloc (.cells #[.int .i64 a0, .int .i64 a1, .int .i64 a2, .int .i64 a3, .int .i64 a4, .int .i64 a5] 42) := ⟨_, rfl⟩
    rw [← hY]
    have bY : Below w2.heap.size w2 Y := by subst hY; exact (Below.refl _ _).alloc (Nat.le_refl _) _
    have BY := below_step b2 bY
    have sY : Y.heap.size = w2.heap.size + 1 := by subst hY; simp
    clear hY x0 x1 x2 x3 x4 x5
    replace rF := rF.below bY rF.lt
    replace rD := rD.below bY rD.lt
    clear q0 q1 q2 q3 q4 q5 q6 q7 y0 y1 y2 y3 y4
    obtain ⟨_, q0, q1, q2, q3, q4, q5, q6, q7⟩ := Row.cells8 rF
    obtain ⟨_, y0, y1, y2, y3, y4⟩ := Row.at_5 rD
    refine (Audit_any F ⟨S1, k1, S2, k2, S3, k3⟩ l D ⟨B1, d1, B2, d2, B3, d3, B4, d4⟩ A c B Y (by omega) (hF.below (BY.mono hB)) (hl.below (BY.mono hB)) hn (hD.keep fun p hp => BY.cell (by omega))).mono ?_
    rintro e w3 ⟨hb3, A1, c1, A2, c2, A3, c3, rfl, R1, R2, R3⟩
    have b3 := below_step BY hb3
    have s3 := hb3.size
    replace rF := rF.below hb3 rF.lt
    replace rD := rD.below hb3 rD.lt
    clear q0 q1 q2 q3 q4 q5 q6 q7 y0 y1 y2 y3 y4
    obtain ⟨_, q0, q1, q2, q3, q4, q5, q6, q7⟩ := Row.cells8 rF
    obtain ⟨_, y0, y1, y2, y3, y4⟩ := Row.at_5 rD
    go_wp2_with fail
    refine (rAudit_any F ⟨S1, k1, S2, k2, S3, k3⟩ l D ⟨B1, d1, B2, d2, B3, d3, B4, d4⟩ A c B w3 (by omega) (hF.below (b3.mono hB)) (hl.below (b3.mono hB)) hn (hD.keep fun p hp => b3.cell (by omega))).mono ?_
    rintro e w4 ⟨hb4, E1, e1, E2, e2, E3, e3, rfl, T1, T2, T3⟩
    have b4 := below_step b3 hb4
    have s4 := hb4.size
    have n1 := aud_len F l D
    obtain ⟨n1, n2, n3⟩ := n1
    replace R1 := (R1.below hb4).more s4
    replace R2 := (R2.below hb4).more s4
    replace R3 := (R3.below hb4).more s4
    clear q0 q1 q2 q3 q4 q5 q6 q7 y0 y1 y2 y3 y4
    go_wp2_with fail
    refine (sameInts_any (audS F l D).1 (audS F l D).1 A1 E1 _ _ c1 e1 w4.heap.size w4.heap.size w4 R1 T1 n1 n1).mono ?_
    rintro e w5 ⟨rfl, p5⟩
    have kp5 : ∀ p : Addr, p.block < w4.heap.size → w5.cell? p = w4.cell? p := fun p hp => World.cell?_of_block (p5.block p.block (by omega) (by simp))
    go_wp2_with fail
    refine (sameInts_any (audS F l D).2.1 (audS F l D).2.1 A2 E2 _ _ c2 e2 w4.heap.size w4.heap.size w5 (R2.keep kp5) (T2.keep kp5) n2 n2).mono ?_
    rintro e w6 ⟨rfl, p6⟩
    have p6 := p5.trans p6
    have kp6 : ∀ p : Addr, p.block < w4.heap.size → w6.cell? p = w4.cell? p := fun p hp => World.cell?_of_block (p6.block p.block (by omega) (by simp))
    go_wp2_with fail
    refine (sameInts_any (audS F l D).2.2.1 (audS F l D).2.2.1 A3 E3 _ _ c3 e3 w4.heap.size w4.heap.size w6 (R3.keep kp6) (T3.keep kp6) n3 n3).mono ?_
    rintro e w7 ⟨rfl, p7⟩
    have p7 := p6.trans p7
    go_wp2_with fail
    refine (works_any _).mono ?_
    rintro e w8 ⟨rfl, hb8⟩
    go_wp2_with fail
    go_ret
    exact ⟨rfl, below_step (b4.trans (p7.to_below (by omega) (by simp))) hb8⟩
end Go.Proofs.Ytfcalfccogbgnaa
namespace Go.Proofs.Ytfcalfccogbgnaa
open Go.Joins Go.ChangeShapes Go.WideShapes Go.ChangeAt Go.RowKit Go.Deep

theorem open_deals4 {H : Type} {enc : TypeId × Value → H} {P : Program} {w : World} {base : Nat} {spare : Nat → Bool} {held : Bool} {t e : TypeId} {f0 f1 f2 f3 f4 : Field} {fuel : Nat} {v : Value} {x : DataW H × List MemPlace} (ht : P.underlying t = some (.slice e)) (he : P.underlying e = some (.struct #[f0, f1, f2, f3, f4])) (hone : oneCellFields P #[f0, f1, f2, f3, f4] = true) (hC : P.cellsOf e = 5)
    (h0 : P.underlying f0.type = some (.int .i64)) (h1 : P.underlying f1.type = some (.int .i64)) (h2 : P.underlying f2.type = some (.int .i64)) (h3 : P.underlying f3.type = some (.int .i64)) (h4 : P.underlying f4.type = some (.int .i64)) (h : DataW.trod enc P w base spare held fuel t [v] = some x) :
    ∃ A c l, v = .slice A (List.length l) c ∧ Reads w w.heap.size 5 A l.length (dealCells l) ∧ l.length ≤ c ∧ c ≤ maxLen := by
  rcases open_slice_fields ht he hone hC h with hcs | ⟨a, len, cap, hcs, hl, hm, hi⟩
  · injection hcs with h1 _
    exact ⟨none, 0, [], h1, Reads.none_, Nat.zero_le _, Nat.zero_le _⟩
  · injection hcs with hv _
    obtain ⟨l, hll, hq⟩ := exists_list (α := Deal) (fun i b => w.cell? (a.add (i * 5)) = some (.int .i64 b.at_) ∧ w.cell? (a.add (i * 5 + 1)) = some (.int .i64 b.kind) ∧ w.cell? (a.add (i * 5 + 2)) = some (.int .i64 b.a) ∧ w.cell? (a.add (i * 5 + 3)) = some (.int .i64 b.b) ∧ w.cell? (a.add (i * 5 + 4)) = some (.int .i64 b.n)) len (fun i hil => by
      obtain ⟨n, hf⟩ := hi i hil
      obtain ⟨u0, y0, c0, t0⟩ := hf 0 f0 rfl
      obtain ⟨u1, y1, c1, t1⟩ := hf 1 f1 rfl
      obtain ⟨u2, y2, c2, t2⟩ := hf 2 f2 rfl
      obtain ⟨u3, y3, c3, t3⟩ := hf 3 f3 rfl
      obtain ⟨u4, y4, c4, t4⟩ := hf 4 f4 rfl
      obtain ⟨k0, e0, _, _⟩ := DataW.trod_int h0 t0
      obtain ⟨k1, e1, _, _⟩ := DataW.trod_int h1 t1
      obtain ⟨k2, e2, _, _⟩ := DataW.trod_int h2 t2
      obtain ⟨k3, e3, _, _⟩ := DataW.trod_int h3 t3
      obtain ⟨k4, e4, _, _⟩ := DataW.trod_int h4 t4
      injection e0 with e0 _; injection e1 with e1 _; injection e2 with e2 _; injection e3 with e3 _; injection e4 with e4 _
      subst e0; subst e1; subst e2; subst e3; subst e4
      exact ⟨⟨k0, k1, k2, k3, k4⟩, by simpa using c0, by simpa using c1, by simpa using c2, by simpa using c3, by simpa using c4⟩)
    refine ⟨some a, cap, l, by rw [hll]; exact hv, reads_of (dealCells_length l) (by omega) (fun j u hu => ?_), by omega, hm⟩
    have hj : j < l.length * 5 := by have := (List.getElem?_eq_some_iff.1 hu).1; rw [dealCells_length] at this; exact this
    obtain ⟨b0, b1, b2, b3, b4⟩ := dealCells_at l (j / 5) (by omega)
    have hq' := hq (j / 5) (by omega)
    have hg : getd l (j / 5) = l[j / 5]'(by omega) := by simp only [getd, List.getElem?_eq_getElem (show j / 5 < l.length by omega), Option.getD_some]
    rw [hg] at b0 b1 b2 b3 b4
    have hm5 : j % 5 = 0 ∨ j % 5 = 1 ∨ j % 5 = 2 ∨ j % 5 = 3 ∨ j % 5 = 4 := by omega
    rcases hm5 with h5 | h5 | h5 | h5 | h5
    · rw [show j / 5 * 5 = j from by omega] at b0 hq'
      rw [b0] at hu; injection hu with hu; rw [← hu]; exact hq'.1
    · rw [show j / 5 * 5 + 1 = j from by omega] at b1 hq'
      rw [b1] at hu; injection hu with hu; rw [← hu]; exact hq'.2.1
    · rw [show j / 5 * 5 + 2 = j from by omega] at b2 hq'
      rw [b2] at hu; injection hu with hu; rw [← hu]; exact hq'.2.2.1
    · rw [show j / 5 * 5 + 3 = j from by omega] at b3 hq'
      rw [b3] at hu; injection hu with hu; rw [← hu]; exact hq'.2.2.2.1
    · rw [show j / 5 * 5 + 4 = j from by omega] at b4 hq'
      rw [b4] at hu; injection hu with hu; rw [← hu]; exact hq'.2.2.2.2

section
variable {H : Type} {enc : TypeId × Value → H} {P : Program} {w : World} {base : Nat} {spare : Nat → Bool} {held : Bool}
theorem open_purses {t e : TypeId} {f0 f1 : Field} {fuel : Nat} {v : Value} {x : DataW H × List MemPlace} (ht : P.underlying t = some (.slice e)) (he : P.underlying e = some (.struct #[f0, f1])) (hone : oneCellFields P #[f0, f1] = true) (hC : P.cellsOf e = 2)
    (h0 : P.underlying f0.type = some (.int .i64)) (h1 : P.underlying f1.type = some (.int .i64)) (h : DataW.trod enc P w base spare held fuel t [v] = some x) :
    ∃ A c l, v = .slice A (List.length l) c ∧ Reads w w.heap.size 2 A l.length (purseCells l) ∧ l.length ≤ maxLen := by
  rcases open_slice_fields ht he hone hC h with hcs | ⟨a, len, cap, hcs, hl, hm, hi⟩
  · injection hcs with h1 _
    exact ⟨none, 0, [], h1, Reads.none_, Nat.zero_le _⟩
  · injection hcs with hv _
    obtain ⟨l, hll, hq⟩ := exists_list (α := Purse) (fun i b => w.cell? (a.add (i * 2)) = some (.int .i64 b.tokens) ∧ w.cell? (a.add (i * 2 + 1)) = some (.int .i64 b.til)) len (fun i hil => by
      obtain ⟨n, hf⟩ := hi i hil
      obtain ⟨u0, y0, c0, t0⟩ := hf 0 f0 rfl
      obtain ⟨u1, y1, c1, t1⟩ := hf 1 f1 rfl
      obtain ⟨k0, e0, _, _⟩ := DataW.trod_int h0 t0
      obtain ⟨k1, e1, _, _⟩ := DataW.trod_int h1 t1
      injection e0 with e0 _
      injection e1 with e1 _
      subst e0; subst e1
      exact ⟨⟨k0, k1⟩, by simpa using c0, by simpa using c1⟩)
    refine ⟨some a, cap, l, by rw [hll]; exact hv, reads_of (purseCells_length l) (by omega) (fun j u hu => ?_), by omega⟩
    have hj : j < l.length * 2 := by have := (List.getElem?_eq_some_iff.1 hu).1; rw [purseCells_length] at this; exact this
    obtain ⟨b0, b1⟩ := purseCells_at l (j / 2) (by omega)
    have hq' := hq (j / 2) (by omega)
    have hg : getp l ((j / 2 : Nat) : Int) = l[j / 2]'(by omega) := by simp only [getp, Int.toNat_natCast, List.getElem?_eq_getElem (show j / 2 < l.length by omega), Option.getD_some]
    rw [hg] at b0 b1
    rcases Nat.mod_two_eq_zero_or_one j with h2 | h2
    · rw [show j / 2 * 2 = j from by omega] at b0 hq'
      rw [b0] at hu; injection hu with hu; rw [← hu]; exact hq'.1
    · rw [show j / 2 * 2 + 1 = j from by omega] at b1 hq'
      rw [b1] at hu; injection hu with hu; rw [← hu]; exact hq'.2
end
section
variable {H : Type} {enc : TypeId × Value → H} {P : Program} {w : World} {base : Nat} {spare : Nat → Bool} {held : Bool}
theorem open_agg5c {r : Reach} {b0 : Nat} {t : TypeId} {f0 f1 f2 f3 f4 : Field} {v : Value} {d : DataW H} {p : List MemPlace} (hs : P.underlying t = some (.struct #[f0, f1, f2, f3, f4])) (hone : oneCellFields P #[f0, f1, f2, f3, f4] = true) (hC : P.cellsOf t = 5)
    (hv : Value.okWide P w r b0 t v) (h : DataW.Trod enc P w base spare held t v d p) :
    ∃ (v0 v1 v2 v3 v4 : Value) (y0 y1 y2 y3 y4 : DataW H × List MemPlace) (n : Nat), v = .agg #[v0, v1, v2, v3, v4] ∧
      DataW.trod enc P w base spare held n f0.type [v0] = some y0 ∧ DataW.trod enc P w base spare held n f1.type [v1] = some y1 ∧ DataW.trod enc P w base spare held n f2.type [v2] = some y2 ∧ DataW.trod enc P w base spare held n f3.type [v3] = some y3 ∧ DataW.trod enc P w base spare held n f4.type [v4] = some y4 := by
  obtain ⟨cs, rfl, hsz⟩ := okWide_struct hs hv
  obtain ⟨l⟩ := cs
  match l, hsz.trans hC with
  | [c0, c1, c2, c3, c4], _ =>
    obtain ⟨fuel, hf⟩ := h
    obtain ⟨xs, n, _, hx, _, hlen, hg⟩ := DataW.trod_struct hs hf
    obtain ⟨o0, k0⟩ := hone_of hone 0 f0 rfl
    obtain ⟨o1, k1⟩ := hone_of hone 1 f1 rfl
    obtain ⟨o2, k2⟩ := hone_of hone 2 f2 rfl
    obtain ⟨o3, k3⟩ := hone_of hone 3 f3 rfl
    obtain ⟨o4, k4⟩ := hone_of hone 4 f4 rfl
    match xs, hlen with
    | [y0, y1, y2, y3, y4], _ =>
      exact ⟨c0, c1, c2, c3, c4, y0, y1, y2, y3, y4, n, rfl, by simpa [Value.cells, o0, k0] using hg 0 f0 rfl, by simpa [Value.cells, o1, k1] using hg 1 f1 rfl, by simpa [Value.cells, o2, k2] using hg 2 f2 rfl, by simpa [Value.cells, o3, k3] using hg 3 f3 rfl, by simpa [Value.cells, o4, k4] using hg 4 f4 rfl⟩
end
set_option maxRecDepth 100000 in
/-- A count that came in. -/
theorem open_count {H : Type} {enc : TypeId × Value → H} {w : World} {r : Reach} {b0 : Nat} {v : Value} {d : DataW H} {p : List MemPlace} (hv : Value.okWide Try.prog w r b0 35 v)
    (h : DataW.Trod enc Try.prog w 0 (fun _ => true) true 35 v d p) : ∃ C K, v = countV C K ∧ CountIn w w.heap.size C K := by
  obtain ⟨v0, v1, v2, v3, v4, y0, y1, y2, y3, y4, n, rfl, h0, h1, h2, h3, h4⟩ := open_agg5c Try.underlying35 (by kernel_rfl) (by kernel_rfl) hv h
  obtain ⟨A1, c1, z1, rfl, r1, l1, _⟩ := open_nums Try.underlying22 Try.underlying3 (by kernel_rfl) (fun _ => rfl) h0
  obtain ⟨A2, c2, z2, rfl, r2, l2, _⟩ := open_nums Try.underlying22 Try.underlying3 (by kernel_rfl) (fun _ => rfl) h1
  obtain ⟨A3, c3, z3, rfl, r3, l3⟩ := open_purses Try.underlying33 Try.underlying62 (by kernel_rfl) (by kernel_rfl) Try.underlying3 Try.underlying3 h2
  obtain ⟨A4, c4, z4, rfl, r4, l4, _⟩ := open_nums Try.underlying22 Try.underlying3 (by kernel_rfl) (fun _ => rfl) h3
  obtain ⟨k4, e4, _, _⟩ := DataW.trod_int Try.underlying3 h4
  injection e4 with e4 _
  subst e4
  exact ⟨⟨z1, z2, z3, z4, k4⟩, ⟨A1, c1, A2, c2, A3, c3, A4, c4⟩, rfl, ⟨r1, r2, r3, r4, l1, l2, l3, l4⟩⟩

set_option maxRecDepth 100000 in
theorem accounts_lifted (os : Os) (started : os.Started) (H : Type) (enc : TypeId × Value → H) :
    ReturnsInHanded {} Try.checked os 4 .any (Rows.tokensAccountsSpec.pre6 enc Try.prog Try.f4 Rows.tokensAccountsRow.domain false) (Rows.tokensAccountsSpec.post enc Try.prog Try.f4 false true false false) := by
  refine returnsInHanded_of_change (C := Try.checked) Try.own started (by kernel_rfl) Try.func4
    (ChangeSpec.witness6 (enc := enc) (C := Try.checked) false ⟨#[], #[.agg #[.int .i64 0, .int .i64 0, .slice none 0 0, .slice none 0 0, .slice none 0 0, .int .i64 0, .int .i64 0, .int .i64 0], .slice none 0 0, .agg #[.slice none 0 0, .slice none 0 0, .slice none 0 0, .slice none 0 0, .int .i64 0]], []⟩ 8 (by kernel_rfl) (by kernel_rfl) (by kernel_rfl) (by kernel_rfl)) ?_
  intro W base args ds gs before hval0 hW hcnd _
  have hval : ∀ (j : Nat) t v, Try.f4.params[j]? = some t → args[j]? = some v → Value.okWide Try.prog W .any base t v := hval0
  have hW' := hW
  obtain ⟨p, q, hA0, hV, rfl, hfz, hnd⟩ := hW
  have hA : DataW.TrodAll enc Try.prog W 0 (fun _ => true) true Try.f4.params.toList args.toList ds p := hA0
  rw [Try.params4] at hA hval
  obtain ⟨v0, vs0, d0, ds0, p0, q0, hargs, rfl, rfl, h0, r0⟩ := trodAll_cons hA
  obtain ⟨v1, vs1, d1, ds1, p1, q1, rfl, rfl, rfl, h1, r1⟩ := trodAll_cons r0
  obtain ⟨v2, vs2, d2, ds2, p2, q2, rfl, rfl, rfl, h2, r2⟩ := trodAll_cons r1
  obtain ⟨rfl, rfl, rfl⟩ := trodAll_nil r2
  obtain rfl : args = #[v0, v1, v2] := by cases args; simp_all
  obtain ⟨rfl, rfl⟩ := trodVars_none hV
  have k0 := h0
  have k1 := h1
  have k2 := h2
  have lt0 : ∀ x ∈ p0, x.block < W.heap.size := by obtain ⟨m, hm⟩ := k0; exact DataW.trod_lt m _ _ _ hm
  have lt1 : ∀ x ∈ p1, x.block < W.heap.size := by obtain ⟨m, hm⟩ := k1; exact DataW.trod_lt m _ _ _ hm
  have lt2 : ∀ x ∈ p2, x.block < W.heap.size := by obtain ⟨m, hm⟩ := k2; exact DataW.trod_lt m _ _ _ hm
  obtain ⟨F, R, rfl, hF⟩ := open_fair (hval 0 25 v0 rfl rfl) h0
  obtain ⟨a1, len1, cap1, rfl⟩ := okWide_slice Try.underlying26 (hval 1 26 v1 rfl rfl)
  obtain ⟨fuel, hf⟩ := h1
  obtain ⟨A, c, l, hv1, hl, hlc, hcm⟩ := open_deals4 Try.underlying26 Try.underlying65 (by kernel_rfl) (by kernel_rfl) Try.underlying3 Try.underlying3 Try.underlying3 Try.underlying3 Try.underlying3 (by simpa [Value.cells] using hf)
  obtain ⟨D, L, rfl, hD⟩ := open_count (hval 2 35 v2 rfl rfl) h2
  rw [hv1] at hW' k1 ⊢
  clear hA0 hval0
  refine (accounts_walk F R l D L A c W.heap.size W (Nat.le_refl _) hF hl (by omega) hlc hcm hD).mono fun e W' ⟨he, bel⟩ => ?_
  subst he
  exact ⟨_, rfl, _, _, _, [], _, [], hW', trodAll_mk1 (shut_bool Try.underlying4 _), (trodAll_cons_mk (Below.trod Try.laidOut (by kernel_rfl) (of_decide_eq_true (by kernel_rfl)) k0 bel lt0) (trodAll_cons_mk (Below.trod Try.laidOut (by kernel_rfl) (of_decide_eq_true (by kernel_rfl)) k1 bel lt1) (trodAll_cons_mk (Below.trod Try.laidOut (by kernel_rfl) (of_decide_eq_true (by kernel_rfl)) k2 bel lt2) trodAll_mk0))), rfl, bel.frame _, fun h => by cases h⟩

theorem accounts_holds : Rows.TokensAccountsSaid :=
  OpenClaim.holds_of_wide 4 Try.f4 rfl rfl rfl rfl rfl rfl rfl ⟨rfl, rfl, rfl, rfl, rfl⟩ rfl rfl rfl rfl rfl (by kernel_rfl) Try.func4 (by kernel_rfl)
    (of_decide_eq_true (by kernel_rfl)) (by unfold Func.isWrapper; first | (rw [if_pos (by decide +kernel)]; kernel_rfl) | (rw [if_neg (by decide +kernel)]; exact ⟨rfl, rfl⟩))
    (fun os started H enc _ => accounts_lifted os started H enc)
#print axioms accounts_holds
end Go.Proofs.Ytfcalfccogbgnaa
