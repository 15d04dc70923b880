/- Contract of the statements' Far. Conditions: the groups read as data. -/
import Derived.Test.YtijbhcdnbaaobaaHt
/- Contracts of the specification's from and checkEvening. Conditions: the rides read as data. -/
namespace Go.Proofs.Ytijbhcdnbaaobaa
open Go.RowKit

set_option maxHeartbeats 400000 in
theorem rfrom_any (n lo hi : Int) (w : World) : Calls Try.prog 45 #[.int .i64 n, .int .i64 lo, .int .i64 hi] w fun e w' => e = .returned (.bool (inB n lo hi)) ∧ w = w' := by
  go_enter Try.func45, Try.ntmps45
  by_cases h1 : lo ≤ n
  · have d1 : decide (lo ≤ n) = true := by simpa using h1
    go_wp2_with fail
    go_ret
    exact ⟨ret_bool (by simp [inB, h1]), rfl⟩
  · have d1 : decide (lo ≤ n) = false := by simpa using h1
    go_wp2_with fail
    go_ret
    exact ⟨ret_bool (by simp [inB]; omega), rfl⟩
/-- What the specification answers about an evening's data. -/
def eveE (f : EveZ) : Int := if eveB f = true then 0 else 70
theorem eveE_bad {f : EveZ} (h : eveB f = false) : eveE f = 70 := by unfold eveE; rw [h]; rfl
theorem eveE_good {f : EveZ} (h : eveB f = true) : eveE f = 0 := by unfold eveE; rw [h]; rfl
set_option maxRecDepth 100000 in
set_option maxHeartbeats 4000000 in
theorem rcheckEvening_any (f : EveZ) (A : Option Addr) (c B : Nat) (w : World) (hB : B ≤ w.heap.size) (hr : Reads w B 5 A f.rides.length (bthCells f.rides)) (hn : f.rides.length ≤ maxLen) :
    Calls Try.prog 44 #[eveV f A c] w fun e w' => e = .returned (.int .i64 (eveE f)) ∧ Below w.heap.size w w' := by
  obtain ⟨W, hW⟩ : ∃ W, W = w.alloc (.cells #[.slice A f.rides.length c, .int .i64 f.walk] 24) := ⟨_, rfl⟩
  have bW : Below w.heap.size w W := by subst hW; exact (Below.refl _ _).alloc (Nat.le_refl _) _
  have r0 : Row W w.heap.size 24 [.slice A f.rides.length c, .int .i64 f.walk] := by subst hW; exact Row.new w _ _
  have q0 : W.cell? ⟨w.heap.size, 0, none⟩ = some (.slice A f.rides.length c) := r0.cell (j := 0) (by simp)
  have q1 : W.cell? ⟨w.heap.size, 1, none⟩ = some (.int .i64 f.walk) := r0.cell (j := 1) (by simp)
  have HR : Hid (∀ X, Below w.heap.size w X → Reads X B 5 A f.rides.length (bthCells f.rides)) := fun X hX => hr.below (hX.mono hB)
  clear hr
  unfold maxLen at hn
  unfold eveV
  have HE : Hid (eveB f = (decide (f.rides.length ≤ 8) && f.rides.all bthB && inB f.walk 0 100)) := rfl
  go_enter Try.func44, Try.ntmps44
  go_upto_region 1 with (fail)
  rw [← hW]
  clear hW
  by_cases h8 : (8 : Int) < (f.rides.length : Int)
  · have d8 : decide ((8 : Int) < (f.rides.length : Int)) = true := by simpa using h8
    go_wp2_with fail
    go_ret
    exact ⟨ret_int (eveE_bad (by rw [HE.out, show decide (f.rides.length ≤ 8) = false by simp; omega]; rfl)).symm, bW⟩
  have d8 : decide ((8 : Int) < (f.rides.length : Int)) = false := by simpa using h8
  have H8 : Hid (decide (f.rides.length ≤ 8) = true) := by show _ = _; simp; omega
  go_wp2_with fail
  refine (rfrom_any f.walk 0 100 W).mono ?_
  rintro e w' ⟨rfl, rfl⟩
  clear d8
  cases tw : inB f.walk 0 100 with
  | false =>
    go_wp2_with fail
    go_ret
    exact ⟨ret_int (eveE_bad (by rw [HE.out, H8.out, tw]; simp)).symm, bW⟩
  | true =>
    go_wp2_with fail
    go_loopw [3] (fun i wr => ∃ k : Nat, k ≤ f.rides.length ∧ i = .int .i64 k ∧ Hid ((f.rides.take k).all bthB = true) ∧ Below w.heap.size w wr ∧ Row wr w.heap.size 24 [.slice A f.rides.length c, .int .i64 f.walk]) (fun i _ => f.rides.length - (intOf i).toNat)
    case atStart => exact ⟨0, Nat.zero_le _, rfl, rfl, bW, r0⟩
    case round =>
      clear q0 q1 bW r0
      obtain ⟨k, hk, rfl, Hall, hbel, rj⟩ := hrel
      have q0 : wr.cell? ⟨w.heap.size, 0, none⟩ = some (.slice A f.rides.length c) := rj.cell (j := 0) (by simp)
      by_cases hlt : k < f.rides.length
      · obtain ⟨b, o, rfl, hb, c0, c1, c2, c3, c4⟩ := (HR.out wr hbel).bth hlt rfl
        have hx : f.rides.getD k default = f.rides[k] := by simp [hlt]
        have Hsn : Hid ((f.rides.take (k + 1)).all bthB = ((f.rides.take k).all bthB && bthB (f.rides.getD k default))) := by
          show _ = _
          rw [hx, List.take_succ_eq_append_getElem hlt, List.all_append]
          simp
        have Hno : Hid (bthB (f.rides.getD k default) = false → eveB f = false) := fun h0 => by
          rw [HE.out, show f.rides.all bthB = false from List.all_eq_false.2 ⟨f.rides[k], List.getElem_mem hlt, by rw [← hx, h0]; decide⟩]
          simp
        obtain ⟨x, hxx⟩ : ∃ x, x = f.rides.getD k default := ⟨_, rfl⟩
        rw [← hxx] at c0 c1 c2 c3 c4 Hsn Hno
        clear hx hxx
        have e1 : IntKind.i64.wrap ((k : Int) + 1) = (k : Int) + 1 := IntWalk.i64_in _ (by omega)
        have hkn : (k : Int) < (f.rides.length : Int) := by omega
        have hk0 : (0 : Int) ≤ (k : Int) := by omega
        have hnil : ¬ f.rides = [] := by intro e; rw [e] at hlt; simp at hlt
        go_upto_region 7 with (fail)
        obtain ⟨X, hX⟩ : ∃ X, X = wr.alloc (.cells #[.int .i64 x.seats, .int .i64 x.price, .int .i64 x.cycle, .int .i64 x.pause, .bool x.fill] 47) := ⟨_, rfl⟩
        rw [← hX]
        have bX : Below w.heap.size w X := by subst hX; exact hbel.alloc hbel.size _
        have rX : Row X w.heap.size 24 [.slice (some ⟨b, o, none⟩) f.rides.length c, .int .i64 f.walk] := by subst hX; exact rj.alloc _
        have kX : Row X wr.heap.size 47 [.int .i64 x.seats, .int .i64 x.price, .int .i64 x.cycle, .int .i64 x.pause, .bool x.fill] := by subst hX; exact Row.new wr _ _
        clear hX c0 c1 c2 c3 c4 q0 rj hbel
        have g0 : X.cell? ⟨wr.heap.size, 0, none⟩ = some (.int .i64 x.seats) := kX.cell (j := 0) (by simp)
        have g1 : X.cell? ⟨wr.heap.size, 1, none⟩ = some (.int .i64 x.price) := kX.cell (j := 1) (by simp)
        have g2 : X.cell? ⟨wr.heap.size, 2, none⟩ = some (.int .i64 x.cycle) := kX.cell (j := 2) (by simp)
        have g3 : X.cell? ⟨wr.heap.size, 3, none⟩ = some (.int .i64 x.pause) := kX.cell (j := 3) (by simp)
        go_wp2_with fail
        refine (rfrom_any x.seats 1 40 X).mono ?_
        rintro e w' ⟨rfl, rfl⟩
        cases t0 : inB x.seats 1 40 with
        | false =>
          go_wp2_with fail
          go_ret
          exact ⟨ret_int (eveE_bad (Hno.out (by unfold bthB; rw [t0]; rfl))).symm, bX⟩
        | true =>
          go_wp2_with fail
          refine (rfrom_any x.price 0 100 X).mono ?_
          rintro e w' ⟨rfl, rfl⟩
          cases t1 : inB x.price 0 100 with
          | false =>
            go_wp2_with fail
            go_ret
            exact ⟨ret_int (eveE_bad (Hno.out (by unfold bthB; rw [t0, t1]; rfl))).symm, bX⟩
          | true =>
            go_wp2_with fail
            refine (rfrom_any x.cycle 1 100 X).mono ?_
            rintro e w' ⟨rfl, rfl⟩
            cases t2 : inB x.cycle 1 100 with
            | false =>
              go_wp2_with fail
              go_ret
              exact ⟨ret_int (eveE_bad (Hno.out (by unfold bthB; rw [t0, t1, t2]; rfl))).symm, bX⟩
            | true =>
              go_wp2_with fail
              refine (rfrom_any x.pause 0 100 X).mono ?_
              rintro e w' ⟨rfl, rfl⟩
              cases t3 : inB x.pause 0 100 with
              | false =>
                go_wp2_with fail
                go_ret
                exact ⟨ret_int (eveE_bad (Hno.out (by unfold bthB; rw [t0, t1, t2, t3]; rfl))).symm, bX⟩
              | true =>
                go_wp2_with fail
                go_roundw
                case rel => exact ⟨k + 1, by omega, by go_num, (by show _ = _; rw [Hsn.out, Hall.out]; unfold bthB; rw [t0, t1, t2, t3]; rfl), bX, rX⟩
                case measure => simp [intOf]; omega
      · obtain rfl : k = f.rides.length := by omega
        have Hall : Hid (f.rides.all bthB = true) := by show _ = _; rw [← Hall.out, List.take_length]
        go_wp2_with fail
        go_ret
        exact ⟨ret_int (eveE_good (by rw [HE.out, H8.out, Hall.out, tw]; rfl)).symm, hbel⟩
end Go.Proofs.Ytijbhcdnbaaobaa
/- Contract of the specification's Check. Conditions: the evening and the groups read as data. -/
namespace Go.Proofs.Ytijbhcdnbaaobaa
open Go.RowKit

theorem checkQ_bad {f : EveZ} {l : List GrpZ} (h : eveB f = false) : checkQ f l = 70 := by unfold checkQ; rw [h]; rfl
theorem checkQ_grp {f : EveZ} {l : List GrpZ} (h : eveB f = true) (h2 : grpsB f.rides.length l = false) : checkQ f l = 71 := by unfold checkQ; rw [h, h2]; rfl
theorem checkQ_fine {f : EveZ} {l : List GrpZ} (h : eveB f = true) (h2 : grpsB f.rides.length l = true) : checkQ f l = 0 := by unfold checkQ; rw [h, h2]; rfl
set_option maxRecDepth 100000 in
set_option maxHeartbeats 4000000 in
theorem rCheck_any (f : EveZ) (l : List GrpZ) (A A2 : Option Addr) (c c2 B : Nat) (rs : List (Option Addr × Nat)) (w : World) (hB : B ≤ w.heap.size) (hr : Reads w B 5 A f.rides.length (bthCells f.rides)) (hn : f.rides.length ≤ maxLen) (hl : GrpsIn w B A2 rs l) :
    Calls Try.prog 20 #[eveV f A c, .slice A2 l.length c2] w fun e w' => e = .returned (.int .i64 (checkQ f l)) ∧ Below w.heap.size w w' := by
  obtain ⟨W, hW⟩ : ∃ W, W = w.alloc (.cells #[.slice A f.rides.length c, .int .i64 f.walk] 24) := ⟨_, rfl⟩
  have bW : Below w.heap.size w W := by subst hW; exact (Below.refl _ _).alloc (Nat.le_refl _) _
  have r0 : Row W w.heap.size 24 [.slice A f.rides.length c, .int .i64 f.walk] := by subst hW; exact Row.new w _ _
  have q0 : W.cell? ⟨w.heap.size, 0, none⟩ = some (.slice A f.rides.length c) := r0.cell (j := 0) (by simp)
  have q1 : W.cell? ⟨w.heap.size, 1, none⟩ = some (.int .i64 f.walk) := r0.cell (j := 1) (by simp)
  have H1 := Lib.hid (rcheckEvening_any f A c B W (Nat.le_trans hB bW.size) (hr.below (bW.mono hB)) hn)
  have HG : Hid (∀ X, Below w.heap.size w X → GrpsIn X B A2 rs l) := fun X hX => hl.below (hX.mono hB)
  have hll := hl.len
  clear hr hl
  unfold maxLen at hll hn
  unfold eveV at *
  go_enter Try.func20, Try.ntmps20
  go_wp2_with fail
  rw [← hW]
  clear hW
  refine H1.out.mono ?_
  rintro e w1 ⟨rfl, hb1⟩
  have b1 := bW.trans (hb1.mono bW.size)
  have r1 := r0.below hb1 r0.lt
  clear q0 q1 H1 bW r0 hb1
  cases t1 : eveB f with
  | false =>
    rw [eveE_bad t1]
    go_wp2_with fail
    go_ret
    exact ⟨ret_int (checkQ_bad t1).symm, b1⟩
  | true =>
    rw [eveE_good t1]
    have hn8 := eveB_len t1
    have HC0 := Lib.hid (checkQ_grp (l := l) t1)
    have HC1 := Lib.hid (checkQ_fine (l := l) t1)
    clear t1
    by_cases h60 : (60 : Int) < (l.length : Int)
    · have d8 : decide ((60 : Int) < (l.length : Int)) = true := by simpa using h60
      go_wp2_with fail
      go_ret
      exact ⟨ret_int (HC0.out (by unfold grpsB; rw [show decide (l.length ≤ 60) = false by simp; omega]; rfl)).symm, b1⟩
    have d8 : decide ((60 : Int) < (l.length : Int)) = false := by simpa using h60
    have H8 : Hid (grpsB f.rides.length l = l.all (grpB f.rides.length)) := by show _ = _; unfold grpsB; rw [show decide (l.length ≤ 60) = true by simp; omega]; rfl
    go_wp2_with fail
    clear d8
    go_loopw [6] (fun i wr => ∃ k : Nat, k ≤ l.length ∧ i = .int .i64 k ∧ Hid ((l.take k).all (grpB f.rides.length) = true) ∧ Below w.heap.size w wr ∧ Row wr w.heap.size 24 [.slice A f.rides.length c, .int .i64 f.walk]) (fun i _ => l.length - (intOf i).toNat)
    case atStart => exact ⟨0, Nat.zero_le _, rfl, rfl, b1, r1⟩
    case round =>
      clear b1 r1
      obtain ⟨k, hk, rfl, Hall, hbel, rj⟩ := hrel
      by_cases hlt : k < l.length
      · have hg := HG.out wr hbel
        obtain ⟨b, o, rfl, hb, hc⟩ := hg.outer (by omega)
        obtain ⟨c0, c1, c2', c3, c4⟩ := hc k hlt
        clear hc
        have HW : Hid (∀ X, Below w.heap.size w X → Reads X B 1 (rs.getD k default).1 (l.getD k default).wants.length ((l.getD k default).wants.map (Value.int .i64))) := fun X hX => (HG.out X hX).inner k hlt
        have hwl := hg.lens k hlt
        clear hg
        have hx : l.getD k default = l[k] := by simp [hlt]
        have Hsn : Hid ((l.take (k + 1)).all (grpB f.rides.length) = ((l.take k).all (grpB f.rides.length) && grpB f.rides.length (l.getD k default))) := by
          show _ = _
          rw [hx, List.take_succ_eq_append_getElem hlt, List.all_append]
          simp
        have Hno : Hid (grpB f.rides.length (l.getD k default) = false → checkQ f l = 71) := fun h0 => HC0.out (by
          rw [H8.out]
          exact List.all_eq_false.2 ⟨l[k], List.getElem_mem hlt, by rw [← hx, h0]; decide⟩)
        obtain ⟨x, hxx⟩ : ∃ x, x = l.getD k default := ⟨_, rfl⟩
        obtain ⟨⟨Ar, cr⟩, hrs⟩ : ∃ r, r = rs.getD k default := ⟨_, rfl⟩
        rw [← hxx, ← hrs] at c3 HW
        rw [← hxx] at c0 c1 c2' c4 Hsn Hno hwl
        dsimp only at c3 HW
        clear hx hxx hrs
        unfold maxLen at hwl
        have e1 : IntKind.i64.wrap ((k : Int) + 1) = (k : Int) + 1 := IntWalk.i64_in _ (by omega)
        have e2 : IntKind.i64.wrap ((f.rides.length : Int) - 1) = (f.rides.length : Int) - 1 := IntWalk.i64_in _ (by omega)
        have hkn : (k : Int) < (l.length : Int) := by omega
        have hk0 : (0 : Int) ≤ (k : Int) := by omega
        have hnil : ¬ l = [] := by intro e; rw [e] at hlt; simp at hlt
        go_upto_region 6 with (fail)
        obtain ⟨X, hX⟩ : ∃ X, X = wr.alloc (.cells #[.int .i64 x.at_, .int .i64 x.size, .int .i64 x.tokens, .slice Ar x.wants.length cr, .int .i64 x.patience] 55) := ⟨_, rfl⟩
        rw [← hX]
        have bX : Below w.heap.size w X := by subst hX; exact hbel.alloc hbel.size _
        have rX : Row X w.heap.size 24 [.slice A f.rides.length c, .int .i64 f.walk] := by subst hX; exact rj.alloc _
        have kX : Row X wr.heap.size 55 [.int .i64 x.at_, .int .i64 x.size, .int .i64 x.tokens, .slice Ar x.wants.length cr, .int .i64 x.patience] := by subst hX; exact Row.new wr _ _
        clear hX c0 c1 c2' c3 c4 rj hbel
        have g0 : X.cell? ⟨wr.heap.size, 0, none⟩ = some (.int .i64 x.at_) := kX.cell (j := 0) (by simp)
        have g1 : X.cell? ⟨wr.heap.size, 1, none⟩ = some (.int .i64 x.size) := kX.cell (j := 1) (by simp)
        have g2 : X.cell? ⟨wr.heap.size, 2, none⟩ = some (.int .i64 x.tokens) := kX.cell (j := 2) (by simp)
        have g3 : X.cell? ⟨wr.heap.size, 3, none⟩ = some (.slice Ar x.wants.length cr) := kX.cell (j := 3) (by simp)
        have g4 : X.cell? ⟨wr.heap.size, 4, none⟩ = some (.int .i64 x.patience) := kX.cell (j := 4) (by simp)
        have q0 : X.cell? ⟨w.heap.size, 0, none⟩ = some (.slice A f.rides.length c) := rX.cell (j := 0) (by simp)
        have Hu : Hid (grpB f.rides.length x = (inB x.at_ 0 2000 && inB x.patience 0 2000 && inB x.size 1 40 && inB x.tokens 0 10000 && decide (x.wants.length ≤ 10) && allB x.wants 0 ((f.rides.length : Int) - 1))) := rfl
        go_wp2_with fail
        refine (rfrom_any x.at_ 0 2000 X).mono ?_
        rintro e w' ⟨rfl, rfl⟩
        cases t0 : inB x.at_ 0 2000 with
        | false =>
          go_wp2_with fail
          go_ret
          exact ⟨ret_int (Hno.out (by rw [Hu.out, t0]; simp)).symm, bX⟩
        | true =>
          go_wp2_with fail
          refine (rfrom_any x.size 1 40 X).mono ?_
          rintro e w' ⟨rfl, rfl⟩
          cases t1 : inB x.size 1 40 with
          | false =>
            go_wp2_with fail
            go_ret
            exact ⟨ret_int (Hno.out (by rw [Hu.out, t1]; simp)).symm, bX⟩
          | true =>
            go_wp2_with fail
            refine (rfrom_any x.tokens 0 10000 X).mono ?_
            rintro e w' ⟨rfl, rfl⟩
            cases t2 : inB x.tokens 0 10000 with
            | false =>
              go_wp2_with fail
              go_ret
              exact ⟨ret_int (Hno.out (by rw [Hu.out, t2]; simp)).symm, bX⟩
            | true =>
              by_cases h10 : (10 : Int) < (x.wants.length : Int)
              · have d10 : decide ((10 : Int) < (x.wants.length : Int)) = true := by simpa using h10
                go_wp2_with fail
                go_ret
                exact ⟨ret_int (Hno.out (by rw [Hu.out, show decide (x.wants.length ≤ 10) = false by simp; omega]; simp)).symm, bX⟩
              have d10 : decide ((10 : Int) < (x.wants.length : Int)) = false := by simpa using h10
              have H10 : Hid (decide (x.wants.length ≤ 10) = true) := by show _ = _; simp; omega
              go_wp2_with fail
              refine (rfrom_any x.patience 0 2000 X).mono ?_
              rintro e w' ⟨rfl, rfl⟩
              cases t4 : inB x.patience 0 2000 with
              | false =>
                go_wp2_with fail
                go_ret
                exact ⟨ret_int (Hno.out (by rw [Hu.out, t4]; simp)).symm, bX⟩
              | true =>
                go_wp2_with fail
                clear d10
                generalize hgb : wr.heap.size = gb at *
                clear hgb g0 g1 g2 g3 g4 q0
                go_loopw [8] (fun i wz => ∃ m : Nat, m ≤ x.wants.length ∧ i = .int .i64 m ∧ Below w.heap.size w wz ∧ Row wz w.heap.size 24 [.slice A f.rides.length c, .int .i64 f.walk] ∧ Row wz gb 55 [.int .i64 x.at_, .int .i64 x.size, .int .i64 x.tokens, .slice Ar x.wants.length cr, .int .i64 x.patience] ∧ Hid (allB (x.wants.take m) 0 ((f.rides.length : Int) - 1) = true)) (fun i _ => x.wants.length - (intOf i).toNat)
                case atStart => exact ⟨0, Nat.zero_le _, rfl, bX, rX, kX, rfl⟩
                case round =>
                  clear bX rX kX
                  obtain ⟨m, hm, rfl, bX, rX, kX, Hal2⟩ := hrel
                  have g3 : wr.cell? ⟨gb, 3, none⟩ = some (.slice Ar x.wants.length cr) := kX.cell (j := 3) (by simp)
                  have q0 : wr.cell? ⟨w.heap.size, 0, none⟩ = some (.slice A f.rides.length c) := rX.cell (j := 0) (by simp)
                  have HWX := HW.out wr bX
                  by_cases hmt : m < x.wants.length
                  · obtain ⟨b2, o2, rfl, hb2, hc2⟩ := HWX.at1 hmt
                    have hck := hc2 m hmt
                    clear hc2
                    have Hs2 : Hid (allB (x.wants.take (m + 1)) 0 ((f.rides.length : Int) - 1) = (allB (x.wants.take m) 0 ((f.rides.length : Int) - 1) && inB (x.wants[m]?.getD 0) 0 ((f.rides.length : Int) - 1))) := allB_snoc x.wants m _ _ hmt
                    have Hn2 := Lib.hid (allB_out x.wants m 0 ((f.rides.length : Int) - 1) (by omega))
                    obtain ⟨y, hy⟩ : ∃ y, y = x.wants[m]?.getD 0 := ⟨_, rfl⟩
                    rw [← hy] at hck Hs2 Hn2
                    clear hy
                    have e3 : IntKind.i64.wrap ((m : Int) + 1) = (m : Int) + 1 := IntWalk.i64_in _ (by omega)
                    have hmn : (m : Int) < (x.wants.length : Int) := by omega
                    have hm0 : (0 : Int) ≤ (m : Int) := by omega
                    have hnl2 : ¬ x.wants = [] := by intro e; rw [e] at hmt; simp at hmt
                    clear HWX
                    go_upto_region 15 with (fail)
                    go_region_with (go_at_call 45; refine (rfrom_any _ _ _ _).mono ?_; rintro e w' ⟨rfl, rfl⟩)
                    all_goals (cases t6 : inB y 0 ((f.rides.length : Int) - 1) with
                      | false =>
                        go_wp2_with fail
                        go_ret
                        exact ⟨ret_int (Hno.out (by rw [Hu.out, Hn2.out t6]; simp)).symm, bX.drew⟩
                      | true =>
                        go_wp2_with fail
                        go_roundw
                        case rel => exact ⟨m + 1, by omega, by go_num, bX.drew, rX.drew, kX.drew, (by show _ = _; rw [Hs2.out, Hal2.out, t6]; rfl)⟩
                        case measure => simp [intOf]; omega)
                  · obtain rfl : m = x.wants.length := by omega
                    have Hal2 : Hid (allB x.wants 0 ((f.rides.length : Int) - 1) = true) := by show _ = _; rw [← Hal2.out, List.take_length]
                    go_wp2_with fail
                    go_roundw
                    case rel => exact ⟨k + 1, by omega, by go_num, (by show _ = _; rw [Hsn.out, Hall.out, Hu.out, t0, t1, t2, H10.out, t4, Hal2.out]; rfl), bX, rX⟩
                    case measure => simp [intOf]; omega
      · obtain rfl : k = l.length := by omega
        have Hall : Hid (l.all (grpB f.rides.length) = true) := by show _ = _; rw [← Hall.out, List.take_length]
        go_wp2_with fail
        go_ret
        exact ⟨ret_int (HC1.out (by rw [H8.out, Hall.out])).symm, hbel⟩
end Go.Proofs.Ytijbhcdnbaaobaa
namespace Go.Proofs.Ytijbhcdnbaaobaa
open Go.RowKit

def farG (g : GrpZ) : Bool := decide (20 < g.wants.length)
def farB (f : EveZ) (l : List GrpZ) : Bool := decide (10 < f.rides.length) || decide (70 < l.length) || l.any farG
theorem farB_one {f : EveZ} {l : List GrpZ} (h : 10 < f.rides.length) : farB f l = true := by unfold farB; simp [h]
theorem farB_two {f : EveZ} {l : List GrpZ} (h : 70 < l.length) : farB f l = true := by unfold farB; simp [h]
theorem farB_hit {f : EveZ} {l : List GrpZ} {k : Nat} (hk : k < l.length) (h : farG (l.getD k default) = true) : farB f l = true := by
  have hx : l.getD k default = l[k] := by simp [hk]
  unfold farB
  rw [show l.any farG = true from List.any_eq_true.2 ⟨l[k], List.getElem_mem hk, by rw [← hx]; exact h⟩]
  simp
theorem farB_none {f : EveZ} {l : List GrpZ} (h1 : ¬ 10 < f.rides.length) (h2 : ¬ 70 < l.length) (h : l.any farG = false) : farB f l = false := by
  unfold farB; rw [h]; simp; omega
set_option maxRecDepth 100000 in
set_option maxHeartbeats 2000000 in
theorem far_any (f : EveZ) (l : List GrpZ) (A A2 : Option Addr) (c c2 B : Nat) (rs : List (Option Addr × Nat)) (w : World) (hB : B ≤ w.heap.size) (hn : f.rides.length ≤ maxLen) (hl : GrpsIn w B A2 rs l) :
    Calls Try.prog 15 #[eveV f A c, .slice A2 l.length c2] w fun e w' => e = .returned (.bool (farB f l)) ∧ Below w.heap.size w w' := by
  obtain ⟨W, hW⟩ : ∃ W, W = w.alloc (.cells #[.slice A f.rides.length c, .int .i64 f.walk] 24) := ⟨_, rfl⟩
  have bW : Below w.heap.size w W := by subst hW; exact (Below.refl _ _).alloc (Nat.le_refl _) _
  have r0 : Row W w.heap.size 24 [.slice A f.rides.length c, .int .i64 f.walk] := by subst hW; exact Row.new w _ _
  have q0 : W.cell? ⟨w.heap.size, 0, none⟩ = some (.slice A f.rides.length c) := r0.cell (j := 0) (by simp)
  have HG : Hid (∀ X, Below w.heap.size w X → GrpsIn X B A2 rs l) := fun X hX => hl.below (hX.mono hB)
  have hll := hl.len
  clear hl
  unfold maxLen at hll hn
  unfold eveV
  go_enter Try.func15, Try.ntmps15
  go_upto_region 1 with (fail)
  rw [← hW]
  clear hW
  by_cases h10 : (10 : Int) < (f.rides.length : Int)
  · have d1 : decide ((10 : Int) < (f.rides.length : Int)) = true := by simpa using h10
    go_wp2_with fail
    go_ret
    exact ⟨ret_bool (farB_one (by omega)).symm, bW⟩
  have d1 : decide ((10 : Int) < (f.rides.length : Int)) = false := by simpa using h10
  by_cases h70 : (70 : Int) < (l.length : Int)
  · have d2 : decide ((70 : Int) < (l.length : Int)) = true := by simpa using h70
    go_wp2_with fail
    go_ret
    exact ⟨ret_bool (farB_two (by omega)).symm, bW⟩
  have d2 : decide ((70 : Int) < (l.length : Int)) = false := by simpa using h70
  go_wp2_with fail
  clear d1 d2 q0
  go_loopw [5] (fun i wr => ∃ k : Nat, k ≤ l.length ∧ i = .int .i64 k ∧ Hid ((l.take k).any farG = false) ∧ Below w.heap.size w wr) (fun i _ => l.length - (intOf i).toNat)
  case atStart => exact ⟨0, Nat.zero_le _, rfl, rfl, bW⟩
  case round =>
    clear bW r0
    obtain ⟨k, hk, rfl, Hall, hbel⟩ := hrel
    by_cases hlt : k < l.length
    · have hg := HG.out wr hbel
      obtain ⟨b, o, rfl, hb, hc⟩ := hg.outer (by omega)
      obtain ⟨_, _, _, c3, _⟩ := hc k hlt
      clear hc
      have hwl := hg.lens k hlt
      clear hg
      have hx : l.getD k default = l[k] := by simp [hlt]
      have Hsn : Hid ((l.take (k + 1)).any farG = ((l.take k).any farG || farG (l.getD k default))) := by
        show _ = _
        rw [hx, List.take_succ_eq_append_getElem hlt, List.any_append]
        simp
      have Hno := Lib.hid (farB_hit (f := f) hlt)
      obtain ⟨x, hxx⟩ : ∃ x, x = l.getD k default := ⟨_, rfl⟩
      obtain ⟨⟨Ar, cr⟩, hrs⟩ : ∃ r, r = rs.getD k default := ⟨_, rfl⟩
      rw [← hxx, ← hrs] at c3
      rw [← hxx] at Hsn Hno hwl
      dsimp only at c3
      clear hx hxx hrs
      unfold maxLen at hwl
      have e1 : IntKind.i64.wrap ((k : Int) + 1) = (k : Int) + 1 := IntWalk.i64_in _ (by omega)
      have hkn : (k : Int) < (l.length : Int) := by omega
      have hk0 : (0 : Int) ≤ (k : Int) := by omega
      have hnil : ¬ l = [] := by intro e; rw [e] at hlt; simp at hlt
      by_cases h20 : (20 : Int) < (x.wants.length : Int)
      · have d3 : decide ((20 : Int) < (x.wants.length : Int)) = true := by simpa using h20
        have HF : Hid (farG x = true) := by show _ = _; unfold farG; simp; omega
        go_wp2_with fail
        go_ret
        exact ⟨ret_bool (Hno.out HF.out).symm, hbel⟩
      · have d3 : decide ((20 : Int) < (x.wants.length : Int)) = false := by simpa using h20
        have HF : Hid (farG x = false) := by show _ = _; unfold farG; simp; omega
        go_wp2_with fail
        go_roundw
        case rel => exact ⟨k + 1, by omega, by go_num, (by show _ = _; rw [Hsn.out, Hall.out, HF.out]; rfl), hbel⟩
        case measure => simp [intOf]; omega
    · obtain rfl : k = l.length := by omega
      have Hall : Hid (l.any farG = false) := by show _ = _; rw [← Hall.out, List.take_length]
      go_wp2_with fail
      go_ret
      exact ⟨ret_bool (farB_none (by omega) (by omega) Hall.out).symm, hbel⟩
end Go.Proofs.Ytijbhcdnbaaobaa
