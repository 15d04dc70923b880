/- Contracts of queue's Check and of the specification's. Conditions: the evening and the groups read as data. -/
import Derived.Test.YtijbhcdnbaaobaaHq
import Derived.Test.YtijbhcdnbaaobaaHa
import Derived.Deep.RegionHeld3
import Derived.Deep.DeepCutAuto
import Derived.Deep.LoopGhost
/- Contract of queue's validEvening. Conditions: the rides read as data. -/
namespace Go.Proofs.Ytijbhcdnbaaobaa
open Go.RowKit

def bthL (b : Bth) : List Value := [.int .i64 b.seats, .int .i64 b.price, .int .i64 b.cycle, .int .i64 b.pause, .bool b.fill]
def bthCells (l : List Bth) : List Value := l.flatMap bthL
def bthB (b : Bth) : Bool := inB b.seats 1 40 && inB b.price 0 100 && inB b.cycle 1 100 && inB b.pause 0 100
def eveB (f : EveZ) : Bool := decide (f.rides.length ≤ 8) && f.rides.all bthB && inB f.walk 0 100
theorem bthCells_at (l : List Bth) : ∀ k, k < l.length → ∀ j, j < 5 → (bthCells l)[k * 5 + j]? = (bthL (l.getD k default))[j]? := by
  induction l with
  | nil => intro k hk; simp at hk
  | cons b l ih =>
    intro k hk j hj
    cases k with
    | zero =>
      simp only [bthCells, List.flatMap_cons, Nat.zero_mul, Nat.zero_add]
      rw [List.getElem?_append_left (by simpa [bthL] using hj)]
      rfl
    | succ k =>
      have h := ih k (by simpa using hk) j hj
      simp only [bthCells, List.flatMap_cons]
      rw [List.getElem?_append_right (by simp [bthL]; omega)]
      rw [show (k + 1) * 5 + j - (bthL b).length = k * 5 + j by simp [bthL]; omega]
      exact h
theorem Reads.bth {w : World} {B n : Nat} {A : Option Addr} {l : List Bth} (h : Reads w B 5 A n (bthCells l)) {k : Nat} (hk : k < n) (hl : l.length = n) : ∃ b o, A = some ⟨b, o, none⟩ ∧ b < B ∧ (w.cell? ⟨b, o + k * 5, none⟩ = some (.int .i64 (l.getD k default).seats) ∧ w.cell? ⟨b, o + k * 5 + 1, none⟩ = some (.int .i64 (l.getD k default).price) ∧ w.cell? ⟨b, o + k * 5 + 2, none⟩ = some (.int .i64 (l.getD k default).cycle) ∧ w.cell? ⟨b, o + k * 5 + 3, none⟩ = some (.int .i64 (l.getD k default).pause) ∧ w.cell? ⟨b, o + k * 5 + 4, none⟩ = some (.bool (l.getD k default).fill)) := by
  obtain ⟨b, o, e, hb, hc⟩ := h.2 (by omega)
  have key : ∀ j, j < 5 → ∀ u, (bthL (l.getD k default))[j]? = some u → w.cell? ⟨b, o + k * 5 + j, none⟩ = some u := fun j hj u hu => by
    have := hc (k * 5 + j) u ((bthCells_at l k (by omega) j hj).trans hu)
    rw [← Nat.add_assoc] at this
    exact this
  exact ⟨b, o, e, hb, key 0 (by omega) _ rfl, key 1 (by omega) _ rfl, key 2 (by omega) _ rfl, key 3 (by omega) _ rfl, key 4 (by omega) _ rfl⟩
theorem qall_one (X : World) (g c : Nat) (v lo hi : Int) (hr : Row X g 3 [.int .i64 v]) : Calls Try.prog 58 #[.int .i64 lo, .int .i64 hi, .slice (some ⟨g, 0, none⟩) 1 c] X fun e w' => e = .returned (.bool (inB v lo hi)) ∧ X = w' := by
  have h := qall_any [v] (some ⟨g, 0, none⟩) 1 c X.heap.size lo hi X (hr.reads (n := 1) (size := 1) rfl hr.lt) (by decide)
  refine h.mono ?_
  rintro e w' ⟨rfl, h2⟩
  exact ⟨ret_bool (by simp [allB]), h2⟩
set_option maxRecDepth 100000 in
set_option maxHeartbeats 4000000 in
theorem validEvening_any (f : EveZ) (A : Option Addr) (c B : Nat) (w : World) (hB : B ≤ w.heap.size) (hr : Reads w B 5 A f.rides.length (bthCells f.rides)) (hn : f.rides.length ≤ maxLen) :
    Calls Try.prog 42 #[.agg #[.slice A f.rides.length c, .int .i64 f.walk]] w fun e w' => e = .returned (.bool (eveB f)) ∧ Below w.heap.size w w' := by
  obtain ⟨W, hW⟩ : ∃ W, W = w.alloc (.cells #[.slice A f.rides.length c, .int .i64 f.walk] 24) := ⟨_, rfl⟩
  have bW : Below w.heap.size w W := by subst hW; exact (Below.refl _ _).alloc (Nat.le_refl _) _
  have r0 : Row W w.heap.size 24 [.slice A f.rides.length c, .int .i64 f.walk] := by subst hW; exact Row.new w _ _
  have q0 : W.cell? ⟨w.heap.size, 0, none⟩ = some (.slice A f.rides.length c) := r0.cell (j := 0) (by simp)
  have q1 : W.cell? ⟨w.heap.size, 1, none⟩ = some (.int .i64 f.walk) := r0.cell (j := 1) (by simp)
  have HR : Hid (∀ X, Below w.heap.size w X → Reads X B 5 A f.rides.length (bthCells f.rides)) := fun X hX => hr.below (hX.mono hB)
  clear hr
  unfold maxLen at hn
  go_enter Try.func42, Try.ntmps42
  go_upto_region 1 with (fail)
  rw [← hW]
  clear hW
  by_cases h8 : (8 : Int) < (f.rides.length : Int)
  · have d8 : decide ((8 : Int) < (f.rides.length : Int)) = true := by simpa using h8
    go_wp2_with fail
    go_ret
    exact ⟨ret_bool (by unfold eveB; rw [show decide (f.rides.length ≤ 8) = false by simp; omega]; rfl), bW⟩
  have d8 : decide ((8 : Int) < (f.rides.length : Int)) = false := by simpa using h8
  have H8 : Hid (eveB f = (f.rides.all bthB && inB f.walk 0 100)) := by show _ = _; unfold eveB; rw [show decide (f.rides.length ≤ 8) = true by simp; omega]; rfl
  go_wp2_with fail
  clear d8
  go_loopw [12] (fun i wr => ∃ k : Nat, k ≤ f.rides.length ∧ i = .int .i64 k ∧ Hid ((f.rides.take k).all bthB = true) ∧ Below w.heap.size w wr ∧ Row wr w.heap.size 24 [.slice A f.rides.length c, .int .i64 f.walk]) (fun i _ => f.rides.length - (intOf i).toNat)
  case atStart => exact ⟨0, Nat.zero_le _, rfl, rfl, bW, r0⟩
  case round =>
    clear q0 q1 bW r0
    obtain ⟨k, hk, rfl, Hall, hbel, rj⟩ := hrel
    have q0 : wr.cell? ⟨w.heap.size, 0, none⟩ = some (.slice A f.rides.length c) := rj.cell (j := 0) (by simp)
    have q1 : wr.cell? ⟨w.heap.size, 1, none⟩ = some (.int .i64 f.walk) := rj.cell (j := 1) (by simp)
    by_cases hlt : k < f.rides.length
    · obtain ⟨b, o, rfl, hb, c0, c1, c2, c3, c4⟩ := (HR.out wr hbel).bth hlt rfl
      have hx : f.rides.getD k default = f.rides[k] := by simp [hlt]
      have Hsn : Hid ((f.rides.take (k + 1)).all bthB = ((f.rides.take k).all bthB && bthB (f.rides.getD k default))) := by
        show _ = _
        rw [hx, List.take_succ_eq_append_getElem hlt, List.all_append]
        simp
      have Hno : Hid (bthB (f.rides.getD k default) = false → eveB f = false) := fun h0 => by
        rw [H8.out, show f.rides.all bthB = false from List.all_eq_false.2 ⟨f.rides[k], List.getElem_mem hlt, by rw [← hx, h0]; decide⟩]
        rfl
      obtain ⟨x, hxx⟩ : ∃ x, x = f.rides.getD k default := ⟨_, rfl⟩
      rw [← hxx] at c0 c1 c2 c3 c4 Hsn Hno
      clear hx hxx
      have e1 : IntKind.i64.wrap ((k : Int) + 1) = (k : Int) + 1 := IntWalk.i64_in _ (by omega)
      have hkn : (k : Int) < (f.rides.length : Int) := by omega
      have hk0 : (0 : Int) ≤ (k : Int) := by omega
      have hnil : ¬ f.rides = [] := by intro e; rw [e] at hlt; simp at hlt
      go_upto_region 6 with (fail)
      obtain ⟨X0, hX0⟩ : ∃ X, X = wr.alloc (.cells #[.int .i64 x.seats, .int .i64 x.price, .int .i64 x.cycle, .int .i64 x.pause, .bool x.fill] 47) := ⟨_, rfl⟩
      rw [← hX0]
      have bX0 : Below w.heap.size w X0 := by subst hX0; exact hbel.alloc hbel.size _
      have rX0 : Row X0 w.heap.size 24 [.slice (some ⟨b, o, none⟩) f.rides.length c, .int .i64 f.walk] := by subst hX0; exact rj.alloc _
      have kX0 : Row X0 wr.heap.size 47 [.int .i64 x.seats, .int .i64 x.price, .int .i64 x.cycle, .int .i64 x.pause, .bool x.fill] := by subst hX0; exact Row.new wr _ _
      clear hX0 c0 c1 c2 c3 c4 q0 q1 rj hbel
      have g0 : X0.cell? ⟨wr.heap.size, 0, none⟩ = some (.int .i64 x.seats) := kX0.cell (j := 0) (by simp)
      go_wp2_with fail
      refine (qall_one _ X0.heap.size 1 x.seats 1 40 (Row.new X0 _ #[.int .i64 x.seats])).mono ?_
      rintro e w' ⟨rfl, rfl⟩
      obtain ⟨X1, hX1⟩ : ∃ Y, Y = X0.alloc (.cells #[.int .i64 x.seats] 3) := ⟨_, rfl⟩
      rw [← hX1]
      have bX1 : Below w.heap.size w X1 := by subst hX1; exact bX0.alloc bX0.size _
      have rX1 : Row X1 w.heap.size 24 [.slice (some ⟨b, o, none⟩) f.rides.length c, .int .i64 f.walk] := by subst hX1; exact rX0.alloc _
      have kX1 : Row X1 wr.heap.size 47 [.int .i64 x.seats, .int .i64 x.price, .int .i64 x.cycle, .int .i64 x.pause, .bool x.fill] := by subst hX1; exact kX0.alloc _
      clear hX1 g0 bX0 rX0 kX0
      cases t0 : inB x.seats 1 40 with
      | false =>
        go_wp2_with fail
        go_ret
        exact ⟨ret_bool (Hno.out (by unfold bthB; rw [t0]; rfl)).symm, bX1⟩
      | true =>
        have g1 : X1.cell? ⟨wr.heap.size, 1, none⟩ = some (.int .i64 x.price) := kX1.cell (j := 1) (by simp)
        go_wp2_with fail
        refine (qall_one _ X1.heap.size 1 x.price 0 100 (Row.new X1 _ #[.int .i64 x.price])).mono ?_
        rintro e w' ⟨rfl, rfl⟩
        obtain ⟨X2, hX2⟩ : ∃ Y, Y = X1.alloc (.cells #[.int .i64 x.price] 3) := ⟨_, rfl⟩
        rw [← hX2]
        have bX2 : Below w.heap.size w X2 := by subst hX2; exact bX1.alloc bX1.size _
        have rX2 : Row X2 w.heap.size 24 [.slice (some ⟨b, o, none⟩) f.rides.length c, .int .i64 f.walk] := by subst hX2; exact rX1.alloc _
        have kX2 : Row X2 wr.heap.size 47 [.int .i64 x.seats, .int .i64 x.price, .int .i64 x.cycle, .int .i64 x.pause, .bool x.fill] := by subst hX2; exact kX1.alloc _
        clear hX2 g1 bX1 rX1 kX1
        cases t1 : inB x.price 0 100 with
        | false =>
          go_wp2_with fail
          go_ret
          exact ⟨ret_bool (Hno.out (by unfold bthB; rw [t0, t1]; rfl)).symm, bX2⟩
        | true =>
          have g2 : X2.cell? ⟨wr.heap.size, 2, none⟩ = some (.int .i64 x.cycle) := kX2.cell (j := 2) (by simp)
          go_wp2_with fail
          refine (qall_one _ X2.heap.size 1 x.cycle 1 100 (Row.new X2 _ #[.int .i64 x.cycle])).mono ?_
          rintro e w' ⟨rfl, rfl⟩
          obtain ⟨X3, hX3⟩ : ∃ Y, Y = X2.alloc (.cells #[.int .i64 x.cycle] 3) := ⟨_, rfl⟩
          rw [← hX3]
          have bX3 : Below w.heap.size w X3 := by subst hX3; exact bX2.alloc bX2.size _
          have rX3 : Row X3 w.heap.size 24 [.slice (some ⟨b, o, none⟩) f.rides.length c, .int .i64 f.walk] := by subst hX3; exact rX2.alloc _
          have kX3 : Row X3 wr.heap.size 47 [.int .i64 x.seats, .int .i64 x.price, .int .i64 x.cycle, .int .i64 x.pause, .bool x.fill] := by subst hX3; exact kX2.alloc _
          clear hX3 g2 bX2 rX2 kX2
          cases t2 : inB x.cycle 1 100 with
          | false =>
            go_wp2_with fail
            go_ret
            exact ⟨ret_bool (Hno.out (by unfold bthB; rw [t0, t1, t2]; rfl)).symm, bX3⟩
          | true =>
            have g3 : X3.cell? ⟨wr.heap.size, 3, none⟩ = some (.int .i64 x.pause) := kX3.cell (j := 3) (by simp)
            go_wp2_with fail
            refine (qall_one _ X3.heap.size 1 x.pause 0 100 (Row.new X3 _ #[.int .i64 x.pause])).mono ?_
            rintro e w' ⟨rfl, rfl⟩
            obtain ⟨X4, hX4⟩ : ∃ Y, Y = X3.alloc (.cells #[.int .i64 x.pause] 3) := ⟨_, rfl⟩
            rw [← hX4]
            have bX4 : Below w.heap.size w X4 := by subst hX4; exact bX3.alloc bX3.size _
            have rX4 : Row X4 w.heap.size 24 [.slice (some ⟨b, o, none⟩) f.rides.length c, .int .i64 f.walk] := by subst hX4; exact rX3.alloc _
            have kX4 : Row X4 wr.heap.size 47 [.int .i64 x.seats, .int .i64 x.price, .int .i64 x.cycle, .int .i64 x.pause, .bool x.fill] := by subst hX4; exact kX3.alloc _
            clear hX4 g3 bX3 rX3 kX3
            cases t3 : inB x.pause 0 100 with
            | false =>
              go_wp2_with fail
              go_ret
              exact ⟨ret_bool (Hno.out (by unfold bthB; rw [t0, t1, t2, t3]; rfl)).symm, bX4⟩
            | true =>
              go_wp2_with fail
              go_roundw
              case rel => exact ⟨k + 1, by omega, by go_num, (by show _ = _; rw [Hsn.out, Hall.out]; unfold bthB; rw [t0, t1, t2, t3]; rfl), bX4, rX4⟩
              case measure => simp [intOf]; omega
    · obtain rfl : k = f.rides.length := by omega
      have Hall : Hid (f.rides.all bthB = true) := by show _ = _; rw [← Hall.out, List.take_length]
      go_wp2_with fail
      refine (qall_one _ wr.heap.size 1 f.walk 0 100 (Row.new wr _ #[.int .i64 f.walk])).mono ?_
      rintro e w' ⟨rfl, rfl⟩
      go_wp2_with fail
      go_ret
      exact ⟨ret_bool (by rw [H8.out, Hall.out]; rfl), hbel.alloc hbel.size _⟩
end Go.Proofs.Ytijbhcdnbaaobaa
/- Contract of queue's validGroups. Conditions: the rides and the groups read as data. -/
namespace Go.Proofs.Ytijbhcdnbaaobaa
open Go.RowKit

/-- Groups in memory: a row of five cells each, the wishes in rows of their own (rs: where, and the capacity). -/
structure GrpsIn (w : World) (B : Nat) (A : Option Addr) (rs : List (Option Addr × Nat)) (l : List GrpZ) : Prop where
  len : l.length ≤ maxLen
  outer : 0 < l.length → ∃ b o, A = some ⟨b, o, none⟩ ∧ b < B ∧ ∀ i, i < l.length → (w.cell? ⟨b, o + i * 5, none⟩ = some (.int .i64 (l.getD i default).at_) ∧ w.cell? ⟨b, o + i * 5 + 1, none⟩ = some (.int .i64 (l.getD i default).size) ∧ w.cell? ⟨b, o + i * 5 + 2, none⟩ = some (.int .i64 (l.getD i default).tokens) ∧ w.cell? ⟨b, o + i * 5 + 3, none⟩ = some (.slice (rs.getD i default).1 (l.getD i default).wants.length (rs.getD i default).2) ∧ w.cell? ⟨b, o + i * 5 + 4, none⟩ = some (.int .i64 (l.getD i default).patience))
  inner : ∀ i, i < l.length → Reads w B 1 (rs.getD i default).1 (l.getD i default).wants.length ((l.getD i default).wants.map (Value.int .i64))
  lens : ∀ i, i < l.length → (l.getD i default).wants.length ≤ maxLen
theorem GrpsIn.below {w w' : World} {B : Nat} {A : Option Addr} {rs : List (Option Addr × Nat)} {l : List GrpZ} (h : GrpsIn w B A rs l) (hb : Below B w w') : GrpsIn w' B A rs l :=
  ⟨h.len, fun h0 => by
    obtain ⟨b, o, e, hbb, hc⟩ := h.outer h0
    refine ⟨b, o, e, hbb, fun i hi => ?_⟩
    obtain ⟨c0, c1, c2, c3, c4⟩ := hc i hi
    exact ⟨(hb.cell (p := ⟨b, _, none⟩) hbb).trans c0, (hb.cell (p := ⟨b, _, none⟩) hbb).trans c1, (hb.cell (p := ⟨b, _, none⟩) hbb).trans c2, (hb.cell (p := ⟨b, _, none⟩) hbb).trans c3, (hb.cell (p := ⟨b, _, none⟩) hbb).trans c4⟩, fun i hi => (h.inner i hi).below hb, h.lens⟩
def grpB (n : Nat) (g : GrpZ) : Bool := inB g.at_ 0 2000 && inB g.patience 0 2000 && inB g.size 1 40 && inB g.tokens 0 10000 && decide (g.wants.length ≤ 10) && allB g.wants 0 ((n : Int) - 1)
def grpsB (n : Nat) (l : List GrpZ) : Bool := decide (l.length ≤ 60) && l.all (grpB n)
theorem qall_two (X : World) (g c : Nat) (u v lo hi : Int) (hr : Row X g 3 [.int .i64 u, .int .i64 v]) : Calls Try.prog 58 #[.int .i64 lo, .int .i64 hi, .slice (some ⟨g, 0, none⟩) 2 c] X fun e w' => e = .returned (.bool (inB u lo hi && inB v lo hi)) ∧ X = w' := by
  have h := qall_any [u, v] (some ⟨g, 0, none⟩) 2 c X.heap.size lo hi X (hr.reads (n := 2) (size := 1) rfl hr.lt) (by decide)
  refine h.mono ?_
  rintro e w' ⟨rfl, h2⟩
  exact ⟨ret_bool (by simp [allB]), h2⟩
set_option maxRecDepth 100000 in
set_option maxHeartbeats 4000000 in
theorem validGroups_any (f : EveZ) (l : List GrpZ) (A A2 : Option Addr) (c c2 B : Nat) (rs : List (Option Addr × Nat)) (w : World) (hB : B ≤ w.heap.size) (hn : f.rides.length ≤ 8) (hl : GrpsIn w B A2 rs l) :
    Calls Try.prog 43 #[.agg #[.slice A f.rides.length c, .int .i64 f.walk], .slice A2 l.length c2] w fun e w' => e = .returned (.bool (grpsB f.rides.length l)) ∧ Below w.heap.size w w' := by
  obtain ⟨W, hW⟩ : ∃ W, W = w.alloc (.cells #[.slice A f.rides.length c, .int .i64 f.walk] 24) := ⟨_, rfl⟩
  have bW : Below w.heap.size w W := by subst hW; exact (Below.refl _ _).alloc (Nat.le_refl _) _
  have r0 : Row W w.heap.size 24 [.slice A f.rides.length c, .int .i64 f.walk] := by subst hW; exact Row.new w _ _
  have HG : Hid (∀ X, Below w.heap.size w X → GrpsIn X B A2 rs l) := fun X hX => hl.below (hX.mono hB)
  have hll := hl.len
  clear hl
  unfold maxLen at hll
  go_enter Try.func43, Try.ntmps43
  go_upto_region 1 with (fail)
  rw [← hW]
  clear hW
  by_cases h60 : (60 : Int) < (l.length : Int)
  · have d8 : decide ((60 : Int) < (l.length : Int)) = true := by simpa using h60
    go_wp2_with fail
    go_ret
    exact ⟨ret_bool (by unfold grpsB; rw [show decide (l.length ≤ 60) = false by simp; omega]; rfl), bW⟩
  have d8 : decide ((60 : Int) < (l.length : Int)) = false := by simpa using h60
  have H8 : Hid (grpsB f.rides.length l = l.all (grpB f.rides.length)) := by show _ = _; unfold grpsB; rw [show decide (l.length ≤ 60) = true by simp; omega]; rfl
  go_wp2_with fail
  clear d8
  go_loopw [12] (fun i wr => ∃ k : Nat, k ≤ l.length ∧ i = .int .i64 k ∧ Hid ((l.take k).all (grpB f.rides.length) = true) ∧ Below w.heap.size w wr ∧ Row wr w.heap.size 24 [.slice A f.rides.length c, .int .i64 f.walk]) (fun i _ => l.length - (intOf i).toNat)
  case atStart => exact ⟨0, Nat.zero_le _, rfl, rfl, bW, r0⟩
  case round =>
    clear bW r0
    obtain ⟨k, hk, rfl, Hall, hbel, rj⟩ := hrel
    by_cases hlt : k < l.length
    · have hg := HG.out wr hbel
      obtain ⟨b, o, rfl, hb, hc⟩ := hg.outer (by omega)
      obtain ⟨c0, c1, c2', c3, c4⟩ := hc k hlt
      clear hc
      have HW : Hid (∀ X, Below w.heap.size w X → Reads X B 1 (rs.getD k default).1 (l.getD k default).wants.length ((l.getD k default).wants.map (Value.int .i64))) := fun X hX => (HG.out X hX).inner k hlt
      have hwl := hg.lens k hlt
      clear hg
      have hx : l.getD k default = l[k] := by simp [hlt]
      have Hsn : Hid ((l.take (k + 1)).all (grpB f.rides.length) = ((l.take k).all (grpB f.rides.length) && grpB f.rides.length (l.getD k default))) := by
        show _ = _
        rw [hx, List.take_succ_eq_append_getElem hlt, List.all_append]
        simp
      have Hno : Hid (grpB f.rides.length (l.getD k default) = false → grpsB f.rides.length l = false) := fun h0 => by
        rw [H8.out]
        exact List.all_eq_false.2 ⟨l[k], List.getElem_mem hlt, by rw [← hx, h0]; decide⟩
      obtain ⟨x, hxx⟩ : ∃ x, x = l.getD k default := ⟨_, rfl⟩
      obtain ⟨⟨Ar, cr⟩, hrs⟩ : ∃ r, r = rs.getD k default := ⟨_, rfl⟩
      rw [← hxx, ← hrs] at c3 HW
      rw [← hxx] at c0 c1 c2' c4 Hsn Hno hwl
      dsimp only at c3 HW
      clear hx hxx hrs
      unfold maxLen at hwl
      have e1 : IntKind.i64.wrap ((k : Int) + 1) = (k : Int) + 1 := IntWalk.i64_in _ (by omega)
      have e2 : IntKind.i64.wrap ((f.rides.length : Int) - 1) = (f.rides.length : Int) - 1 := IntWalk.i64_in _ (by omega)
      have hkn : (k : Int) < (l.length : Int) := by omega
      have hk0 : (0 : Int) ≤ (k : Int) := by omega
      have hnil : ¬ l = [] := by intro e; rw [e] at hlt; simp at hlt
      go_upto_region 6 with (fail)
      obtain ⟨X0, hX0⟩ : ∃ X, X = wr.alloc (.cells #[.int .i64 x.at_, .int .i64 x.size, .int .i64 x.tokens, .slice Ar x.wants.length cr, .int .i64 x.patience] 55) := ⟨_, rfl⟩
      rw [← hX0]
      have bX0 : Below w.heap.size w X0 := by subst hX0; exact hbel.alloc hbel.size _
      have rX0 : Row X0 w.heap.size 24 [.slice A f.rides.length c, .int .i64 f.walk] := by subst hX0; exact rj.alloc _
      have kX0 : Row X0 wr.heap.size 55 [.int .i64 x.at_, .int .i64 x.size, .int .i64 x.tokens, .slice Ar x.wants.length cr, .int .i64 x.patience] := by subst hX0; exact Row.new wr _ _
      clear hX0 c0 c1 c2' c3 c4 rj hbel
      have g0 : X0.cell? ⟨wr.heap.size, 0, none⟩ = some (.int .i64 x.at_) := kX0.cell (j := 0) (by simp)
      have g4 : X0.cell? ⟨wr.heap.size, 4, none⟩ = some (.int .i64 x.patience) := kX0.cell (j := 4) (by simp)
      go_wp2_with fail
      refine (qall_two _ X0.heap.size 2 x.at_ x.patience 0 2000 (Row.new X0 _ #[.int .i64 x.at_, .int .i64 x.patience])).mono ?_
      rintro e w' ⟨rfl, rfl⟩
      obtain ⟨X1, hX1⟩ : ∃ Y, Y = X0.alloc (.cells #[.int .i64 x.at_, .int .i64 x.patience] 3) := ⟨_, rfl⟩
      rw [← hX1]
      have bX1 : Below w.heap.size w X1 := by subst hX1; exact bX0.alloc bX0.size _
      have rX1 : Row X1 w.heap.size 24 [.slice A f.rides.length c, .int .i64 f.walk] := by subst hX1; exact rX0.alloc _
      have kX1 : Row X1 wr.heap.size 55 [.int .i64 x.at_, .int .i64 x.size, .int .i64 x.tokens, .slice Ar x.wants.length cr, .int .i64 x.patience] := by subst hX1; exact kX0.alloc _
      clear hX1 bX0 rX0 kX0
      cases t0 : (inB x.at_ 0 2000 && inB x.patience 0 2000) with
      | false =>
        go_wp2_with fail
        go_ret
        exact ⟨ret_bool (Hno.out (by unfold grpB; rw [t0]; rfl)).symm, bX1⟩
      | true =>
        clear g0 g4
        have g1 : X1.cell? ⟨wr.heap.size, 1, none⟩ = some (.int .i64 x.size) := kX1.cell (j := 1) (by simp)
        go_wp2_with fail
        refine (qall_one _ X1.heap.size 1 x.size 1 40 (Row.new X1 _ #[.int .i64 x.size])).mono ?_
        rintro e w' ⟨rfl, rfl⟩
        obtain ⟨X2, hX2⟩ : ∃ Y, Y = X1.alloc (.cells #[.int .i64 x.size] 3) := ⟨_, rfl⟩
        rw [← hX2]
        have bX2 : Below w.heap.size w X2 := by subst hX2; exact bX1.alloc bX1.size _
        have rX2 : Row X2 w.heap.size 24 [.slice A f.rides.length c, .int .i64 f.walk] := by subst hX2; exact rX1.alloc _
        have kX2 : Row X2 wr.heap.size 55 [.int .i64 x.at_, .int .i64 x.size, .int .i64 x.tokens, .slice Ar x.wants.length cr, .int .i64 x.patience] := by subst hX2; exact kX1.alloc _
        clear hX2 bX1 rX1 kX1
        cases t1 : inB x.size 1 40 with
        | false =>
          go_wp2_with fail
          go_ret
          exact ⟨ret_bool (Hno.out (by unfold grpB; rw [t0, t1]; rfl)).symm, bX2⟩
        | true =>
          clear g1
          have g2 : X2.cell? ⟨wr.heap.size, 2, none⟩ = some (.int .i64 x.tokens) := kX2.cell (j := 2) (by simp)
          go_wp2_with fail
          refine (qall_one _ X2.heap.size 1 x.tokens 0 10000 (Row.new X2 _ #[.int .i64 x.tokens])).mono ?_
          rintro e w' ⟨rfl, rfl⟩
          obtain ⟨X3, hX3⟩ : ∃ Y, Y = X2.alloc (.cells #[.int .i64 x.tokens] 3) := ⟨_, rfl⟩
          rw [← hX3]
          have bX3 : Below w.heap.size w X3 := by subst hX3; exact bX2.alloc bX2.size _
          have rX3 : Row X3 w.heap.size 24 [.slice A f.rides.length c, .int .i64 f.walk] := by subst hX3; exact rX2.alloc _
          have kX3 : Row X3 wr.heap.size 55 [.int .i64 x.at_, .int .i64 x.size, .int .i64 x.tokens, .slice Ar x.wants.length cr, .int .i64 x.patience] := by subst hX3; exact kX2.alloc _
          clear hX3 bX2 rX2 kX2
          cases t2 : inB x.tokens 0 10000 with
          | false =>
            go_wp2_with fail
            go_ret
            exact ⟨ret_bool (Hno.out (by unfold grpB; rw [t0, t1, t2]; rfl)).symm, bX3⟩
          | true =>
            clear g2
            have g3 : X3.cell? ⟨wr.heap.size, 3, none⟩ = some (.slice Ar x.wants.length cr) := kX3.cell (j := 3) (by simp)
            have g5 : X3.cell? ⟨w.heap.size, 0, none⟩ = some (.slice A f.rides.length c) := rX3.cell (j := 0) (by simp)
            by_cases h10 : (10 : Int) < (x.wants.length : Int)
            · have d10 : decide ((10 : Int) < (x.wants.length : Int)) = true := by simpa using h10
              go_wp2_with fail
              go_ret
              exact ⟨ret_bool (Hno.out (by unfold grpB; rw [t0, t1, t2, show decide (x.wants.length ≤ 10) = false by simp; omega]; rfl)).symm, bX3⟩
            have d10 : decide ((10 : Int) < (x.wants.length : Int)) = false := by simpa using h10
            have H10 : Hid (decide (x.wants.length ≤ 10) = true) := by show _ = _; simp; omega
            go_wp2_with fail
            refine (qall_any x.wants Ar x.wants.length cr B 0 ((f.rides.length : Int) - 1) X3 (HW.out X3 bX3) (by unfold maxLen; omega)).mono ?_
            rintro e w' ⟨rfl, rfl⟩
            clear d10
            cases t5 : allB x.wants 0 ((f.rides.length : Int) - 1) with
            | false =>
              go_wp2_with fail
              go_ret
              exact ⟨ret_bool (Hno.out (by unfold grpB; rw [t0, t1, t2, H10.out, t5]; rfl)).symm, bX3⟩
            | true =>
              go_wp2_with fail
              go_roundw
              case rel => exact ⟨k + 1, by omega, by go_num, (by show _ = _; rw [Hsn.out, Hall.out]; unfold grpB; rw [t0, t1, t2, H10.out, t5]; rfl), bX3, rX3⟩
              case measure => simp [intOf]; omega
    · obtain rfl : k = l.length := by omega
      have Hall : Hid (l.all (grpB f.rides.length) = true) := by show _ = _; rw [← Hall.out, List.take_length]
      go_wp2_with fail
      go_ret
      exact ⟨ret_bool (by rw [H8.out, Hall.out]), hbel⟩
end Go.Proofs.Ytijbhcdnbaaobaa
namespace Go.Proofs.Ytijbhcdnbaaobaa
open Go.RowKit

def eveV (f : EveZ) (A : Option Addr) (c : Nat) : Value := .agg #[.slice A f.rides.length c, .int .i64 f.walk]
def checkQ (f : EveZ) (l : List GrpZ) : Int := if eveB f = false then 70 else if grpsB f.rides.length l = false then 71 else 0
theorem eveB_len {f : EveZ} (h : eveB f = true) : f.rides.length ≤ 8 := by
  unfold eveB at h
  simp only [Bool.and_eq_true, decide_eq_true_eq] at h
  exact h.1.1
set_option maxRecDepth 100000 in
set_option maxHeartbeats 1000000 in
theorem Check_any (f : EveZ) (l : List GrpZ) (A A2 : Option Addr) (c c2 B : Nat) (rs : List (Option Addr × Nat)) (w : World) (hB : B ≤ w.heap.size) (hr : Reads w B 5 A f.rides.length (bthCells f.rides)) (hn : f.rides.length ≤ maxLen) (hl : GrpsIn w B A2 rs l) :
    Calls Try.prog 17 #[eveV f A c, .slice A2 l.length c2] w fun e w' => e = .returned (.int .i64 (checkQ f l)) ∧ Below w.heap.size w w' := by
  obtain ⟨W, hW⟩ : ∃ W, W = w.alloc (.cells #[.slice A f.rides.length c, .int .i64 f.walk] 24) := ⟨_, rfl⟩
  have bW : Below w.heap.size w W := by subst hW; exact (Below.refl _ _).alloc (Nat.le_refl _) _
  have r0 : Row W w.heap.size 24 [.slice A f.rides.length c, .int .i64 f.walk] := by subst hW; exact Row.new w _ _
  have q0 : W.cell? ⟨w.heap.size, 0, none⟩ = some (.slice A f.rides.length c) := r0.cell (j := 0) (by simp)
  have q1 : W.cell? ⟨w.heap.size, 1, none⟩ = some (.int .i64 f.walk) := r0.cell (j := 1) (by simp)
  have H1 := Lib.hid (validEvening_any f A c B W (Nat.le_trans hB bW.size) (hr.below (bW.mono hB)) hn)
  have HG : Hid (∀ X, Below w.heap.size w X → B ≤ X.heap.size ∧ GrpsIn X B A2 rs l) := fun X hX => ⟨Nat.le_trans hB hX.size, hl.below (hX.mono hB)⟩
  unfold eveV
  clear hr hn hl
  go_enter Try.func17, Try.ntmps17
  go_wp2_with fail
  rw [← hW]
  clear hW
  refine H1.out.mono ?_
  rintro e w1 ⟨rfl, hb1⟩
  have b1 := bW.trans (hb1.mono bW.size)
  have r1 := r0.below hb1 r0.lt
  clear q0 q1 H1 bW r0 hb1
  have q0 : w1.cell? ⟨w.heap.size, 0, none⟩ = some (.slice A f.rides.length c) := r1.cell (j := 0) (by simp)
  have q1 : w1.cell? ⟨w.heap.size, 1, none⟩ = some (.int .i64 f.walk) := r1.cell (j := 1) (by simp)
  cases t1 : eveB f with
  | false =>
    go_wp2_with fail
    go_ret
    exact ⟨ret_int (by unfold checkQ; rw [t1]; rfl), b1⟩
  | true =>
    have H2 := Lib.hid (validGroups_any f l A A2 c c2 B rs w1 (HG.out w1 b1).1 (eveB_len t1) (HG.out w1 b1).2)
    go_wp2_with fail
    refine H2.out.mono ?_
    rintro e w2 ⟨rfl, hb2⟩
    have b2 := b1.trans (hb2.mono b1.size)
    cases t2 : grpsB f.rides.length l with
    | false =>
      go_wp2_with fail
      go_ret
      exact ⟨ret_int (by unfold checkQ; rw [t1, t2]; rfl), b2⟩
    | true =>
      go_wp2_with fail
      go_ret
      exact ⟨ret_int (by unfold checkQ; rw [t1, t2]; rfl), b2⟩
end Go.Proofs.Ytijbhcdnbaaobaa
