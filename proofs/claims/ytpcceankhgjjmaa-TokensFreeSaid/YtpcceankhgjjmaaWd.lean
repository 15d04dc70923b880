/- Contracts of a fair's small methods: isTill, isPurse, isBox, has, fare. Conditions: the fair as it stands reads as data. -/
import Derived.Test.YtpcceankhgjjmaaWc
import Derived.Test.YtpcceankhgjjmaaStand
import Derived.StillTailTactics
import Derived.BigRegion
namespace Go.Proofs.Ytpcceankhgjjmaa
open Go.RowKit

abbrev Std := StandIn 80 3 62

theorem quiet_left {P : Program} {f : FuncId} {args : Array Value} {w : World} {n : Nat} {v : Value}
    (h : Calls P f args (w.drewN n) fun e w' => e = .returned v ∧ w.drewN n = w') : Calls P f args (w.drewN n) fun e w'' => e = .returned v ∧ ∃ m, w'' = w.drewN m :=
  h.mono fun _ _ ⟨he, hm⟩ => ⟨he, n, hm.symm⟩
theorem wp_tail {P : Program} {id : Nat} {Q : Exit → Act → World → Prop} {a : Act} {w : World} {l : List Oper} (n : Nat) (hm : P.follows .mixedOrders = true) (hB : Region.lexTailB .any l.toArray n = true)
    (h : wpStill P l.toArray (w.drewN 1) (fun a' => wpList P l.toArray Q (l.drop n) a' (w.drewN 1)) (l.take n) a) : (Code.region id l.toArray true).wp P Q a w :=
  wp_region_still_tail n hm hB h
abbrev dealV (d : Deal) : Value := .agg #[.int .i64 d.at_, .int .i64 d.kind, .int .i64 d.a, .int .i64 d.b, .int .i64 d.n]
/-- What a deal leaves: nothing, or the fair as it stands behind it. -/
def StepPost (w : World) (B : Nat) (F : Fair) (R : Refs) (L : Locs) (r : Option Count) (e : Ending) (w' : World) : Prop :=
  match r with
  | none => e = .returned (.bool false) ∧ Below w.heap.size w w'
  | some C' => e = .returned (.bool true) ∧ Std w' B F R L C' ∧ KeptBut L.all w w'
theorem post_no {w w' : World} {B : Nat} {F : Fair} {R : Refs} {L : Locs} {r : Option Count} {e : Ending} (hr : r = none) (he : e = .returned (.bool false)) (hb : Below w.heap.size w w') : StepPost w B F R L r e w' := by
  subst hr; exact ⟨he, hb⟩
theorem post_yes {w w' : World} {B : Nat} {F : Fair} {R : Refs} {L : Locs} {r : Option Count} {C' : Count} {e : Ending} (hr : r = some C') (he : e = .returned (.bool true)) (hs : Std w' B F R L C') (hk : KeptBut L.all w w') : StepPost w B F R L r e w' := by
  subst hr; exact ⟨he, hs, hk⟩

section
variable {w : World} {B : Nat} {F : Fair} {R : Refs} {L : Locs} {C : Count}

set_option maxHeartbeats 400000 in
theorem isTill_any (i : Int) (hS : Std w B F R L C) :
    Calls Try.prog 79 #[.pointer (some ⟨L.bs, 0, none⟩), .int .i64 i] w fun e w' => e = .returned (.bool (isTill F i)) ∧ w = w' := by
  have hc := hS.cell 2 (by omega)
  simp only [standCells, List.getElem?_cons_succ, List.getElem?_cons_zero] at hc
  have hb := bounds_of hS.val
  have h1 := hb.s1
  have h2 := hb.s2
  go_enter Try.func79, Try.ntmps79
  go_wp2_with (go_at_call 59; refine (within_any _ _ _ _).mono ?_; rintro e w' ⟨rfl, rfl⟩)
  go_ret
  exact ⟨rfl, rfl⟩

set_option maxHeartbeats 400000 in
theorem isPurse_any (i : Int) (hS : Std w B F R L C) :
    Calls Try.prog 80 #[.pointer (some ⟨L.bs, 0, none⟩), .int .i64 i] w fun e w' => e = .returned (.bool (isPurse F i)) ∧ w = w' := by
  have hc := hS.cell 0 (by omega)
  simp only [standCells, List.getElem?_cons_zero] at hc
  have hb := bounds_of hS.val
  have h1 := hb.p1
  have h2 := hb.p2
  go_enter Try.func80, Try.ntmps80
  go_wp2_with (go_at_call 59; refine (within_any _ _ _ _).mono ?_; rintro e w' ⟨rfl, rfl⟩)
  go_ret
  exact ⟨rfl, rfl⟩

set_option maxHeartbeats 400000 in
theorem isBox_any (i : Int) (hS : Std w B F R L C) :
    Calls Try.prog 81 #[.pointer (some ⟨L.bs, 0, none⟩), .int .i64 i] w fun e w' => e = .returned (.bool (isBox F i)) ∧ w = w' := by
  have hc := hS.cell 1 (by omega)
  simp only [standCells, List.getElem?_cons_succ, List.getElem?_cons_zero] at hc
  have hb := bounds_of hS.val
  have h1 := hb.x1
  have h2 := hb.x2
  go_enter Try.func81, Try.ntmps81
  go_wp2_with (go_at_call 59; refine (within_any _ _ _ _).mono ?_; rintro e w' ⟨rfl, rfl⟩)
  go_ret
  exact ⟨rfl, rfl⟩

theorem StandIn.purse {T t3 t62 : TypeId} (h : StandIn T t3 t62 w B F R L C) (k : Nat) (hk : k < F.purses.toNat) :
    w.cell? ⟨L.g3, k * 2, none⟩ = some (.int .i64 (getp C.purses k).tokens) ∧ w.cell? ⟨L.g3, k * 2 + 1, none⟩ = some (.int .i64 (getp C.purses k).til) := by
  have hl := purseCells_length C.purses
  have := h.n3
  obtain ⟨a, b⟩ := purseCells_at C.purses k (by omega)
  exact ⟨(h.r3.cell (by omega)).trans a, (h.r3.cell (by omega)).trans b⟩

set_option maxHeartbeats 400000 in
theorem has_any (p n : Int) (hp : isPurse F p = true) (hS : Std w B F R L C) :
    Calls Try.prog 82 #[.pointer (some ⟨L.bs, 0, none⟩), .int .i64 p, .int .i64 n] w fun e w' => e = .returned (.bool (hasB C p n)) ∧ w = w' := by
  have hc := hS.cell 10 (by omega)
  simp only [standCells, List.getElem?_cons_succ, List.getElem?_cons_zero] at hc
  have hb := bounds_of hS.val
  have h1 := hb.p1
  have h2 := hb.p2
  have hp' := inB_iff.1 hp
  obtain ⟨k, rfl⟩ := Int.eq_ofNat_of_zero_le hp'.1
  have hk : k < F.purses.toNat := by omega
  obtain ⟨hq, _⟩ := hS.purse k hk
  have hk1 : (k : Int) < (F.purses.toNat : Int) := by omega
  clear hp hp'
  go_enter Try.func82, Try.ntmps82
  go_wp2_with (go_at_call 59; refine (within_any _ _ _ _).mono ?_; rintro e w' ⟨rfl, rfl⟩)
  all_goals (go_ret; exact ⟨ret_bool (by unfold hasB; congr 1; omega), rfl⟩)

set_option maxHeartbeats 400000 in
theorem fare_any (d : Deal) (hp : isPurse F d.a = true) (hS : Std w B F R L C) :
    Calls Try.prog 51 #[.pointer (some ⟨L.bs, 0, none⟩), .agg #[.int .i64 d.at_, .int .i64 d.kind, .int .i64 d.a, .int .i64 d.b, .int .i64 d.n]] w fun e w' => e = .returned (.int .i64 (fareS C d)) ∧ Below w.heap.size w w' := by
  have hc := hS.cell 10 (by omega)
  simp only [standCells, List.getElem?_cons_succ, List.getElem?_cons_zero] at hc
  have hb := bounds_of hS.val
  have h1 := hb.p1
  have h2 := hb.p2
  have hp' := inB_iff.1 hp
  obtain ⟨at_, kind, a, b, n⟩ := d
  obtain ⟨k, rfl⟩ := Int.eq_ofNat_of_zero_le hp'.1
  dsimp only at hp'
  have hk : k < F.purses.toNat := by omega
  obtain ⟨_, hq⟩ := hS.purse k hk
  have hk1 : (k : Int) < (F.purses.toNat : Int) := by omega
  have hl := hS.box.lt
  have hl3 := hS.r3.lt
  clear hp hp'
  go_enter Try.func51, Try.ntmps51
  go_wp2_with fail
  go_quiet (fail)
  go_wp2
  all_goals (go_ret; exact ⟨ret_int (by simp [fareS, *] <;> omega), below_drewN ((Below.refl _ _).alloc (Nat.le_refl _) _) _⟩)

theorem Std.till (hS : Std w B F R L C) (a : Nat) (ha : a < F.stock.length) :
    w.cell? ⟨L.g1, a, none⟩ = some (.int .i64 (geti C.stock a)) ∧ w.cell? ⟨L.g2, a, none⟩ = some (.int .i64 (geti C.cash a)) ∧ w.frozen? ⟨L.g1, a, none⟩ = false ∧ w.frozen? ⟨L.g2, a, none⟩ = false :=
  ⟨(hS.r1.cell (by rw [intCells_length, hS.n1]; exact ha)).trans (intCells_at _ _ (by rw [hS.n1]; exact ha)), (hS.r2.cell (by rw [intCells_length, hS.n2]; exact ha)).trans (intCells_at _ _ (by rw [hS.n2]; exact ha)), hS.r1.frozen a, hS.r2.frozen a⟩
theorem Std.boxc (hS : Std w B F R L C) (a : Nat) (ha : a < F.boxes.toNat) :
    w.cell? ⟨L.g4, a, none⟩ = some (.int .i64 (geti C.boxes a)) ∧ w.frozen? ⟨L.g4, a, none⟩ = false :=
  ⟨(hS.r4.cell (by rw [intCells_length, hS.n4]; exact ha)).trans (intCells_at _ _ (by rw [hS.n4]; exact ha)), hS.r4.frozen a⟩
theorem Std.cells (hS : Std w B F R L C) :
    w.cell? ⟨L.bs, 5, none⟩ = some (.int .i64 F.refund) ∧ w.cell? ⟨L.bs, 6, none⟩ = some (.int .i64 F.band) ∧ w.cell? ⟨L.bs, 7, none⟩ = some (.int .i64 F.hours) ∧
    w.cell? ⟨L.bs, 8, none⟩ = some (.slice (some ⟨L.g1, 0, none⟩) F.stock.length L.c1) ∧ w.cell? ⟨L.bs, 9, none⟩ = some (.slice (some ⟨L.g2, 0, none⟩) F.stock.length L.c2) ∧
    w.cell? ⟨L.bs, 10, none⟩ = some (.slice (some ⟨L.g3, 0, none⟩) F.purses.toNat L.c3) ∧ w.cell? ⟨L.bs, 11, none⟩ = some (.slice (some ⟨L.g4, 0, none⟩) F.boxes.toNat L.c4) ∧ w.cell? ⟨L.bs, 12, none⟩ = some (.int .i64 C.lost) :=
  ⟨hS.cell 5 (by omega), hS.cell 6 (by omega), hS.cell 7 (by omega), hS.cell 8 (by omega), hS.cell 9 (by omega), hS.cell 10 (by omega), hS.cell 11 (by omega), hS.cell 12 (by omega)⟩
theorem Std.sizes (hS : Std w B F R L C) : L.bs < w.heap.size ∧ L.g1 < w.heap.size ∧ L.g2 < w.heap.size ∧ L.g3 < w.heap.size ∧ L.g4 < w.heap.size := ⟨hS.box.lt, hS.r1.lt, hS.r2.lt, hS.r3.lt, hS.r4.lt⟩
theorem Std.apart (hS : Std w B F R L C) : (¬L.bs = L.g1 ∧ ¬L.bs = L.g2 ∧ ¬L.bs = L.g3 ∧ ¬L.bs = L.g4) ∧ (¬L.g1 = L.g2 ∧ ¬L.g1 = L.g3 ∧ ¬L.g1 = L.g4) ∧ (¬L.g2 = L.g3 ∧ ¬L.g2 = L.g4) ∧ ¬L.g3 = L.g4 := by
  have hnd := hS.ne
  simp only [Locs.all, List.nodup_cons, List.mem_cons, List.not_mem_nil, or_false, not_or] at hnd
  obtain ⟨⟨n01, n02, n03, n04⟩, ⟨n12, n13, n14⟩, ⟨n23, n24⟩, n34, _⟩ := hnd
  exact ⟨⟨n01, n02, n03, n04⟩, ⟨n12, n13, n14⟩, ⟨n23, n24⟩, n34⟩
end
end Go.Proofs.Ytpcceankhgjjmaa
