/- Contracts of Audit's three functions that choose. Conditions: two counts read as data. -/
import Derived.Test.YtonbaikdpcmbiaaWy
import Derived.Test.YtonbaikdpcmbiaaUc
namespace Go.Proofs.Ytonbaikdpcmbiaa
open Go.RowKit

def auT (C D : Count) (k : Nat) : Bool := (geti C.stock k != geti D.stock k) || (geti C.cash k != geti D.cash k)
def auP (C D : Count) (k : Nat) : Bool := !((getp C.purses k).tokens == (getp D.purses k).tokens && (getp C.purses k).til == (getp D.purses k).til)
def auB (C D : Count) (k : Nat) : Bool := geti C.boxes k != geti D.boxes k
abbrev countL (C : Count) (K : CRefs) : List Value := [.slice K.A1 C.stock.length K.c1, .slice K.A2 C.cash.length K.c2, .slice K.A3 C.purses.length K.c3, .slice K.A4 C.boxes.length K.c4, .int .i64 C.lost]
def ChPost (X : World) (b : Bool) (e : Ending) (w' : World) : Prop := e = .returned (.bool b) ∧ ∃ d, w' = X.drewN d

section
variable {C D : Count} {K L : CRefs} {X : World} {B B' gc gd : Nat}
set_option maxHeartbeats 1000000 in
set_option maxRecDepth 100000 in
theorem au1_any (rc : Row X gc 35 (countL C K)) (rd : Row X gd 35 (countL D L)) (hC : CountIn X B C K) (hD : CountIn X B' D L) (k : Nat) (k1 : k < C.stock.length) (k2 : k < C.cash.length) (k3 : k < D.stock.length) (k4 : k < D.cash.length) :
    Calls Try.prog 55 #[.int .i64 k, .pointer (some ⟨gc, 0, none⟩), .pointer (some ⟨gd, 0, none⟩)] X (ChPost X (auT C D k)) := by
  obtain ⟨A1, c1, A2, c2, A3, c3, A4, c4⟩ := K
  obtain ⟨B1, d1, B2, d2, B3, d3, B4, d4⟩ := L
  obtain ⟨s1, s2, _, _, _, _, _, _⟩ := hC
  obtain ⟨t1, t2, _, _, _, _, _, _⟩ := hD
  dsimp only at s1 s2 t1 t2 rc rd
  obtain ⟨_, x0, x1, _, _, _⟩ := Row.at_5 rc
  obtain ⟨_, y0, y1, _, _, _⟩ := Row.at_5 rd
  obtain ⟨b1, o1, rfl, _, h1⟩ := s1.at1 k1
  obtain ⟨b2, o2, rfl, _, h2⟩ := s2.at1 k2
  obtain ⟨b3, o3, rfl, _, h3⟩ := t1.at1 k3
  obtain ⟨b4, o4, rfl, _, h4⟩ := t2.at1 k4
  have p1 : X.cell? ⟨b1, o1 + k, none⟩ = some (.int .i64 (geti C.stock k)) := h1 k k1
  have p2 : X.cell? ⟨b2, o2 + k, none⟩ = some (.int .i64 (geti C.cash k)) := h2 k k2
  have p3 : X.cell? ⟨b3, o3 + k, none⟩ = some (.int .i64 (geti D.stock k)) := h3 k k3
  have p4 : X.cell? ⟨b4, o4 + k, none⟩ = some (.int .i64 (geti D.cash k)) := h4 k k4
  clear h1 h2 h3 h4
  have i1 : (k : Int) < (C.stock.length : Int) := by omega
  have i2 : (k : Int) < (C.cash.length : Int) := by omega
  have i3 : (k : Int) < (D.stock.length : Int) := by omega
  have i4 : (k : Int) < (D.cash.length : Int) := by omega
  cases hs : geti C.stock k != geti D.stock k with
  | true =>
    have Hv : Hid (auT C D k = true) := by show _ = _; simp [auT, hs]
    go_enter Try.func55, Try.ntmps55
    go_wp2_with fail
    go_quiet (fail)
    go_wp2_with fail
    go_ret
    exact ⟨ret_bool Hv.out.symm, _, rfl⟩
  | false =>
    have Hv : Hid (auT C D k = (geti C.cash k != geti D.cash k)) := by show _ = _; simp [auT, hs]
    go_enter Try.func55, Try.ntmps55
    go_wp2_with fail
    go_quiet (fail)
    go_wp2_with fail
    go_ret
    exact ⟨ret_bool Hv.out.symm, _, rfl⟩

set_option maxHeartbeats 1000000 in
set_option maxRecDepth 100000 in
theorem au2_any (rc : Row X gc 35 (countL C K)) (rd : Row X gd 35 (countL D L)) (hC : CountIn X B C K) (hD : CountIn X B' D L) (k : Nat) (k1 : k < C.purses.length) (k3 : k < D.purses.length) :
    Calls Try.prog 56 #[.int .i64 k, .pointer (some ⟨gc, 0, none⟩), .pointer (some ⟨gd, 0, none⟩)] X (ChPost X (auP C D k)) := by
  obtain ⟨A1, c1, A2, c2, A3, c3, A4, c4⟩ := K
  obtain ⟨B1, d1, B2, d2, B3, d3, B4, d4⟩ := L
  obtain ⟨_, _, s1, _, _, _, _, _⟩ := hC
  obtain ⟨_, _, t1, _, _, _, _, _⟩ := hD
  dsimp only at s1 t1 rc rd
  obtain ⟨_, _, _, x0, _, _⟩ := Row.at_5 rc
  obtain ⟨_, _, _, y0, _, _⟩ := Row.at_5 rd
  obtain ⟨b1, o1, rfl, _, p1, p2⟩ := s1.at3 k1
  obtain ⟨b3, o3, rfl, _, p3, p4⟩ := t1.at3 k3
  have i1 : (k : Int) < (C.purses.length : Int) := by omega
  have i3 : (k : Int) < (D.purses.length : Int) := by omega
  have fin : ∀ b : Bool, auP C D k = b → Hid (auP C D k = b) := fun _ h => h
  by_cases e1 : (getp C.purses k).tokens = (getp D.purses k).tokens
  · by_cases e2 : (getp C.purses k).til = (getp D.purses k).til
    · have Hv := fin false (by simp [auP, e1, e2])
      clear fin
      go_enter Try.func56, Try.ntmps56
      go_wp2_with fail
      go_quiet (fail)
      go_wp2_with fail
      go_ret
      exact ⟨ret_bool Hv.out.symm, _, rfl⟩
    · have Hv := fin true (by simp [auP, e2])
      clear fin
      go_enter Try.func56, Try.ntmps56
      go_wp2_with fail
      go_quiet (fail)
      go_wp2_with fail
      go_ret
      exact ⟨ret_bool Hv.out.symm, _, rfl⟩
  · have Hv := fin true (by simp [auP, e1])
    clear fin
    go_enter Try.func56, Try.ntmps56
    go_wp2_with fail
    go_quiet (fail)
    go_wp2_with fail
    go_ret
    exact ⟨ret_bool Hv.out.symm, _, rfl⟩

set_option maxHeartbeats 1000000 in
set_option maxRecDepth 100000 in
theorem au3_any (rc : Row X gc 35 (countL C K)) (rd : Row X gd 35 (countL D L)) (hC : CountIn X B C K) (hD : CountIn X B' D L) (k : Nat) (k1 : k < C.boxes.length) (k3 : k < D.boxes.length) :
    Calls Try.prog 57 #[.int .i64 k, .pointer (some ⟨gc, 0, none⟩), .pointer (some ⟨gd, 0, none⟩)] X (ChPost X (auB C D k)) := by
  obtain ⟨A1, c1, A2, c2, A3, c3, A4, c4⟩ := K
  obtain ⟨B1, d1, B2, d2, B3, d3, B4, d4⟩ := L
  obtain ⟨_, _, _, s1, _, _, _, _⟩ := hC
  obtain ⟨_, _, _, t1, _, _, _, _⟩ := hD
  dsimp only at s1 t1 rc rd
  obtain ⟨_, _, _, _, x0, _⟩ := Row.at_5 rc
  obtain ⟨_, _, _, _, y0, _⟩ := Row.at_5 rd
  obtain ⟨b1, o1, rfl, _, h1⟩ := s1.at1 k1
  obtain ⟨b3, o3, rfl, _, h3⟩ := t1.at1 k3
  have p1 : X.cell? ⟨b1, o1 + k, none⟩ = some (.int .i64 (geti C.boxes k)) := h1 k k1
  have p3 : X.cell? ⟨b3, o3 + k, none⟩ = some (.int .i64 (geti D.boxes k)) := h3 k k3
  clear h1 h3
  have i1 : (k : Int) < (C.boxes.length : Int) := by omega
  have i3 : (k : Int) < (D.boxes.length : Int) := by omega
  go_enter Try.func57, Try.ntmps57
  go_wp2_with fail
  go_quiet (fail)
  go_wp2_with fail
  go_ret
  exact ⟨ret_bool rfl, _, rfl⟩
end
end Go.Proofs.Ytonbaikdpcmbiaa
