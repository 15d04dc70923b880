/- The walk of TokensNoWin. Conditions: the arguments read as data. -/
import Derived.Test.YtpcceankhgjjmaaRa
import Derived.Test.YtpcceankhgjjmaaRb
import Derived.Test.YtpcceankhgjjmaaWv
import Derived.Deep.RegionHeld3
import Derived.Deep.DeepCutAuto
namespace Go.Proofs.Ytpcceankhgjjmaa
open Go.RowKit

theorem Row.at_8 {w : World} {g : Nat} {t : TypeId} {v0 v1 v2 v3 v4 v5 v6 v7 : Value} (h : Row w g t [v0, v1, v2, v3, v4, v5, v6, v7]) : (∀ o, w.frozen? ⟨g, o, none⟩ = false) ∧ w.cell? ⟨g, 0, none⟩ = some v0 ∧ w.cell? ⟨g, 1, none⟩ = some v1 ∧ w.cell? ⟨g, 2, none⟩ = some v2 ∧ w.cell? ⟨g, 3, none⟩ = some v3 ∧ w.cell? ⟨g, 4, none⟩ = some v4 ∧ w.cell? ⟨g, 5, none⟩ = some v5 ∧ w.cell? ⟨g, 6, none⟩ = some v6 ∧ w.cell? ⟨g, 7, none⟩ = some v7 :=
  ⟨fun o => h.frozen o, h.cell (j := 0) (by simp), h.cell (j := 1) (by simp), h.cell (j := 2) (by simp), h.cell (j := 3) (by simp), h.cell (j := 4) (by simp), h.cell (j := 5) (by simp), h.cell (j := 6) (by simp), h.cell (j := 7) (by simp)⟩
theorem check_at {F : Fair} {x : Int} (hx : x = chkE F) (R : Refs) (w : World) (B : Nat) (hB : B ≤ w.heap.size) (hF : FairIn w B F R) :
    Calls Try.prog 16 #[fairV F R] w fun e w' => e = .returned (.int .i64 x) ∧ Below w.heap.size w w' :=
  (Check_any F R w B hB hF).mono fun e w' ⟨he, hb⟩ => ⟨by rw [he, hx]; rfl, hb⟩
theorem rcheck_at {F : Fair} {x : Int} (hx : x = chkE F) (R : Refs) (w : World) (B : Nat) (hB : B ≤ w.heap.size) (hF : FairIn w B F R) :
    Calls Try.prog 17 #[fairV F R] w fun e w' => e = .returned (.int .i64 x) ∧ Below w.heap.size w w' :=
  (rCheck_any F R w B hB hF).mono fun e w' ⟨he, hb⟩ => ⟨by rw [he, hx], hb⟩

set_option maxHeartbeats 2000000 in
set_option maxRecDepth 100000 in
theorem nowin_yes (F : Fair) (R : Refs) (cs : List Int) (n : Int) (A : Option Addr) (c B : Nat) (w : World) (hB : B ≤ w.heap.size) (hF : FairIn w B F R) (hl : Reads w B 1 A cs.length (intCells cs)) (hn : cs.length ≤ maxLen) (hv : validB F = true) :
    Calls Try.prog 11 #[fairV F R, .slice A cs.length c, .int .i64 n] w (WPost w) := by
  have hF0 := hF.alloc hB (.cells (fairCells F R) 25)
  have ba := (Below.refl w.heap.size w).alloc (Nat.le_refl _) (.cells (fairCells F R) 25)
  have r0 := Row.new w 25 (fairCells F R)
  have hx := chk_yes hv
  have hw := cost_win hv cs
  have hq := fun h => (buy_win (F := F) (n := n) h).2
  have Hx := Lib.hid hx
  have Hv := Lib.hid hv
  have Hw := Lib.hid hw
  have Hq := Lib.hid hq
  have hr1 := (bounds_of hv).r1
  clear hx hv hw hq
  unfold fairV
  go_enter Try.func11, Try.ntmps11
  go_wp2_with fail
  refine (check_at Hx.out R _ B (by simp; omega) hF0).mono ?_
  rintro e w1 ⟨rfl, hb1⟩
  have b1 := below_step ba hb1
  have r1 := r0.below hb1 r0.lt
  clear hb1
  obtain ⟨_, q0, q1, q2, q3, q4, q5, q6, q7⟩ := Row.at_8 r1
  go_wp2_with fail
  refine (rcheck_at Hx.out R _ B (by have := b1.size; omega) (hF.below (b1.mono hB))).mono ?_
  rintro e w2 ⟨rfl, hb2⟩
  have b2 := below_step b1 hb2
  have r2 := r1.below hb2 r1.lt
  clear hb2 q0 q1 q2 q3 q4 q5 q6 q7
  obtain ⟨_, q0, q1, q2, q3, q4, q5, q6, q7⟩ := Row.at_8 r2
  go_wp2_with fail
  refine (cost_any F R cs A c B _ (by have := b2.size; omega) (hF.below (b2.mono hB)) (hl.below (b2.mono hB)) hn).mono ?_
  rintro e w3 ⟨rfl, hb3⟩
  have b3 := below_step b2 hb3
  have r3 := r2.below hb3 r2.lt
  clear hb3 q0 q1 q2 q3 q4 q5 q6 q7
  obtain ⟨_, q0, q1, q2, q3, q4, q5, q6, q7⟩ := Row.at_8 r3
  have hw := Hw.out
  generalize costS F cs = cst at *
  obtain ⟨m, p, is⟩ := cst
  dsimp only at hw ⊢
  have fin : ∀ (is : Bool), True := fun _ => trivial
  cases is with
  | true =>
    have hle : wrap64 (m * F.refund) ≤ p := hw rfl
    clear hw fin
    go_wp2_with fail
    refine (Buy_any F R n _ B (by have := b3.size; omega) (hF.below (b3.mono hB))).mono ?_
    rintro e w4 ⟨hb4, A', m', c', rfl, _, _⟩
    have b4 := below_step b3 hb4
    have r4 := r3.below hb4 r3.lt
    clear hb4 q0 q1 q2 q3 q4 q5 q6 q7
    obtain ⟨_, q0, q1, q2, q3, q4, q5, q6, q7⟩ := Row.at_8 r4
    have hq := Hq.out
    generalize buyS F n = bs at *
    obtain ⟨bl, bp, be⟩ := bs
    dsimp only at hq ⊢
    by_cases he : be = 0
    · obtain ⟨h0, h1, h2, h3⟩ := hq he
      have hm := Int.mul_nonneg hr1 h0
      rw [Int.mul_comm] at h2 hm
      have hle2 : wrap64 (n * F.refund) ≤ bp := by rw [wrap64_id (by omega) (by omega)]; exact h2
      clear hm h2 h3 hq
      subst he
      go_wp2_with fail
      refine (works_any _).mono ?_
      rintro e w5 ⟨rfl, hb5⟩
      go_wp2_with fail
      go_ret
      exact ⟨rfl, below_step b4 hb5⟩
    · have he' : (be != 0) = true := by simpa using he
      clear hq he
      go_wp2_with fail
      refine (works_any _).mono ?_
      rintro e w5 ⟨rfl, hb5⟩
      go_wp2_with fail
      go_ret
      exact ⟨rfl, below_step b4 hb5⟩
  | false =>
    clear hw fin
    go_wp2_with fail
    refine (Buy_any F R n _ B (by have := b3.size; omega) (hF.below (b3.mono hB))).mono ?_
    rintro e w4 ⟨hb4, A', m', c', rfl, _, _⟩
    have b4 := below_step b3 hb4
    have r4 := r3.below hb4 r3.lt
    clear hb4 q0 q1 q2 q3 q4 q5 q6 q7
    obtain ⟨_, q0, q1, q2, q3, q4, q5, q6, q7⟩ := Row.at_8 r4
    have hq := Hq.out
    generalize buyS F n = bs at *
    obtain ⟨bl, bp, be⟩ := bs
    dsimp only at hq ⊢
    by_cases he : be = 0
    · obtain ⟨h0, h1, h2, h3⟩ := hq he
      have hm := Int.mul_nonneg hr1 h0
      rw [Int.mul_comm] at h2 hm
      have hle2 : wrap64 (n * F.refund) ≤ bp := by rw [wrap64_id (by omega) (by omega)]; exact h2
      clear hm h2 h3 hq
      subst he
      go_wp2_with fail
      refine (works_any _).mono ?_
      rintro e w5 ⟨rfl, hb5⟩
      go_wp2_with fail
      go_ret
      exact ⟨rfl, below_step b4 hb5⟩
    · have he' : (be != 0) = true := by simpa using he
      clear hq he
      go_wp2_with fail
      refine (works_any _).mono ?_
      rintro e w5 ⟨rfl, hb5⟩
      go_wp2_with fail
      go_ret
      exact ⟨rfl, below_step b4 hb5⟩

theorem check_box {F : Fair} {x : Int} (hx : x = chkE F) (R : Refs) (w X : World) (B : Nat) (hB : B ≤ w.heap.size) (hF : FairIn w B F R) (hX : Below w.heap.size w X) (hr : Row X w.heap.size 25 (fairCells F R).toList) :
    Calls Try.prog 16 #[fairV F R] X fun e w' => e = .returned (.int .i64 x) ∧ Below w.heap.size w w' ∧ Row w' w.heap.size 25 (fairCells F R).toList :=
  (check_at hx R X B (by have := hX.size; omega) (hF.below (hX.mono hB))).mono fun _ _ ⟨he, hb⟩ => ⟨he, below_step hX hb, hr.below hb hr.lt⟩
theorem rcheck_box {F : Fair} {x : Int} (hx : x = chkE F) (R : Refs) (w X : World) (B : Nat) (hB : B ≤ w.heap.size) (hF : FairIn w B F R) (hX : Below w.heap.size w X) (hr : Row X w.heap.size 25 (fairCells F R).toList) :
    Calls Try.prog 17 #[fairV F R] X fun e w' => e = .returned (.int .i64 x) ∧ Below w.heap.size w w' ∧ Row w' w.heap.size 25 (fairCells F R).toList :=
  (rcheck_at hx R X B (by have := hX.size; omega) (hF.below (hX.mono hB))).mono fun _ _ ⟨he, hb⟩ => ⟨he, below_step hX hb, hr.below hb hr.lt⟩
theorem works_box {F : Fair} (R : Refs) (w X : World) (hX : Below w.heap.size w X) (hr : Row X w.heap.size 25 (fairCells F R).toList) :
    Calls Try.prog 15 #[] X fun e w' => e = .returned (.bool true) ∧ Below w.heap.size w w' ∧ Row w' w.heap.size 25 (fairCells F R).toList :=
  (works_any X).mono fun _ _ ⟨he, hb⟩ => ⟨he, below_step hX hb, hr.below hb hr.lt⟩

set_option maxHeartbeats 2000000 in
set_option maxRecDepth 100000 in
theorem nowin_no (F : Fair) (R : Refs) (cs : List Int) (n : Int) (A : Option Addr) (c B : Nat) (w : World) (hB : B ≤ w.heap.size) (hF : FairIn w B F R) (hv : validB F = false) :
    Calls Try.prog 11 #[fairV F R, .slice A cs.length c, .int .i64 n] w (WPost w) := by
  have hF0 := hF.alloc hB (.cells (fairCells F R) 25)
  have ba := (Below.refl w.heap.size w).alloc (Nat.le_refl _) (.cells (fairCells F R) 25)
  have r0 := Row.new w 25 (fairCells F R)
  have hx := chk_no hv
  have Hx := Lib.hid hx
  have HF := Lib.hid (fun (X : World) (hX : Below w.heap.size w X) => hF.below (hX.mono hB))
  clear hx hv
  unfold fairV
  go_enter Try.func11, Try.ntmps11
  go_wp2_with fail
  refine (check_at Hx.out R _ B (by simp; omega) hF0).mono ?_
  rintro e w1 ⟨rfl, hb1⟩
  have b1 := below_step ba hb1
  have r1 := r0.below hb1 r0.lt
  clear hb1
  obtain ⟨_, q0, q1, q2, q3, q4, q5, q6, q7⟩ := Row.at_8 r1
  go_wp2_with fail
  have z1 := b1.size
  have r1' := r1.lt
  go_region_held3 (fun x => x.cell? ⟨w.heap.size, 0, none⟩ = some (.int .i64 F.purses) ∧ x.cell? ⟨w.heap.size, 1, none⟩ = some (.int .i64 F.boxes) ∧ x.cell? ⟨w.heap.size, 2, none⟩ = some (.slice R.A1 F.stock.length R.c1) ∧ x.cell? ⟨w.heap.size, 3, none⟩ = some (.slice R.A2 F.cash.length R.c2) ∧ x.cell? ⟨w.heap.size, 4, none⟩ = some (.slice R.A3 F.bundles.length R.c3) ∧ x.cell? ⟨w.heap.size, 5, none⟩ = some (.int .i64 F.refund) ∧ x.cell? ⟨w.heap.size, 6, none⟩ = some (.int .i64 F.band) ∧ x.cell? ⟨w.heap.size, 7, none⟩ = some (.int .i64 F.hours)) (go_keep) (first
    | (go_at_call 16; go_must (refine (check_box Hx.out R w _ B hB hF ?_ ?_).mono ?_; (repeat first | assumption | (with_reducible refine below_drewN ?_ _) | (with_reducible refine Below.drew ?_)); (repeat first | assumption | (with_reducible refine Row.drewN ?_ _) | (with_reducible refine Row.drew ?_)); rintro e x2 ⟨rfl, bx2, rx2⟩; obtain ⟨_, c0, c1, c2, c3, c4, c5, c6, c7⟩ := Row.at_8 rx2))
    | (go_at_call 17; go_must (refine (rcheck_box Hx.out R w _ B hB hF ?_ ?_).mono ?_; (repeat first | assumption | (with_reducible refine below_drewN ?_ _) | (with_reducible refine Below.drew ?_)); (repeat first | assumption | (with_reducible refine Row.drewN ?_ _) | (with_reducible refine Row.drew ?_)); rintro e x3 ⟨rfl, bx3, rx3⟩; obtain ⟨_, g0, g1, g2, g3, g4, g5, g6, g7⟩ := Row.at_8 rx3))
    | (go_at_call 15; go_must (refine (works_box (F := F) R w _ ?_ ?_).mono ?_; (repeat first | assumption | (with_reducible refine below_drewN ?_ _) | (with_reducible refine Below.drew ?_)); (repeat first | assumption | (with_reducible refine Row.drewN ?_ _) | (with_reducible refine Row.drew ?_)); rintro e x4 ⟨rfl, bx4, rx4⟩; obtain ⟨_, d0, d1, d2, d3, d4, d5, d6, d7⟩ := Row.at_8 rx4)))
  all_goals
    go_wp2_with fail
    go_ret
    exact ⟨rfl, bx4⟩
end Go.Proofs.Ytpcceankhgjjmaa
