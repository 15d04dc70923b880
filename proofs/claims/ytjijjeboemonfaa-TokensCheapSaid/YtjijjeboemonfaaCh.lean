/- The walk of TokensCheap. Conditions: the arguments read as data. -/
import Derived.Test.YtjijjeboemonfaaRb
import Derived.Test.YtjijjeboemonfaaRd
import Derived.Test.YtjijjeboemonfaaWv
import Derived.Deep.DeepCutAuto
namespace Go.Proofs.Ytjijjeboemonfaa
open Go.RowKit

theorem Row.cells3 {w : World} {g : Nat} {t : TypeId} {v0 v1 v2 : Value} (h : Row w g t [v0, v1, v2]) : w.cell? ⟨g, 0, none⟩ = some v0 ∧ w.cell? ⟨g, 1, none⟩ = some v1 ∧ w.cell? ⟨g, 2, none⟩ = some v2 :=
  ⟨h.cell (j := 0) (by simp), h.cell (j := 1) (by simp), h.cell (j := 2) (by simp)⟩
theorem share_sum {F : Fair} {n m : Int} (h1 : (buyS F n).2.2 = 0) (h2 : (buyS F m).2.2 = 0) (h3 : (buyS F (n + m)).2.2 = 0) :
    shareS F [n, m] = ((buyS F (n + m)).2.1, (buyS F n).2.1 + (buyS F m).2.1 - (buyS F (n + m)).2.1, 0) ∧ (buyS F (n + m)).2.1 ≤ (buyS F n).2.1 + (buyS F m).2.1 := by
  obtain ⟨_, a0, a1, _⟩ := buy_win h1
  obtain ⟨_, b0, b1, _⟩ := buy_win h2
  have e : wrap64 (n + m) = n + m := wrap64_id (by omega) (by omega)
  have := share_two h1 h2 (by rw [e]; exact h3)
  rw [e] at this
  exact this
theorem buy_bd {F : Fair} {n : Int} (h : (buyS F n).2.2 = 0) : 0 ≤ n ∧ n ≤ 1000 ∧ 0 ≤ (buyS F n).2.1 ∧ (buyS F n).2.1 ≤ 2000000000 := by
  obtain ⟨hv, a0, a1, a2, a3⟩ := buy_win h
  have := Int.mul_nonneg (bounds_of hv).r1 a0
  exact ⟨a0, a1, by omega, a3⟩

set_option maxHeartbeats 4000000 in
set_option maxRecDepth 100000 in
theorem cheap_walk (F : Fair) (R : Refs) (cs : List Int) (n m : Int) (A : Option Addr) (c B : Nat) (w : World) (hB : B ≤ w.heap.size) (hF : FairIn w B F R) (hl : Reads w B 1 A cs.length (intCells cs)) (hn : cs.length ≤ maxLen) :
    Calls Try.prog 12 #[fairV F R, .agg #[.int .i64 n, .int .i64 m, .slice A cs.length c]] w (WPost w) := by
  obtain ⟨W, hW⟩ : ∃ W, W = (w.alloc (.cells (fairCells F R) 25)).alloc (.cells #[.int .i64 n, .int .i64 m, .slice A cs.length c] 73) := ⟨_, rfl⟩
  have sW : W.heap.size = w.heap.size + 2 := by subst hW; simp
  have bW : Below w.heap.size w W := by subst hW; exact ((Below.refl _ _).alloc (Nat.le_refl _) _).alloc (by simp) _
  have rF : Row W w.heap.size 25 (fairCells F R).toList := by subst hW; exact (row_new _ _ _ _ rfl).alloc _
  have rP : Row W (w.heap.size + 1) 73 [.int .i64 n, .int .i64 m, .slice A cs.length c] := by subst hW; exact row_new _ _ _ _ (by simp)
  obtain ⟨_, q0, q1, q2, q3, q4, q5, q6, q7⟩ := Row.cells8 rF
  obtain ⟨p0, p1, p2⟩ := Row.cells3 rP
  unfold fairV
  go_enter Try.func12, Try.ntmps12
  go_wp2_with fail
  rw [← hW]
  clear hW
  refine (Buy_any F R n W B (by omega) (hF.below (bW.mono hB))).mono ?_
  rintro e w1 ⟨hb1, A1, m1, c1, rfl, hrd, _⟩
  have b1 := below_step bW hb1
  have z1 := b1.size
  have rF1 := rF.below hb1 rF.lt
  have rP1 := rP.below hb1 rP.lt
  have hm1 : m1 = (buyS F n).1.length := by have := hrd.1; rw [intCells_length] at this; omega
  subst hm1
  clear q0 q1 q2 q3 q4 q5 q6 q7 p0 p1 p2
  obtain ⟨_, q0, q1, q2, q3, q4, q5, q6, q7⟩ := Row.cells8 rF1
  obtain ⟨p0, p1, p2⟩ := Row.cells3 rP1
  by_cases he : (buyS F n).2.2 = 0
  case neg =>
    have he' : ((buyS F n).2.2 != 0) = true := by simpa using he
    clear he
    go_wp2_with fail
    refine (works_any _).mono ?_
    rintro e w9 ⟨rfl, hb9⟩
    go_wp2_with fail
    go_ret
    exact ⟨rfl, below_step b1 hb9⟩
  have He := Lib.hid he
  rw [he]
  clear he
  obtain ⟨b, hbest⟩ := best_of He.out
  have Hb := Lib.hid hbest
  obtain ⟨n0, n1, P0, P1⟩ := buy_bd He.out
  have hcost := best_cost hbest
  have Hc := Lib.hid hcost
  have hnb := hbest.has
  clear hbest hcost
  have hrl : (buyS F n).1.length ≤ maxLen := by
    have h1 := Hb.out.len
    have h2 := (bounds_of Hb.out.val).b
    unfold maxLen; omega
  obtain ⟨P, hP⟩ : ∃ P, P = (buyS F n).2.1 := ⟨_, rfl⟩
  rw [← hP] at P0 P1 ⊢
  have HP := Lib.hid hP
  clear hP
  go_wp2_with fail
  refine (cost_any F R (buyS F n).1 A1 c1 w1.heap.size w1 (Nat.le_refl _) ((hF.below (b1.mono hB)).more (by omega)) hrd hrl).mono ?_
  rintro e w2 ⟨he2, hb2⟩
  rw [Hc.out] at he2
  rw [← HP.out] at he2
  subst he2
  have b2 := below_step b1 hb2
  have rF2 := rF1.below hb2 rF1.lt
  have rP2 := rP1.below hb2 rP1.lt
  clear q0 q1 q2 q3 q4 q5 q6 q7 p0 p1 p2
  obtain ⟨_, q0, q1, q2, q3, q4, q5, q6, q7⟩ := Row.cells8 rF2
  obtain ⟨p0, p1, p2⟩ := Row.cells3 rP2
  dsimp only
  go_wp2_with fail
  refine (cost_any F R cs A c B w2 (by have := b2.size; omega) (hF.below (b2.mono hB)) (hl.below (b2.mono hB)) hn).mono ?_
  rintro e w3 ⟨rfl, hb3⟩
  have b3 := below_step b2 hb3
  have rF3 := rF2.below hb3 rF2.lt
  have rP3 := rP2.below hb3 rP2.lt
  clear q0 q1 q2 q3 q4 q5 q6 q7 p0 p1 p2
  obtain ⟨_, q0, q1, q2, q3, q4, q5, q6, q7⟩ := Row.cells8 rF3
  obtain ⟨p0, p1, p2⟩ := Row.cells3 rP3
  have hoth : (costS F cs).2.2 = true → n ≤ (costS F cs).1 → P ≤ (costS F cs).2.1 ∧ ((costS F cs).2.1 = P → b ≤ (costS F cs).1) := fun h1 h2 => by
    obtain ⟨g1, g2, g3, g4⟩ := cost_yes Hb.out.val h1
    have := Hb.out.le cs g1 g2 (by rw [← g3]; exact h2)
    rw [HP.out, g3, g4]
    exact this
  generalize costS F cs = cst at *
  obtain ⟨o, q, is⟩ := cst
  dsimp only at hoth ⊢
  have Ho := Lib.hid hoth
  clear hoth
  go_upto_region 8 with (fail)
  go_cut [79] (fun s79 wx => s79 = .bool false ∧ wx = w3)
  case first =>
    cases is with
    | false =>
      go_wp2_with fail
      go_meet
      exact ⟨by simp <;> omega, rfl⟩
    | true =>
      by_cases h1 : n ≤ o
      · obtain ⟨h2, h3⟩ := Ho.out rfl h1
        by_cases h4 : q = P
        · have h5 := h3 h4
          clear h3
          subst h4
          go_wp2_with fail
          go_meet
          exact ⟨by simp <;> omega, rfl⟩
        · have h5 : ¬ q < P := by omega
          have h6 : (q == P) = false := by simpa using h4
          clear h3 h4
          go_wp2_with fail
          go_meet
          exact ⟨by simp <;> omega, rfl⟩
      · go_wp2_with fail
        go_meet
        exact ⟨by simp <;> omega, rfl⟩
  case rest =>
    obtain ⟨rfl, rfl⟩ := hcut
    go_wp2_with fail
    refine (Buy_any F R m _ B (by have := b3.size; omega) (hF.below (b3.mono hB))).mono ?_
    rintro e w4 ⟨hb4, A4, m4, c4, rfl, _, _⟩
    have b4 := below_step b3 hb4
    have rF4 := rF3.below hb4 rF3.lt
    have rP4 := rP3.below hb4 rP3.lt
    clear q0 q1 q2 q3 q4 q5 q6 q7 p0 p1 p2
    obtain ⟨_, q0, q1, q2, q3, q4, q5, q6, q7⟩ := Row.cells8 rF4
    obtain ⟨p0, p1, p2⟩ := Row.cells3 rP4
    by_cases he : (buyS F m).2.2 = 0
    case neg =>
      have he' : ((buyS F m).2.2 != 0) = true := by simpa using he
      clear he
      go_wp2_with fail
      refine (works_any _).mono ?_
      rintro e w9 ⟨rfl, hb9⟩
      go_wp2_with fail
      go_ret
      exact ⟨rfl, below_step b4 hb9⟩
    have He2 := Lib.hid he
    rw [he]
    clear he
    obtain ⟨b', hbest⟩ := best_of He2.out
    obtain ⟨m0, m1, Q0, Q1⟩ := buy_bd He2.out
    have hmono1 : n ≤ m → (buyS F n).2.1 ≤ (buyS F m).2.1 := fun h => best_mono Hb.out hbest h
    have hmono2 : m ≤ n → (buyS F m).2.1 ≤ (buyS F n).2.1 := fun h => best_mono hbest Hb.out h
    rw [← HP.out] at hmono1 hmono2
    clear hbest
    obtain ⟨Q, hQ⟩ : ∃ Q, Q = (buyS F m).2.1 := ⟨_, rfl⟩
    rw [← hQ] at Q0 Q1 hmono1 hmono2 ⊢
    have HQ := Lib.hid hQ
    have M1 := Lib.hid hmono1
    have M2 := Lib.hid hmono2
    clear hQ hmono1 hmono2
    go_upto_region 13 with (fail)
    go_cut [112] (fun s112 wx => s112 = .bool false ∧ wx = w4)
    case first =>
      by_cases h1 : n ≤ m
      · have h2 := M1.out h1
        by_cases h3 : m ≤ n
        · have h4 := M2.out h3
          go_wp2_with fail
          go_meet
          exact ⟨by simp <;> omega, rfl⟩
        · go_wp2_with fail
          go_meet
          exact ⟨by simp <;> omega, rfl⟩
      · have h3 : m ≤ n := by omega
        have h4 := M2.out h3
        go_wp2_with fail
        go_meet
        exact ⟨by simp <;> omega, rfl⟩
    case rest =>
      obtain ⟨rfl, rfl⟩ := hcut
      go_wp2_with fail
      refine (Buy_any F R (n + m) _ B (by have := b4.size; omega) (hF.below (b4.mono hB))).mono ?_
      rintro e w5 ⟨hb5, A5, m5, c5, rfl, _, _⟩
      have b5 := below_step b4 hb5
      have rF5 := rF4.below hb5 rF4.lt
      have rP5 := rP4.below hb5 rP4.lt
      clear q0 q1 q2 q3 q4 q5 q6 q7 p0 p1 p2
      obtain ⟨_, q0, q1, q2, q3, q4, q5, q6, q7⟩ := Row.cells8 rF5
      obtain ⟨p0, p1, p2⟩ := Row.cells3 rP5
      by_cases he : (buyS F (n + m)).2.2 = 0
      case neg =>
        have he' : ((buyS F (n + m)).2.2 != 0) = true := by simpa using he
        clear he
        go_wp2_with fail
        refine (works_any _).mono ?_
        rintro e w9 ⟨rfl, hb9⟩
        go_wp2_with fail
        go_ret
        exact ⟨rfl, below_step b5 hb9⟩
      have He3 := Lib.hid he
      obtain ⟨hsh, hle⟩ := share_sum He.out He2.out he
      obtain ⟨_, _, S0, S1⟩ := buy_bd he
      rw [he]
      clear he
      rw [← HP.out, ← HQ.out] at hsh hle
      obtain ⟨S, hS⟩ : ∃ S, S = (buyS F (n + m)).2.1 := ⟨_, rfl⟩
      rw [← hS] at S0 S1 hsh hle ⊢
      clear hS
      have Hs := Lib.hid hsh
      clear hsh
      go_wp2_with fail
      refine (Share_any F R [n, m] (some ⟨w5.heap.size, 0, none⟩) 2 (w5.heap.size + 1) _ (by simp) (((hF.below (b5.mono hB)).alloc (by have := b5.size; omega) _).more (by have := b5.size; omega)) ((row_new w5 3 #[.int .i64 n, .int .i64 m] _ rfl).reads rfl (by omega)) (by unfold maxLen; simp)).mono ?_
      rintro e w6 ⟨he6, hb6⟩
      rw [Hs.out] at he6
      subst he6
      have b6 := below_step (b5.alloc b5.size _) hb6
      dsimp only
      go_wp2_with fail
      refine (works_any _).mono ?_
      rintro e w9 ⟨rfl, hb9⟩
      go_wp2_with fail
      go_ret
      exact ⟨rfl, below_step b6 hb9⟩
end Go.Proofs.Ytjijjeboemonfaa
