/- Contracts of changes and of the iterator that it hands back. Conditions: a path of at most 100 points, small numbers in the motor. -/
import Derived.Test.YtkmiapfkebdpbaaKc
import Derived.Test.YtkmiapfkebdpbaaKg
import Derived.RangeFuncNested
import Derived.RangeFuncBound
import Derived.RangeFuncCalls
import Derived.RangeFuncLeaves
import Derived.RangeFuncFrom
import Derived.Shelf.Abstract
import Derived.OwnWalkIn
import Derived.TacticsInMore
import Derived.LoopNIn
import Derived.LoopIn
namespace Go.Proofs.Ytkmiapfkebdpbaa
open Go.RowKit Go.Shelf

def encC (x : Chg) : Value := chgV x.ph x.bf x.af
attribute [local go_sem] Oper.semAt_some

def ChgPost (w : World) (A : Option Addr) (n c : Nat) (m : Mot) (fails : Bool) (e : Ending) (w' : World) : Prop :=
  e = .returned (.func (.func 82) #[] #[.pointer (some ⟨w.heap.size, 0, none⟩), .pointer (some ⟨w.heap.size + 1, 0, none⟩), .pointer (some ⟨w.heap.size + 2, 0, none⟩)]) ∧ Below w.heap.size w w' ∧ w.heap.size + 2 < w'.heap.size ∧
    Row w' w.heap.size 76 [.slice A n c] ∧ Row w' (w.heap.size + 1) 35 [.int .i64 m.top, .int .i64 m.ease, .int .i64 m.jerk] ∧ Row w' (w.heap.size + 2) 3 [.int .i64 (if fails then m.jerk else m.ease)]

set_option maxHeartbeats 1000000 in
theorem changes_any (A : Option Addr) (n c : Nat) (m : Mot) (fails : Bool) (w : World) :
    Calls Try.prog 53 #[.slice A n c, motV m, .bool fails] w (ChgPost w A n c m fails) := by
  obtain ⟨W, hW⟩ : ∃ W, W = ((w.alloc (.cells #[.slice A n c] 76)).alloc (.cells #[.int .i64 m.top, .int .i64 m.ease, .int .i64 m.jerk] 35)).alloc (.cells #[.int .i64 m.ease] 3) := ⟨_, rfl⟩
  have sW : W.heap.size = w.heap.size + 3 := by subst hW; simp
  have bW : Below w.heap.size w W := by subst hW; exact (((Below.refl _ _).alloc (Nat.le_refl _) _).alloc (by simp) _).alloc (by simp; omega) _
  have r0 : Row W w.heap.size 76 [.slice A n c] := by subst hW; exact ((Row.new w _ _).alloc _).alloc _
  have r1 : Row W (w.heap.size + 1) 35 [.int .i64 m.top, .int .i64 m.ease, .int .i64 m.jerk] := by
    subst hW
    have h := Row.new (w.alloc (.cells #[.slice A n c] 76)) 35 #[.int .i64 m.top, .int .i64 m.ease, .int .i64 m.jerk]
    simp only [World.size_alloc] at h
    exact h.alloc _
  have r2 : Row W (w.heap.size + 2) 3 [.int .i64 m.ease] := by
    subst hW
    have h := Row.new ((w.alloc (.cells #[.slice A n c] 76)).alloc (.cells #[.int .i64 m.top, .int .i64 m.ease, .int .i64 m.jerk] 35)) 3 #[.int .i64 m.ease]
    simp only [World.size_alloc] at h
    exact h
  unfold motV
  go_enter Try.func53, Try.ntmps53
  go_upto_region 2 with (fail)
  rw [← hW]
  clear hW
  obtain ⟨_, x0, x1, x2⟩ := Row.at_3 r1
  have y0 : W.cell? ⟨w.heap.size + 2, 0, none⟩ = some (.int .i64 m.ease) := r2.cell (j := 0) (by simp)
  have y1 : W.frozen? ⟨w.heap.size + 2, 0, none⟩ = false := r2.frozen 0
  cases fails with
  | true =>
    go_wp2_with fail
    go_ret
    exact ⟨rfl, bW.setCell (by simp; omega) _, by simp [World.setCell]; omega, r0.far (by simp; omega) _, r1.far (by simp) _, r2.set 0 _⟩
  | false =>
    go_wp2_with fail
    go_ret
    exact ⟨rfl, bW, by omega, r0, r1, r2⟩

set_option maxRecDepth 100000 in
set_option maxHeartbeats 4000000 in
theorem changes1_in (F : Fence) (nn : Nat) (hf : F.fn 82) (hro : F.round = none) (hn : 1 ≤ nn) (l bt bm bs n₀ : Nat) (A : Option Addr) (n c T s : Nat) (ea je : Int) (hnl : n ≤ 100) (hT : T ≤ 10) (hs : s ≤ 10)
    (_zt : bt < n₀) (zm : bm < n₀) (zs : bs < n₀) (J Jx : List Chg → World → Prop)
    (hY : ∀ pre x W, J pre W → pre.length < (phL T s n).length → YieldAt F (nn - 1) Try.prog l #[encC x] W fun e W' =>
      (e = .returned (.bool true) ∧ J (pre ++ [x]) W' ∧ Below n₀ W W') ∨ (e = .returned (.bool false) ∧ Jx (pre ++ [x]) W'))
    (W : World) (ct : W.cell? ⟨bt, 0, none⟩ = some (.slice A n c)) (c0 : W.cell? ⟨bm, 0, none⟩ = some (.int .i64 (T : Int))) (c1 : W.cell? ⟨bm, 1, none⟩ = some (.int .i64 ea)) (c2 : W.cell? ⟨bm, 2, none⟩ = some (.int .i64 je)) (cs : W.cell? ⟨bs, 0, none⟩ = some (.int .i64 (s : Int))) (h0 : J [] W) :
    CallsIn F nn Try.prog 82 #[.func (.yield l) #[] #[], .pointer (some ⟨bt, 0, none⟩), .pointer (some ⟨bm, 0, none⟩), .pointer (some ⟨bs, 0, none⟩)] W fun e W' => (∃ v, e = .returned v) ∧
      ((∃ ys, ys = phL T s n ∧ J ys W') ∨ (∃ pre, pre <+: phL T s n ∧ Jx pre W')) := by
  refine callsIn_of_wp Try.func82 rfl hf ?_ hro
  simp only [Try.ntmps82, List.size_toArray, List.length_cons, List.length_nil, Nat.reduceAdd, Nat.reduceSub, Array.replicate_succ, Array.replicate_zero, List.push_toArray, List.append_toArray, List.nil_append, List.cons_append]
  gi_wp2
  gi_loopw [10] (fun i wr => ∃ p : Nat, p ≤ n ∧ i = .int .i64 p ∧ J (phL T s p) wr ∧ Below n₀ W wr) (fun i _ => n - (intOf i).toNat)
  case atStart => exact ⟨0, Nat.zero_le _, rfl, h0, Below.refl _ _⟩
  case round =>
    obtain ⟨p, hp, rfl, hJ1, hb1⟩ := hrel
    have m0 := (hb1.cell (p := ⟨bm, 0, none⟩) zm).trans c0
    have m1 := (hb1.cell (p := ⟨bm, 1, none⟩) zm).trans c1
    have m2 := (hb1.cell (p := ⟨bm, 2, none⟩) zm).trans c2
    have ms := (hb1.cell (p := ⟨bs, 0, none⟩) zs).trans cs
    by_cases hlt : p < n
    · have eT : IntKind.i64.wrap ((T : Int) + 1) = ((T + 1 : Nat) : Int) := by rw [IntWalk.i64_in _ (by omega)]; omega
      gi_wp2
      obtain ⟨W1, hW1⟩ : ∃ W1, W1 = wr := ⟨_, rfl⟩
      rw [← hW1] at hJ1 hb1 m0 m1 m2 ms ⊢
      clear hW1 wr
      gi_loopw [16] (fun i wr => ∃ v : Nat, v ≤ T + 1 ∧ i = .int .i64 v ∧ J (phL T s p ++ vsL T s p v) wr ∧ Below n₀ W wr) (fun i _ => T + 1 - (intOf i).toNat)
      case atStart => exact ⟨0, Nat.zero_le _, rfl, by simpa [vsL] using hJ1, hb1⟩
      case round =>
        obtain ⟨v, hv, rfl, hJ2, hb2⟩ := hrel
        have m0 := (hb2.cell (p := ⟨bm, 0, none⟩) zm).trans c0
        have m1 := (hb2.cell (p := ⟨bm, 1, none⟩) zm).trans c1
        have m2 := (hb2.cell (p := ⟨bm, 2, none⟩) zm).trans c2
        have ms := (hb2.cell (p := ⟨bs, 0, none⟩) zs).trans cs
        by_cases hlv : v < T + 1
        · obtain ⟨lo, hlo⟩ : ∃ lo : Nat, lo = v - s := ⟨_, rfl⟩
          have hlv' : (v : Int) < (T : Int) + 1 := by omega
          have evs : IntKind.i64.wrap ((v : Int) + (s : Int)) = ((v + s : Nat) : Int) := by rw [IntWalk.i64_in _ (by omega)]; omega
          have ed : IntKind.i64.wrap ((v : Int) - (s : Int)) = (v : Int) - (s : Int) := IntWalk.i64_in _ (by omega)
          have hcnt : cntN T s v = min T (v + s) + 1 - lo := by rw [hlo]; rfl
          have Hcnt := Lib.hid hcnt
          have Hlo := Lib.hid hlo
          clear hcnt hlo
          by_cases hsv : s < v
          all_goals
            gi_wp2
            obtain ⟨W2, hW2⟩ : ∃ W2, W2 = wr := ⟨_, rfl⟩
            rw [← hW2] at hJ2 hb2 m0 m1 m2 ms ⊢
            clear hW2 wr
            gi_loopw [7] (fun i wr => ∃ j : Nat, j ≤ cntN T s v ∧ i = .int .i64 ((lo + j : Nat) : Int) ∧ J (phL T s p ++ vsL T s p v ++ wsL p v lo j) wr ∧ Below n₀ W wr) (fun i _ => 30 - (intOf i).toNat)
            case atStart => exact ⟨0, Nat.zero_le _, by rw [Hlo.out]; congr 1; omega, by simpa [wsL] using hJ2, hb2⟩
            case round =>
              obtain ⟨j, hj, rfl, hJ3, hb3⟩ := hrel
              have m0 := (hb3.cell (p := ⟨bm, 0, none⟩) zm).trans c0
              have m1 := (hb3.cell (p := ⟨bm, 1, none⟩) zm).trans c1
              have m2 := (hb3.cell (p := ⟨bm, 2, none⟩) zm).trans c2
              have ms := (hb3.cell (p := ⟨bs, 0, none⟩) zs).trans cs
              have hq := Hcnt.out
              have hq2 := Hlo.out
              obtain ⟨u, hu⟩ : ∃ u, u = lo + j := ⟨_, rfl⟩
              rw [← hu]
              by_cases hlj : j < cntN T s v
              · obtain ⟨fn, tmps, assign, body, hy, hR⟩ := hY _ ⟨p, v, u⟩ wr hJ3 (by rw [Hlo.out] at *; exact chg_lt hlt hlv hlj)
                have h5 : (u : Int) ≤ (T : Int) := by omega
                have h6 : (u : Int) ≤ ((v + s : Nat) : Int) := by omega
                have h7 : IntKind.i64.wrap ((u : Int) + 1) = ((u + 1 : Nat) : Int) := by rw [IntWalk.i64_in _ (by omega)]; omega
                have h8 : (u : Int) ≤ min (T : Int) ((v + s : Nat) : Int) := by omega
                have Hu := Lib.hid hu
                clear hq hq2 hu
                unfold encC chgV at hy
                dsimp only at hy
                gi_wp2
                all_goals
                  refine hR.mono ?_
                  rintro e W3 (⟨rfl, hJ4, hk4⟩ | ⟨rfl, hJx4⟩)
                  · gi_wp2
                    go_roundw
                    case rel => exact ⟨j + 1, by omega, by have := Hu.out; subst this; go_num, by rw [wsL_succ, ← List.append_assoc, ← Hu.out]; exact hJ4, hb3.trans hk4⟩
                    case measure =>
                      have := Hu.out
                      have h9 := hlv
                      simp [intOf]
                      omega
                  · gi_wp2
                    refine bodyPost_ret (results_none rfl _ _ _) rfl ?_
                    refine ⟨⟨_, rfl⟩, .inr ⟨_, ?_, hJx4⟩⟩
                    have h9 := chg_pre (n := n) (top := T) (step := s) (p := p) (v := v) (j := j + 1) hlt hlv (by omega)
                    rw [wsL_succ, ← List.append_assoc, ← Hlo.out, ← Hu.out] at h9
                    exact h9
              · have h8 : ¬ (u : Int) ≤ min (T : Int) ((v + s : Nat) : Int) := by omega
                have Hu := Lib.hid hu
                clear hq hq2 hu
                obtain rfl : j = cntN T s v := by omega
                gi_wp2
                all_goals
                  refine ⟨⟨v + 1, by omega, by go_num, ?_, hb3⟩, by simp [intOf]; omega⟩
                  rw [vsL_succ, ← List.append_assoc, ← Hlo.out]
                  exact hJ3
        · obtain rfl : v = T + 1 := by omega
          rw [← phL_succ] at hJ2
          gi_wp2
          go_roundw
          case rel => exact ⟨p + 1, by omega, by go_num, hJ2, hb2⟩
          case measure => simp [intOf]; omega
    · obtain rfl : p = n := by omega
      gi_wp2
      go_end0
      exact ⟨⟨_, rfl⟩, .inl ⟨_, rfl, hJ1⟩⟩
end Go.Proofs.Ytkmiapfkebdpbaa
