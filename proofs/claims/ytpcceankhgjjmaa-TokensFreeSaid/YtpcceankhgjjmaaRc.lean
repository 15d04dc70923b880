/- Contract of sameCount at two equal counts. Conditions: both read as the same data. -/
import Derived.Test.YtpcceankhgjjmaaWy
namespace Go.Proofs.Ytpcceankhgjjmaa
open Go.RowKit

set_option maxHeartbeats 2000000 in
set_option maxRecDepth 100000 in
theorem sameCount_same (C : Count) (K K' : CRefs) (w : World) (B : Nat) (hB : B ≤ w.heap.size) (hC : CountIn w B C K) (hC' : CountIn w B C K') :
    Calls Try.prog 22 #[countV C K, countV C K'] w fun e w' => e = .returned (.bool true) ∧ Below w.heap.size w w' := by
  obtain ⟨A1, c1, A2, c2, A3, c3, A4, c4⟩ := K
  obtain ⟨B1, d1, B2, d2, B3, d3, B4, d4⟩ := K'
  obtain ⟨W, hW⟩ : ∃ W, W = (w.alloc (.cells #[.slice A1 C.stock.length c1, .slice A2 C.cash.length c2, .slice A3 C.purses.length c3, .slice A4 C.boxes.length c4, .int .i64 C.lost] 35)).alloc (.cells #[.slice B1 C.stock.length d1, .slice B2 C.cash.length d2, .slice B3 C.purses.length d3, .slice B4 C.boxes.length d4, .int .i64 C.lost] 35) := ⟨_, rfl⟩
  have sW : W.heap.size = w.heap.size + 2 := by subst hW; simp
  have bW : Below w.heap.size w W := by subst hW; exact ((Below.refl _ _).alloc (Nat.le_refl _) _).alloc (by simp) _
  have rX : Row W w.heap.size 35 [.slice A1 C.stock.length c1, .slice A2 C.cash.length c2, .slice A3 C.purses.length c3, .slice A4 C.boxes.length c4, .int .i64 C.lost] := by
    subst hW; exact (row_new _ _ _ _ rfl).alloc _
  have rY : Row W (w.heap.size + 1) 35 [.slice B1 C.stock.length d1, .slice B2 C.cash.length d2, .slice B3 C.purses.length d3, .slice B4 C.boxes.length d4, .int .i64 C.lost] := by
    subst hW; exact row_new _ _ _ _ (by simp)
  have H := hC.keep (w' := W) fun p hp => bW.cell (by omega)
  have H' := hC'.keep (w' := W) fun p hp => bW.cell (by omega)
  obtain ⟨s1, s2, s3, s4, l1, l2, l3, l4⟩ := H
  obtain ⟨t1, t2, t3, t4, _, _, _, _⟩ := H'
  dsimp only at s1 s2 s3 s4 t1 t2 t3 t4
  have m3 := l3
  unfold maxLen at m3
  unfold countV
  dsimp only
  obtain ⟨_, x0, x1, x2, x3, x4⟩ := Row.at_5 rX
  obtain ⟨_, y0, y1, y2, y3, y4⟩ := Row.at_5 rY
  go_enter Try.func22, Try.ntmps22
  go_wp2_with fail
  rw [← hW]
  clear hW
  refine (sameInts_any C.stock C.stock A1 B1 _ _ c1 d1 B B W s1 t1 l1 l1).mono ?_
  rintro e w1 ⟨rfl, k1⟩
  obtain ⟨_, x0, x1, x2, x3, x4⟩ := Row.at_5 (rX.kept k1 (by simp))
  obtain ⟨_, y0, y1, y2, y3, y4⟩ := Row.at_5 (rY.kept k1 (by simp))
  have kp1 : ∀ p : Addr, p.block < B → w1.cell? p = W.cell? p := fun p hp => World.cell?_of_block (k1.block p.block (by omega) (by simp))
  go_wp2_with fail
  refine (sameInts_any C.cash C.cash A2 B2 _ _ c2 d2 B B w1 (s2.keep kp1) (t2.keep kp1) l2 l2).mono ?_
  rintro e w2 ⟨rfl, k2⟩
  have k2 := k1.trans k2
  clear k1 kp1
  obtain ⟨_, x0, x1, x2, x3, x4⟩ := Row.at_5 (rX.kept k2 (by simp))
  obtain ⟨_, y0, y1, y2, y3, y4⟩ := Row.at_5 (rY.kept k2 (by simp))
  have kp2 : ∀ p : Addr, p.block < B → w2.cell? p = W.cell? p := fun p hp => World.cell?_of_block (k2.block p.block (by omega) (by simp))
  go_wp2_with fail
  refine (sameInts_any C.boxes C.boxes A4 B4 _ _ c4 d4 B B w2 (s4.keep kp2) (t4.keep kp2) l4 l4).mono ?_
  rintro e w3 ⟨rfl, k3⟩
  have k3 := k2.trans k3
  clear k2 kp2
  obtain ⟨_, x0, x1, x2, x3, x4⟩ := Row.at_5 (rX.kept k3 (by simp))
  obtain ⟨_, y0, y1, y2, y3, y4⟩ := Row.at_5 (rY.kept k3 (by simp))
  go_wp2_with fail
  clear x0 x1 x2 x3 x4 y0 y1 y2 y3 y4
  go_loopw [5] (fun i wr => ∃ k : Nat, k ≤ C.purses.length ∧ i = .int .i64 k ∧ KeptBut [] W wr) (fun i _ => C.purses.length - (intOf i).toNat)
  case atStart => exact ⟨0, Nat.zero_le _, rfl, k3⟩
  case round =>
    obtain ⟨k, hk, rfl, hkr⟩ := hrel
    obtain ⟨_, _, _, x2, _, _⟩ := Row.at_5 (rX.kept hkr (by simp))
    obtain ⟨_, _, _, y2, _, _⟩ := Row.at_5 (rY.kept hkr (by simp))
    by_cases hlt : k < C.purses.length
    · have kp : ∀ p : Addr, p.block < B → wr.cell? p = W.cell? p := fun p hp => World.cell?_of_block (hkr.block p.block (by omega) (by simp))
      obtain ⟨b, o, rfl, hb, hc0, hc1⟩ := (s3.keep kp).at3 hlt
      obtain ⟨b', o', rfl, hb', hd0, hd1⟩ := (t3.keep kp).at3 hlt
      have hlt' : (k : Int) < (C.purses.length : Int) := by omega
      clear kp
      go_wp2_with fail
      go_quiet (fail)
      go_wp2_with fail
      go_roundw
      case rel => exact ⟨k + 1, by omega, by go_num, hkr.drewN _⟩
      case measure => simp [intOf]; omega
    · have hge : ¬ (k : Int) < (C.purses.length : Int) := by omega
      go_wp2_with fail
      go_ret
      exact ⟨rfl, bW.trans (hkr.to_below (by omega) (by simp))⟩
end Go.Proofs.Ytpcceankhgjjmaa
