/- TokensStay: behind right deals the tokens of all tills, purses and boxes, and those that are lost, are together those that the tills had at first, and no number is below 0. No conditions. -/
import Derived.Test.YthjbakoccffdlaaWy
namespace Go.Proofs.Ythjbakoccffdlaa
open Go.ChangeShapes Go.WideShapes Go.ChangeAt Go.RowKit

/-- Behind right deals: what a count is. -/
structure StayOk (F : Fair) (C : Count) : Prop where
  n1 : C.stock.length = F.stock.length
  n2 : C.cash.length = F.stock.length
  n3 : (C.purses.length : Int) = F.purses
  n4 : (C.boxes.length : Int) = F.boxes
  s : ∀ k, k < F.stock.length → 0 ≤ geti C.stock k
  c : ∀ k, k < F.stock.length → 0 ≤ geti C.cash k
  p : ∀ k, k < C.purses.length → 0 ≤ (getp C.purses k).tokens
  b : ∀ k, k < C.boxes.length → 0 ≤ geti C.boxes k
  l : 0 ≤ C.lost
  t : allS C = sumW F.stock
theorem addL_tot (l : List Int) : ∀ s, (∀ x ∈ l, 0 ≤ x) → 0 ≤ s → s + tot l ≤ 9000000000000000000 → addL s l = s + tot l := by
  induction l with
  | nil => intro s _ _ _; simp [addL, tot]
  | cons y l ih =>
    intro s h h0 hM
    have h2 := h y List.mem_cons_self
    have hn := tot_nn l fun x hx => h x (List.mem_cons_of_mem _ hx)
    simp only [tot] at hM
    have := ih (s + y) (fun x hx => h x (List.mem_cons_of_mem _ hx)) (by omega) (by omega)
    simp only [addL, List.foldl_cons, wrap64_id (show -9223372036854775808 ≤ s + y by omega) (by omega)] at this ⊢
    rw [this]; simp only [tot]; omega
theorem stay_ok {F : Fair} {l : List Deal} (he : errS F l = 0) : StayOk F (playS F l) := by
  unfold errS at he
  split at he
  · cases he
  rename_i hv
  have hv : validB F = true := by simpa using hv
  split at he
  · cases he
  rename_i h200
  cases hg : goS F l l.length with
  | none => rw [hg] at he; cases he
  | some x =>
    obtain ⟨C, t⟩ := x
    have hC : playS F l = C := by simp [playS, hv, h200, hg]
    rw [hC]
    obtain ⟨h, hT⟩ := go_inv hv (by omega) hg
    have hb := bounds_of hv
    have b1 := tot_nn _ h.s
    have b2 := tot_nn _ h.p
    have b3 := tot_nn _ h.b
    have b4 := h.l
    have b5 := h.t
    refine ⟨h.n1, h.n2, by have := h.n3; have := hb.p1; omega, by have := h.n4; have := hb.x1; omega, fun k hk => h.s _ (geti_mem _ _ (by rw [h.n1]; exact hk)), fun k hk => h.c _ (geti_mem _ _ (by rw [h.n2]; exact hk)),
      fun k hk => ?_, fun k hk => h.b _ (geti_mem _ _ hk), h.l, ?_⟩
    · have := geti_mem (ptok C.purses) k (by rw [ptok_len]; exact hk)
      rw [ptok_get _ _ hk] at this
      exact h.p _ this
    · have hs : ∀ x ∈ F.stock, 0 ≤ x := fun x hx => (hb.st x hx).1
      rw [sumW_tot _ hs (by omega), allS, addL_tot _ _ h.s h.l (by omega), addL_tot _ _ h.p (by omega) (by omega), addL_tot _ _ h.b (by omega) (by omega)]
      omega

set_option maxHeartbeats 4000000 in
set_option maxRecDepth 100000 in
theorem stay_walk (F : Fair) (R : Refs) (l : List Deal) (A : Option Addr) (c B : Nat) (w : World) (hB : B ≤ w.heap.size) (hF : FairIn w B F R) (hl : Reads w B 5 A l.length (dealCells l)) (hn : l.length ≤ maxLen) :
    Calls Try.prog 8 #[fairV F R, .slice A l.length c] w (WPost w) := by
  have hF0 := hF.alloc hB (.cells (fairCells F R) 25)
  have hl0 := hl.alloc hB (.cells (fairCells F R) 25)
  have ba := (Below.refl w.heap.size w).alloc (Nat.le_refl _) (.cells (fairCells F R) 25)
  have r0 := Row.new w 25 (fairCells F R)
  unfold fairV
  cases hlong : longB l with
  | true =>
    go_enter Try.func8, Try.ntmps8
    go_wp2_with (go_at_call 14; refine (long_any l _ _ _ hn).mono ?_; rintro e w' ⟨rfl, rfl⟩)
    refine (works_any _).mono ?_
    rintro e w1 ⟨rfl, hb1⟩
    go_wp2_with fail
    go_ret
    exact ⟨rfl, below_step ba hb1⟩
  | false =>
    go_enter Try.func8, Try.ntmps8
    go_wp2_with (go_at_call 14; refine (long_any l _ _ _ hn).mono ?_; rintro e w' ⟨rfl, rfl⟩)
    refine (Play_any F R l A c B _ (by simp; omega) hF0 hl0 hn).mono ?_
    rintro e w1 ⟨hb1, K, rfl, hC⟩
    have b1 := below_step ba hb1
    by_cases he : errS F l = 0
    · have ok := stay_ok he
      have he' : (errS F l != 0) = false := by simp [he]
      clear he
      obtain ⟨A1, c1, A2, c2, A3, c3, A4, c4⟩ := K
      unfold countV
      dsimp only
      generalize playS F l = C at *
      have s1 := b1.size
      have q0 : w1.cell? ⟨w.heap.size, 0, none⟩ = some (.int .i64 F.purses) := (r0.below hb1 r0.lt).cell (j := 0) (by simp)
      have q1 : w1.cell? ⟨w.heap.size, 1, none⟩ = some (.int .i64 F.boxes) := (r0.below hb1 r0.lt).cell (j := 1) (by simp)
      have q2 : w1.cell? ⟨w.heap.size, 2, none⟩ = some (.slice R.A1 F.stock.length R.c1) := (r0.below hb1 r0.lt).cell (j := 2) (by simp)
      have z1 : w.heap.size < w1.heap.size := by have := hb1.size; simp at this; omega
      go_wp2_with fail
      have H2 := (hC.keep (w' := w1.alloc (.cells #[.slice A1 C.stock.length c1, .slice A2 C.cash.length c2, .slice A3 C.purses.length c3, .slice A4 C.boxes.length c4, .int .i64 C.lost] 35)) fun p hp => World.cell?_alloc_lt w1 _ p hp)
      have F2 : Reads (w1.alloc (.cells #[.slice A1 C.stock.length c1, .slice A2 C.cash.length c2, .slice A3 C.purses.length c3, .slice A4 C.boxes.length c4, .int .i64 C.lost] 35)) B 1 R.A1 F.stock.length (intCells F.stock) := ((hF.below (b1.mono hB)).s1).alloc (by omega) _
      have rc := row_new w1 35 #[.slice A1 C.stock.length c1, .slice A2 C.cash.length c2, .slice A3 C.purses.length c3, .slice A4 C.boxes.length c4, .int .i64 C.lost] _ rfl
      obtain ⟨_, d0, d1, d2, d3, d4⟩ := Row.at_5 rc
      have b2 : Below w.heap.size w (w1.alloc (.cells #[.slice A1 C.stock.length c1, .slice A2 C.cash.length c2, .slice A3 C.purses.length c3, .slice A4 C.boxes.length c4, .int .i64 C.lost] 35)) := b1.alloc b1.size _
      have u0 : (w1.alloc (.cells #[.slice A1 C.stock.length c1, .slice A2 C.cash.length c2, .slice A3 C.purses.length c3, .slice A4 C.boxes.length c4, .int .i64 C.lost] 35)).cell? ⟨w.heap.size, 0, none⟩ = some (.int .i64 F.purses) := by rw [World.cell?_alloc_lt _ _ _ z1]; exact q0
      have u1 : (w1.alloc (.cells #[.slice A1 C.stock.length c1, .slice A2 C.cash.length c2, .slice A3 C.purses.length c3, .slice A4 C.boxes.length c4, .int .i64 C.lost] 35)).cell? ⟨w.heap.size, 1, none⟩ = some (.int .i64 F.boxes) := by rw [World.cell?_alloc_lt _ _ _ z1]; exact q1
      have u2 : (w1.alloc (.cells #[.slice A1 C.stock.length c1, .slice A2 C.cash.length c2, .slice A3 C.purses.length c3, .slice A4 C.boxes.length c4, .int .i64 C.lost] 35)).cell? ⟨w.heap.size, 2, none⟩ = some (.slice R.A1 F.stock.length R.c1) := by rw [World.cell?_alloc_lt _ _ _ z1]; exact q2
      have hz2 : w1.heap.size < (w1.alloc (.cells #[.slice A1 C.stock.length c1, .slice A2 C.cash.length c2, .slice A3 C.purses.length c3, .slice A4 C.boxes.length c4, .int .i64 C.lost] 35)).heap.size := by simp
      generalize (w1.alloc (.cells #[.slice A1 C.stock.length c1, .slice A2 C.cash.length c2, .slice A3 C.purses.length c3, .slice A4 C.boxes.length c4, .int .i64 C.lost] 35)) = W at *
      have H3 := H2.more (Nat.le_of_lt hz2)
      obtain ⟨t1, t2, t3, t4, m1, m2, m3, m4⟩ := H2
      dsimp only at t1 t2 t3 t4
      unfold maxLen at m1 m2 m3 m4
      have hx1 : ((C.stock.length : Int) != (F.stock.length : Int)) = false := by rw [ok.n1]; simp
      have hx2 : ((C.cash.length : Int) != (F.stock.length : Int)) = false := by rw [ok.n2]; simp
      have hx3 : ((C.purses.length : Int) != F.purses) = false := by rw [ok.n3]; simp
      have hx4 : ((C.boxes.length : Int) != F.boxes) = false := by rw [ok.n4]; simp
      have hx5 : ¬ C.lost < 0 := by have := ok.l; omega
      have hfl : F.stock.length ≤ 9223372036854775807 := by have := hF.l1; unfold maxLen at this; omega
      have Heq : Hid ((allS C == sumW F.stock) = true) := by show _ = _; rw [ok.t]; simp
      clear hb1 b1 he' hlong s1 hC
      go_loop [7, 8] (fun s i => ∃ k : Nat, k ≤ F.stock.length ∧ i = .int .i64 k ∧ s = .int .i64 (sumW (F.stock.take k))) (fun _ i => F.stock.length - (intOf i).toNat)
      case atStart => exact ⟨0, Nat.zero_le _, rfl, rfl⟩
      case round =>
        obtain ⟨k, hk, rfl, rfl⟩ := hrel
        by_cases hlt : k < F.stock.length
        · obtain ⟨R1, c1', R2, c2', R3, c3'⟩ := R
          dsimp only at F2 u2
          obtain ⟨bb, bo, rfl, hbb, hc⟩ := F2.at1 hlt
          have hck : W.cell? ⟨bb, bo + k, none⟩ = some (.int .i64 (geti F.stock k)) := hc k hlt
          clear hc
          have hsn := sumW_snoc F.stock k hlt
          rw [show F.stock[k]?.getD 0 = geti F.stock k from rfl] at hsn
          have Hsn := Lib.hid hsn
          clear hsn
          go_wp2_with fail
          go_round
          case rel => exact ⟨k + 1, by omega, by go_num, by rw [Hsn.out]⟩
          case measure => simp [intOf]; omega
        · have hge : ¬ (k : Int) < (F.stock.length : Int) := by omega
          have e1 : Hid (sumW (F.stock.take k) = sumW F.stock) := by show _ = _; rw [List.take_of_length_le (by omega)]
          go_wp2_with fail
          rw [e1.out]
          go_loop [9] (fun i => ∃ k : Nat, k ≤ C.stock.length ∧ i = .int .i64 k) (fun i => C.stock.length - (intOf i).toNat)
          case atStart => exact ⟨0, Nat.zero_le _, rfl⟩
          case round =>
            obtain ⟨k, hk, rfl⟩ := hrel
            by_cases hlt : k < C.stock.length
            · have hlt2 : k < C.cash.length := by rw [ok.n2, ← ok.n1]; exact hlt
              obtain ⟨bb, bo, rfl, hbb, hc⟩ := t1.at1 hlt
              obtain ⟨bb', bo', rfl, hbb', hc'⟩ := t2.at1 hlt2
              have hck : W.cell? ⟨bb, bo + k, none⟩ = some (.int .i64 (geti C.stock k)) := hc k hlt
              have hck' : W.cell? ⟨bb', bo' + k, none⟩ = some (.int .i64 (geti C.cash k)) := hc' k hlt2
              have g1 : ¬ geti C.stock k < 0 := by have := ok.s k (by rw [← ok.n1]; exact hlt); omega
              have g2 : ¬ geti C.cash k < 0 := by have := ok.c k (by rw [← ok.n1]; exact hlt); omega
              clear hc hc'
              go_wp2_with fail
              go_round
              case rel => exact ⟨k + 1, by omega, by go_num⟩
              case measure => simp [intOf]; omega
            · have hge2 : ¬ (k : Int) < (C.stock.length : Int) := by omega
              go_wp2_with fail
              go_loop [10] (fun i => ∃ k : Nat, k ≤ C.purses.length ∧ i = .int .i64 k) (fun i => C.purses.length - (intOf i).toNat)
              case atStart => exact ⟨0, Nat.zero_le _, rfl⟩
              case round =>
                obtain ⟨k, hk, rfl⟩ := hrel
                by_cases hlt : k < C.purses.length
                · obtain ⟨bb, bo, rfl, hbb, hc, _⟩ := t3.at3 hlt
                  have g1 : ¬ (getp C.purses k).tokens < 0 := by have := ok.p k hlt; omega
                  go_wp2_with fail
                  go_round
                  case rel => exact ⟨k + 1, by omega, by go_num⟩
                  case measure => simp [intOf]; omega
                · have hge3 : ¬ (k : Int) < (C.purses.length : Int) := by omega
                  go_wp2_with fail
                  go_loop [11] (fun i => ∃ k : Nat, k ≤ C.boxes.length ∧ i = .int .i64 k) (fun i => C.boxes.length - (intOf i).toNat)
                  case atStart => exact ⟨0, Nat.zero_le _, rfl⟩
                  case round =>
                    obtain ⟨k, hk, rfl⟩ := hrel
                    by_cases hlt : k < C.boxes.length
                    · obtain ⟨bb, bo, rfl, hbb, hc⟩ := t4.at1 hlt
                      have hck : W.cell? ⟨bb, bo + k, none⟩ = some (.int .i64 (geti C.boxes k)) := hc k hlt
                      have g1 : ¬ geti C.boxes k < 0 := by have := ok.b k hlt; omega
                      clear hc
                      go_wp2_with fail
                      go_round
                      case rel => exact ⟨k + 1, by omega, by go_num⟩
                      case measure => simp [intOf]; omega
                    · have hge4 : ¬ (k : Int) < (C.boxes.length : Int) := by omega
                      go_wp2_with fail
                      refine (all_any C ⟨A1, c1, A2, c2, A3, c3, A4, c4⟩ W W.heap.size (Nat.le_refl _) H3).mono ?_
                      rintro e w3 ⟨rfl, hb3⟩
                      have heq := Heq.out
                      go_wp2_with fail
                      refine (works_any _).mono ?_
                      rintro e w4 ⟨rfl, hb4⟩
                      go_wp2_with fail
                      go_ret
                      exact ⟨rfl, below_step (below_step b2 hb3) hb4⟩
    · have he' : (errS F l != 0) = true := by simpa using he
      clear he
      go_wp2_with fail
      refine (works_any _).mono ?_
      rintro e w2 ⟨rfl, hb2⟩
      go_wp2_with fail
      go_ret
      exact ⟨rfl, below_step (b1.alloc b1.size _) hb2⟩
end Go.Proofs.Ythjbakoccffdlaa
