/- TokensAgree: Sold is Taken, Returned, Held and Lost together; the cash of all tills is what they had at first, and what was paid for bundles and bands, less Refund for each token that was returned. No conditions. -/
import Derived.Test.YthjbakoccffdlaaAgr
namespace Go.Proofs.Ythjbakoccffdlaa
open Go.RowKit

theorem paid_snoc (F : Fair) (l : List Deal) (k : Nat) (h : k < l.length) : paidK F (l.take (k + 1)) = paidS F (getd l k) (paidK F (l.take k)) := by
  unfold paidK
  rw [List.take_succ_eq_append_getElem h, List.foldl_append]
  simp [getd, List.getElem?_eq_getElem h]
theorem Reads.kept0 {W wr : World} {B size n : Nat} {A : Option Addr} {xs : List Value} (h : Reads W B size A n xs) (hk : KeptBut [] W wr) (hB : B ≤ W.heap.size) : Reads wr B size A n xs :=
  h.keep fun p hp => World.cell?_of_block (hk.block p.block (by omega) (by simp))

set_option maxHeartbeats 4000000 in
set_option maxRecDepth 100000 in
theorem agree_walk (F : Fair) (R : Refs) (l : List Deal) (A : Option Addr) (c B : Nat) (w : World) (hB : B ≤ w.heap.size) (hF : FairIn w B F R) (hl : Reads w B 5 A l.length (dealCells l)) (hn : l.length ≤ maxLen) :
    Calls Try.prog 9 #[fairV F R, .slice A l.length c] w (WPost w) := by
  have hF0 := hF.alloc hB (.cells (fairCells F R) 25)
  have hl0 := hl.alloc hB (.cells (fairCells F R) 25)
  have ba := (Below.refl w.heap.size w).alloc (Nat.le_refl _) (.cells (fairCells F R) 25)
  have r0 := Row.new w 25 (fairCells F R)
  unfold fairV
  cases hlong : longB l with
  | true =>
    go_enter Try.func9, Try.ntmps9
    go_wp2_with (go_at_call 14; refine (long_any l _ _ _ hn).mono ?_; rintro e w' ⟨rfl, rfl⟩)
    refine (works_any _).mono ?_
    rintro e w1 ⟨rfl, hb1⟩
    go_wp2_with fail
    go_ret
    exact ⟨rfl, below_step ba hb1⟩
  | false =>
    go_enter Try.func9, Try.ntmps9
    go_wp2_with (go_at_call 14; refine (long_any l _ _ _ hn).mono ?_; rintro e w' ⟨rfl, rfl⟩)
    refine (Account_any F R l A c B _ (by simp; omega) hF0 hl0 hn).mono ?_
    rintro e w1 ⟨hb1, rfl⟩
    obtain ⟨s, t, r, h, lo, ca, hsix⟩ := acc_six F l
    rw [hsix, acc_err]
    simp only [intCells, List.map_cons, List.map_nil]
    have b1 := below_step ba hb1
    have z1 : w.heap.size < w1.heap.size := by have := hb1.size; simp at this; omega
    have rF1 := r0.below hb1 r0.lt
    have cF := fun (j : Nat) (hj : j < 8) => rF1.cell (j := j) (by simpa using hj)
    have x0 := cF 0 (by omega)
    have x1 := cF 1 (by omega)
    have x2 := cF 2 (by omega)
    have x3 := cF 3 (by omega)
    have x4 := cF 4 (by omega)
    have x5 := cF 5 (by omega)
    have x6 := cF 6 (by omega)
    have x7 := cF 7 (by omega)
    simp only [List.getElem?_cons_zero, List.getElem?_cons_succ] at x0 x1 x2 x3 x4 x5 x6 x7
    clear cF
    go_wp2_with fail
    have rN0 := row_new w1 42 #[.int .i64 s, .int .i64 t, .int .i64 r, .int .i64 h, .int .i64 lo, .int .i64 ca] _ rfl
    have bN : Below w.heap.size w (w1.alloc (.cells #[.int .i64 s, .int .i64 t, .int .i64 r, .int .i64 h, .int .i64 lo, .int .i64 ca] 42)) := b1.alloc b1.size _
    refine (Play_any F R l A c B _ (by simp; omega) (hF.below (bN.mono hB)) (hl.below (bN.mono hB)) hn).mono ?_
    rintro e w2 ⟨hb2, K, rfl, hC⟩
    have b2 := below_step bN hb2
    have rN2 := rN0.below hb2 (by simp)
    have rF2 := (rF1.alloc (.cells #[.int .i64 s, .int .i64 t, .int .i64 r, .int .i64 h, .int .i64 lo, .int .i64 ca] 42)).below hb2 (by simp; omega)
    have z2 : w1.heap.size < w2.heap.size := by have := hb2.size; simp at this; omega
    clear x0 x1 x2 x3 x4 x5 x6 x7
    by_cases he : errS F l = 0
    · have ok := agree_ok he hsix
      have he' : (errS F l != 0) = false := by simp [he]
      clear he hsix hlong
      obtain ⟨A1, c1, A2, c2, A3, c3, A4, c4⟩ := K
      unfold countV
      dsimp only
      generalize playS F l = C at *
      have hF2 := hF.below (b2.mono hB)
      have hl2 := hl.below (b2.mono hB)
      have F3 := hF2.alloc (by omega) (.cells #[.slice A1 C.stock.length c1, .slice A2 C.cash.length c2, .slice A3 C.purses.length c3, .slice A4 C.boxes.length c4, .int .i64 C.lost] 35)
      have l3 := hl2.alloc (by omega) (.cells #[.slice A1 C.stock.length c1, .slice A2 C.cash.length c2, .slice A3 C.purses.length c3, .slice A4 C.boxes.length c4, .int .i64 C.lost] 35)
      have C3 := (hC.s2).alloc (Nat.le_refl _) (.cells #[.slice A1 C.stock.length c1, .slice A2 C.cash.length c2, .slice A3 C.purses.length c3, .slice A4 C.boxes.length c4, .int .i64 C.lost] 35)
      have rC := row_new w2 35 #[.slice A1 C.stock.length c1, .slice A2 C.cash.length c2, .slice A3 C.purses.length c3, .slice A4 C.boxes.length c4, .int .i64 C.lost] _ rfl
      have rF := rF2.alloc (.cells #[.slice A1 C.stock.length c1, .slice A2 C.cash.length c2, .slice A3 C.purses.length c3, .slice A4 C.boxes.length c4, .int .i64 C.lost] 35)
      have rN := rN2.alloc (.cells #[.slice A1 C.stock.length c1, .slice A2 C.cash.length c2, .slice A3 C.purses.length c3, .slice A4 C.boxes.length c4, .int .i64 C.lost] 35)
      have b3 : Below w.heap.size w (w2.alloc (.cells #[.slice A1 C.stock.length c1, .slice A2 C.cash.length c2, .slice A3 C.purses.length c3, .slice A4 C.boxes.length c4, .int .i64 C.lost] 35)) := b2.alloc b2.size _
      have z3 : w2.heap.size < (w2.alloc (.cells #[.slice A1 C.stock.length c1, .slice A2 C.cash.length c2, .slice A3 C.purses.length c3, .slice A4 C.boxes.length c4, .int .i64 C.lost] 35)).heap.size := by simp
      dsimp only at C3
      have hcl : C.cash.length ≤ 9223372036854775807 := by have := hC.l2; unfold maxLen at this; omega
      have hnl : l.length ≤ 9223372036854775807 := by unfold maxLen at hn; omega
      have hfl : F.cash.length ≤ 9223372036854775807 := by have := hF.l2; unfold maxLen at this; omega
      have hbl : F.bundles.length ≤ 9223372036854775807 := by have := hF.l3; unfold maxLen at this; omega
      go_wp2_with fail
      generalize (w2.alloc (.cells #[.slice A1 C.stock.length c1, .slice A2 C.cash.length c2, .slice A3 C.purses.length c3, .slice A4 C.boxes.length c4, .int .i64 C.lost] 35)) = W at *
      clear hb1 hb2 he' rF1 rF2 rN0 rN2 bN b1 b2 ba r0 hF2 hl2 hC hF0 hl0
      go_loopw [9, 10] (fun p i wr => ∃ k : Nat, k ≤ F.stock.length ∧ i = .int .i64 k ∧ p = .int .i64 (cashF C.cash F.cash k) ∧ KeptBut [] W wr) (fun _ i _ => F.stock.length - (intOf i).toNat)
      case atStart => exact ⟨0, Nat.zero_le _, rfl, rfl, KeptBut.refl _ _⟩
      case round =>
        obtain ⟨k, hk, rfl, rfl, hkr⟩ := hrel
        have f3 : wr.cell? ⟨w.heap.size, 3, none⟩ = some (.slice R.A2 F.cash.length R.c2) := (rF.kept hkr (by simp)).cell (j := 3) (by simp)
        obtain ⟨_, _, d1, _, _, _⟩ := Row.at_5 (rC.kept hkr (by simp))
        by_cases hlt : k < F.stock.length
        · have hx : k < C.cash.length := by rw [ok.n1]; exact hlt
          have hy : k < F.cash.length := by rw [ok.n2]; exact hlt
          obtain ⟨R1, c1', R2, c2', R3, c3'⟩ := R
          obtain ⟨bb, bo, rfl, hbb, hc⟩ := (C3.kept0 hkr (by omega)).at1 hx
          have h2 := (F3.s2).kept0 hkr (by omega)
          dsimp only at h2 f3
          obtain ⟨bb', bo', rfl, hbb', hc'⟩ := h2.at1 hy
          have hck : wr.cell? ⟨bb, bo + k, none⟩ = some (.int .i64 (geti C.cash k)) := hc k hx
          have hck' : wr.cell? ⟨bb', bo' + k, none⟩ = some (.int .i64 (geti F.cash k)) := hc' k hy
          have hx' : (k : Int) < (C.cash.length : Int) := by omega
          have hy' : (k : Int) < (F.cash.length : Int) := by omega
          clear hc hc' h2
          go_wp2_with fail
          go_quiet (fail)
          go_wp2_with fail
          go_roundw
          case rel => exact ⟨k + 1, by omega, by go_num, rfl, hkr.drewN _⟩
          case measure => simp [intOf]; omega
        · have ek : k = F.stock.length := by omega
          have hge : ¬ (k : Int) < (C.cash.length : Int) := by rw [ok.n1]; omega
          have Hk := Lib.hid ek
          clear ek
          go_wp2_with fail
          rw [Hk.out]
          obtain ⟨wo, rfl⟩ : ∃ wo : World, wo = wr := ⟨_, rfl⟩
          go_loopw [11, 12] (fun p i wr => ∃ k : Nat, k ≤ l.length ∧ i = .int .i64 k ∧ p = .int .i64 (paidK F (l.take k)) ∧ KeptBut [] W wr) (fun _ i _ => l.length - (intOf i).toNat)
          case atStart => exact ⟨0, Nat.zero_le _, rfl, rfl, hkr⟩
          case round =>
            obtain ⟨k, hk, rfl, rfl, hkr⟩ := hrel
            obtain ⟨R1, c1', R2, c2', R3, c3'⟩ := R
            have rFk := rF.kept hkr (by simp)
            have f4 : wr.cell? ⟨w.heap.size, 4, none⟩ = some (.slice R3 F.bundles.length c3') := rFk.cell (j := 4) (by simp)
            have f5 : wr.cell? ⟨w.heap.size, 5, none⟩ = some (.int .i64 F.refund) := rFk.cell (j := 5) (by simp)
            have f6 : wr.cell? ⟨w.heap.size, 6, none⟩ = some (.int .i64 F.band) := rFk.cell (j := 6) (by simp)
            by_cases hlt : k < l.length
            · obtain ⟨db, d0, rfl, hdb, q0, q1, q2, q3, q4⟩ := (l3.kept0 hkr (by omega)).at5 hlt
              have Hsn := Lib.hid (paid_snoc F l k hlt)
              have hsold := ok.sold k hlt
              have hlt' : (k : Int) < (l.length : Int) := by omega
              generalize getd l k = d at *
              generalize paidK F (l.take k) = pk at *
              clear f3 d1 hge
              by_cases k1 : d.kind = 1
              · have hn' := inB_iff.1 (hsold k1)
                obtain ⟨kn, hkn⟩ := Int.eq_ofNat_of_zero_le hn'.1
                have hkn2 : kn < F.bundles.length := by omega
                have e1 : Hid (paidS F d pk = wrap64 (pk + (getb F.bundles kn).price)) := by show _ = _; simp [paidS, k1, hkn]
                rw [k1] at q1
                rw [hkn] at q4
                clear k1 hkn hn' hsold
                have h3 := (F3.s3).kept0 hkr (by omega)
                dsimp only at h3
                obtain ⟨bb, bo, rfl, hbb, hbt, hbp⟩ := h3.at2 hkn2
                clear h3
                have g1 : decide ((kn : Int) < 0) = false := by simp
                have g2 : decide ((F.bundles.length : Int) ≤ (kn : Int)) = false := by simp; omega
                have g3 : (kn : Int) < (F.bundles.length : Int) := by omega
                go_wp2_with fail
                go_quiet (fail)
                go_wp2_with fail
                go_quiet (fail)
                go_wp2_with fail
                go_roundw
                case rel => exact ⟨k + 1, by omega, by go_num, by rw [Hsn.out, e1.out], by repeat (first | (with_reducible exact hkr) | (with_reducible refine KeptBut.drewN ?_ _))⟩
                case measure => simp [intOf]; omega
              by_cases k3 : d.kind = 3
              · have e1 : Hid (paidS F d pk = wrap64 (pk + F.band)) := by show _ = _; simp [paidS, k3]
                rw [k3] at q1
                clear k1 k3 hsold
                go_wp2_with fail
                go_roundw
                case rel => exact ⟨k + 1, by omega, by go_num, by rw [Hsn.out, e1.out], by repeat (first | (with_reducible exact hkr) | (with_reducible refine KeptBut.drewN ?_ _))⟩
                case measure => simp [intOf]; omega
              by_cases k4 : d.kind = 4
              · have e1 : Hid (paidS F d pk = wrap64 (pk - wrap64 (d.n * F.refund))) := by show _ = _; simp [paidS, k4]
                rw [k4] at q1
                clear k1 k3 k4 hsold
                go_wp2_with fail
                go_quiet (fail)
                go_wp2_with fail
                go_roundw
                case rel => exact ⟨k + 1, by omega, by go_num, by rw [Hsn.out, e1.out], by repeat (first | (with_reducible exact hkr) | (with_reducible refine KeptBut.drewN ?_ _))⟩
                case measure => simp [intOf]; omega
              · have e1 : Hid (paidS F d pk = pk) := by show _ = _; simp [paidS, k1, k3, k4]
                have g1 : (d.kind == 1) = false := by simpa using k1
                have g3 : (d.kind == 3) = false := by simpa using k3
                have g4 : (d.kind == 4) = false := by simpa using k4
                clear k1 k3 k4 hsold
                go_wp2_with fail
                go_roundw
                case rel => exact ⟨k + 1, by omega, by go_num, by rw [Hsn.out, e1.out], hkr⟩
                case measure => simp [intOf]; omega
            · have hge2 : ¬ (k : Int) < (l.length : Int) := by omega
              have ep : Hid (paidK F (l.take k) = paidK F l) := by show _ = _; rw [List.take_of_length_le (by omega)]
              obtain ⟨_, n0, n1, n2, n3, n4, n5⟩ := six (rN.kept hkr (by simp))
              have y1 : (s == wrap64 (wrap64 (wrap64 (t + r) + h) + lo)) = true := by rw [ok.tok]; simp
              have y2 : (ca == cashF C.cash F.cash F.stock.length) = true := by rw [ok.cash]; simp
              have y3 : (cashF C.cash F.cash F.stock.length == paidK F l) = true := by rw [ok.paid]; simp
              clear f3 d1 hge f4 f5 f6
              rw [ep.out]
              go_wp2_with fail
              refine (works_any _).mono ?_
              rintro e w4 ⟨rfl, hb4⟩
              go_wp2_with fail
              go_ret
              exact ⟨rfl, below_step (b3.trans (hkr.to_below (by omega) (by simp))) hb4⟩
    · have he' : (errS F l != 0) = true := by simpa using he
      clear he
      go_wp2_with fail
      refine (works_any _).mono ?_
      rintro e w3 ⟨rfl, hb3⟩
      go_wp2_with fail
      go_ret
      exact ⟨rfl, below_step (b2.alloc b2.size _) hb3⟩
end Go.Proofs.Ythjbakoccffdlaa
