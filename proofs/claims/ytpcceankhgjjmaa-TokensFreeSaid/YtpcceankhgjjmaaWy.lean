/- Contract of all: how many tokens there are in a count. Conditions: the count reads as data. -/
import Derived.Test.YtpcceankhgjjmaaWx
import Derived.Test.YtpcceankhgjjmaaIa
namespace Go.Proofs.Ytpcceankhgjjmaa
open Go.RowKit

def addL (s : Int) (l : List Int) : Int := l.foldl (fun s z => wrap64 (s + z)) s
theorem addL_snoc (s : Int) (l : List Int) (k : Nat) (h : k < l.length) : addL s (l.take (k + 1)) = wrap64 (addL s (l.take k) + l[k]?.getD 0) := by
  unfold addL
  rw [List.take_succ_eq_append_getElem h, List.foldl_append, List.getElem?_eq_getElem h]; rfl
theorem ptok_len (l : List Purse) : (ptok l).length = l.length := by simp [ptok]
theorem ptok_at (l : List Purse) (k : Nat) (h : k < l.length) : (ptok l)[k]?.getD 0 = (getp l k).tokens := by
  have := ptok_get l k h
  simpa [geti] using this
def allS (C : Count) : Int := addL (addL (addL C.lost C.stock) (ptok C.purses)) C.boxes
theorem Reads.at3 {w : World} {B n : Nat} {A : Option Addr} {l : List Purse} (h : Reads w B 2 A n (purseCells l)) {k : Nat} (hk : k < n) :
    ∃ b o, A = some ⟨b, o, none⟩ ∧ b < B ∧ w.cell? ⟨b, o + k * 2, none⟩ = some (.int .i64 (getp l k).tokens) ∧ w.cell? ⟨b, o + k * 2 + 1, none⟩ = some (.int .i64 (getp l k).til) := by
  obtain ⟨b, o, e, hb, hc⟩ := h.2 (by omega)
  have hl : l.length = n := by have := h.1; rw [purseCells_length] at this; omega
  obtain ⟨h1, h2⟩ := purseCells_at l k (by omega)
  exact ⟨b, o, e, hb, hc _ _ h1, hc _ _ h2⟩

set_option maxHeartbeats 2000000 in
theorem all_any (C : Count) (K : CRefs) (w : World) (B : Nat) (hB : B ≤ w.heap.size) (hC : CountIn w B C K) :
    Calls Try.prog 39 #[countV C K] w fun e w' => e = .returned (.int .i64 (allS C)) ∧ Below w.heap.size w w' := by
  obtain ⟨A1, c1, A2, c2, A3, c3, A4, c4⟩ := K
  have H0 := hC.keep (w' := w.alloc (.cells #[.slice A1 C.stock.length c1, .slice A2 C.cash.length c2, .slice A3 C.purses.length c3, .slice A4 C.boxes.length c4, .int .i64 C.lost] 35)) fun p hp => World.cell?_alloc_lt w _ p (by omega)
  have b0 := (Below.refl w.heap.size w).alloc (Nat.le_refl _) (.cells #[.slice A1 C.stock.length c1, .slice A2 C.cash.length c2, .slice A3 C.purses.length c3, .slice A4 C.boxes.length c4, .int .i64 C.lost] 35)
  obtain ⟨s1, _, s3, s4, l1, _, l3, l4⟩ := H0
  dsimp only at s1 s3 s4
  unfold maxLen at l1 l3 l4
  unfold countV
  dsimp only
  go_enter Try.func39, Try.ntmps39
  go_wp2_with fail
  have q0 : (w.alloc (.cells #[.slice A1 C.stock.length c1, .slice A2 C.cash.length c2, .slice A3 C.purses.length c3, .slice A4 C.boxes.length c4, .int .i64 C.lost] 35)).cell? ⟨w.heap.size, 0, none⟩ = some (.slice A1 C.stock.length c1) := by simp [World.cell?_alloc_new]
  have q2 : (w.alloc (.cells #[.slice A1 C.stock.length c1, .slice A2 C.cash.length c2, .slice A3 C.purses.length c3, .slice A4 C.boxes.length c4, .int .i64 C.lost] 35)).cell? ⟨w.heap.size, 2, none⟩ = some (.slice A3 C.purses.length c3) := by simp [World.cell?_alloc_new]
  have q3 : (w.alloc (.cells #[.slice A1 C.stock.length c1, .slice A2 C.cash.length c2, .slice A3 C.purses.length c3, .slice A4 C.boxes.length c4, .int .i64 C.lost] 35)).cell? ⟨w.heap.size, 3, none⟩ = some (.slice A4 C.boxes.length c4) := by simp [World.cell?_alloc_new]
  generalize (w.alloc (.cells #[.slice A1 C.stock.length c1, .slice A2 C.cash.length c2, .slice A3 C.purses.length c3, .slice A4 C.boxes.length c4, .int .i64 C.lost] 35)) = W at *
  go_loop [3, 4] (fun s i => ∃ k : Nat, k ≤ C.stock.length ∧ i = .int .i64 k ∧ s = .int .i64 (addL C.lost (C.stock.take k))) (fun _ i => C.stock.length - (intOf i).toNat)
  case atStart => exact ⟨0, Nat.zero_le _, rfl, rfl⟩
  case round =>
    obtain ⟨k, hk, rfl, rfl⟩ := hrel
    by_cases hlt : k < C.stock.length
    · obtain ⟨b, o, rfl, hb, hc⟩ := s1.at1 hlt
      have hck := hc k hlt
      clear hc
      have Hsn := Lib.hid (addL_snoc C.lost C.stock k hlt)
      go_wp2_with fail
      go_round
      case rel => exact ⟨k + 1, by omega, by go_num, by rw [Hsn.out, List.getElem?_eq_getElem hlt]; rfl⟩
      case measure => simp [intOf]; omega
    · have e1 : Hid (addL C.lost (C.stock.take k) = addL C.lost C.stock) := by show _ = _; rw [List.take_of_length_le (by omega)]
      have hge : ¬ (k : Int) < (C.stock.length : Int) := by omega
      go_wp2_with fail
      rw [e1.out]
      go_loop [3, 5] (fun s i => ∃ j : Nat, j ≤ C.purses.length ∧ i = .int .i64 j ∧ s = .int .i64 (addL (addL C.lost C.stock) ((ptok C.purses).take j))) (fun _ i => C.purses.length - (intOf i).toNat)
      case atStart => exact ⟨0, Nat.zero_le _, rfl, rfl⟩
      case round =>
        obtain ⟨j, hj, rfl, rfl⟩ := hrel
        by_cases hlt2 : j < C.purses.length
        · obtain ⟨b, o, rfl, hb, hc, _⟩ := s3.at3 hlt2
          have hsn := addL_snoc (addL C.lost C.stock) (ptok C.purses) j (by rw [ptok_len]; exact hlt2)
          rw [ptok_at _ _ hlt2] at hsn
          have Hsn := Lib.hid hsn
          clear hsn
          go_wp2_with fail
          go_round
          case rel => exact ⟨j + 1, by omega, by go_num, by rw [Hsn.out]⟩
          case measure => simp [intOf]; omega
        · have e2 : Hid (addL (addL C.lost C.stock) ((ptok C.purses).take j) = addL (addL C.lost C.stock) (ptok C.purses)) := by show _ = _; rw [List.take_of_length_le (by rw [ptok_len]; omega)]
          have hge2 : ¬ (j : Int) < (C.purses.length : Int) := by omega
          go_wp2_with fail
          rw [e2.out]
          go_loop [3, 6] (fun s i => ∃ n : Nat, n ≤ C.boxes.length ∧ i = .int .i64 n ∧ s = .int .i64 (addL (addL (addL C.lost C.stock) (ptok C.purses)) (C.boxes.take n))) (fun _ i => C.boxes.length - (intOf i).toNat)
          case atStart => exact ⟨0, Nat.zero_le _, rfl, rfl⟩
          case round =>
            obtain ⟨n, hn, rfl, rfl⟩ := hrel
            by_cases hlt3 : n < C.boxes.length
            · obtain ⟨b, o, rfl, hb, hc⟩ := s4.at1 hlt3
              have hck := hc n hlt3
              clear hc
              have Hsn := Lib.hid (addL_snoc (addL (addL C.lost C.stock) (ptok C.purses)) C.boxes n hlt3)
              go_wp2_with fail
              go_round
              case rel => exact ⟨n + 1, by omega, by go_num, by rw [Hsn.out, List.getElem?_eq_getElem hlt3]; rfl⟩
              case measure => simp [intOf]; omega
            · have e3 : Hid (addL (addL (addL C.lost C.stock) (ptok C.purses)) (C.boxes.take n) = allS C) := by show _ = _; rw [List.take_of_length_le (by omega)]; rfl
              have hge3 : ¬ (n : Int) < (C.boxes.length : Int) := by omega
              go_wp2_with fail
              go_ret
              exact ⟨ret_int e3.out, b0⟩
end Go.Proofs.Ytpcceankhgjjmaa
