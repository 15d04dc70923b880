/- Contract of Until. Conditions: the arguments read as data; the deals' slice is no longer than its capacity. -/
import Derived.Test.YtonbaikdpcmbiaaUa
import Derived.Test.YtonbaikdpcmbiaaRd
import Derived.Deep.RegionHeld3
namespace Go.Proofs.Ytonbaikdpcmbiaa
open Go.RowKit

theorem Reads.pre {w : World} {B : Nat} {A : Option Addr} {l : List Deal} (h : Reads w B 5 A l.length (dealCells l)) (k : Nat) (hk : k ≤ l.length) : Reads w B 5 A k (dealCells (l.take k)) := by
  refine ⟨by rw [dealCells_length, List.length_take]; omega, fun h0 => ?_⟩
  obtain ⟨b, o, e, hb, hc⟩ := h.2 (by omega)
  refine ⟨b, o, e, hb, fun j u hu => hc j u ?_⟩
  have e2 : dealCells l = dealCells (l.take k) ++ dealCells (l.drop k) := by
    unfold dealCells
    rw [← List.flatMap_append, List.take_append_drop]
  rw [e2, List.getElem?_append_left (List.getElem?_eq_some_iff.1 hu).1]
  exact hu
theorem play_pre (F : Fair) (R : Refs) (l : List Deal) (k : Nat) (hk : k ≤ l.length) (A : Option Addr) (c B : Nat) (w X : World) (hB : B ≤ w.heap.size) (hF : FairIn w B F R) (hl : Reads w B 5 A l.length (dealCells l)) (hn : l.length ≤ maxLen) (hX : Below w.heap.size w X) :
    Calls Try.prog 20 #[fairV F R, .slice A k c] X fun e w' => PlNew X F (l.take k) e w' ∧ Below w.heap.size w w' := by
  have e : (l.take k).length = k := by rw [List.length_take]; omega
  have hp := (hl.below (hX.mono hB)).pre k hk
  have hn' : (l.take k).length ≤ maxLen := by omega
  have hs := hX.size
  have := Play_new F R (l.take k) A c B X (by omega) (hF.below (hX.mono hB)) (by rw [e]; exact hp) hn'
  rw [e] at this
  exact this.mono fun _ _ h => ⟨h, below_step hX h.1⟩
/-- What Until leaves. -/
def UnPost (w : World) (F : Fair) (l : List Deal) (a : Int) (e : Ending) (w' : World) : Prop :=
  Below w.heap.size w w' ∧ ∃ K, e = .returned (.tuple #[countV (untilC F l a) K, .int .i64 (errS F l)]) ∧ CountIn w' w'.heap.size (untilC F l a) K

set_option maxHeartbeats 2000000 in
set_option maxRecDepth 100000 in
theorem Until_any (F : Fair) (R : Refs) (l : List Deal) (a : Int) (A : Option Addr) (c B : Nat) (w : World) (hB : B ≤ w.heap.size) (hF : FairIn w B F R) (hl : Reads w B 5 A l.length (dealCells l)) (hn : l.length ≤ maxLen) (hc : l.length ≤ c) (_hcm : c ≤ maxLen) :
    Calls Try.prog 23 #[fairV F R, .slice A l.length c, .int .i64 a] w (UnPost w F l a) := by
  obtain ⟨W, hW⟩ : ∃ W, W = (w.alloc (.cells (fairCells F R) 25)).alloc (.cells #[.slice none 0 0, .slice none 0 0, .slice none 0 0, .slice none 0 0, .int .i64 0] 35) := ⟨_, rfl⟩
  have sW : W.heap.size = w.heap.size + 2 := by subst hW; simp
  have bW : Below w.heap.size w W := by subst hW; exact ((Below.refl _ _).alloc (Nat.le_refl _) _).alloc (by simp) _
  have rF : Row W w.heap.size 25 (fairCells F R).toList := by subst hW; exact (row_new _ _ _ _ rfl).alloc _
  have r1 : Row W (w.heap.size + 1) 35 [.slice none 0 0, .slice none 0 0, .slice none 0 0, .slice none 0 0, .int .i64 0] := by
    subst hW
    exact row_new _ _ _ _ (by simp)
  have hFW := hF.below (bW.mono hB)
  have hlW := hl.below (bW.mono hB)
  obtain ⟨_, q0, q1, q2, q3, q4, q5, q6, q7⟩ := Row.cells8 rF
  unfold fairV
  go_enter Try.func23, Try.ntmps23
  go_wp2_with fail
  rw [← hW]
  clear hW
  refine (CheckDeals_any F R l A c B W (by omega) hFW hlW hn).mono ?_
  rintro e w1 ⟨rfl, hb1⟩
  have b1 := below_step bW hb1
  have s1 := hb1.size
  have rF1 := rF.below hb1 rF.lt
  have r11 := r1.below hb1 r1.lt
  clear q0 q1 q2 q3 q4 q5 q6 q7
  obtain ⟨_, q0, q1, q2, q3, q4, q5, q6, q7⟩ := Row.cells8 rF1
  obtain ⟨f0, k0, k1, k2, k3, k4⟩ := r11.at_5
  by_cases he : errS F l = 0
  case neg =>
    have he' : (errS F l != 0) = true := by simpa using he
    have Hq : Hid (untilC F l a = ⟨[], [], [], [], 0⟩) := by show _ = _; simp [untilC, he]
    clear he
    go_wp2_with fail
    refine bodyPost_ret (v := .tuple #[.agg #[.slice none 0 0, .slice none 0 0, .slice none 0 0, .slice none 0 0, .int .i64 0], .int .i64 (errS F l)]) (by simp [results, Try.results23, go_sem, *]) rfl ?_
    exact ⟨by repeat (first | (with_reducible exact b1) | (with_reducible refine Below.alloc ?_ (by simp; omega) _) | (with_reducible refine Below.setCell ?_ (by dsimp only; omega) _)), ⟨none, 0, none, 0, none, 0, none, 0⟩, by rw [Hq.out]; rfl, by rw [Hq.out]; exact CountIn.none_ _ _⟩
  have He := Lib.hid he
  rw [he]
  clear he
  have hn2 : l.length ≤ 9223372036854775807 := by unfold maxLen at hn; omega
  go_wp2_with fail
  have l1 := hl.below (b1.mono hB)
  go_loop [10] (fun i => ∃ k : Nat, k ≤ l.length ∧ i = .int .i64 k ∧ ∀ j, j < k → (getd l j).at_ ≤ a) (fun i => l.length - (intOf i).toNat)
  case atStart => exact ⟨0, Nat.zero_le _, rfl, fun j h => absurd h (by omega)⟩
  case round =>
    obtain ⟨k, hk, rfl, hall⟩ := hrel
    have Hall := Lib.hid hall
    clear hall
    by_cases hgo : k < l.length ∧ (getd l k).at_ ≤ a
    · obtain ⟨hlt, hat⟩ := hgo
      obtain ⟨b, o, rfl, hb, hc0, _⟩ := l1.at5 hlt
      have hlt' : (k : Int) < (l.length : Int) := by omega
      have Hn : Hid (∀ j, j < k + 1 → (getd l j).at_ ≤ a) := fun j hj => by
        rcases Nat.lt_or_ge j k with h | h
        · exact Hall.out j h
        · have : j = k := by omega
          subst this; exact hat
      go_wp2_with fail
      go_round
      case rel => exact ⟨k + 1, by omega, by go_num, Hn.out⟩
      case measure => simp [intOf]; omega
    · have hN : Hid (untilN l a = k) := untilN_eq a l k hk Hall.out (by omega)
      have HP : Hid (∀ X : World, Below w.heap.size w X → Calls Try.prog 20 #[fairV F R, .slice A k c] X fun e w' => PlNew X F (l.take k) e w' ∧ Below w.heap.size w w') := fun X hX => play_pre F R l k hk A c B w X hB hF hl hn hX
      have c1 : (0 : Int) ≤ (k : Int) := by omega
      have c2 : (k : Int) ≤ (c : Int) := by omega
      have c3 : k ≤ c := by omega
      have EC : Hid (untilC F l a = playS F (l.take k)) := by show _ = _; rw [untilC, if_pos He.out, hN.out]
      have EE : Hid (errS F (l.take k) = errS F l) := by show _ = _; rw [begin_ok He.out, He.out]
      have z0 : w.heap.size < w1.heap.size := by omega
      have z1 : w.heap.size + 1 < w1.heap.size := by omega
      by_cases hlt : k < l.length
      · have hat : a < (getd l k).at_ := by omega
        clear hgo
        obtain ⟨b, o, rfl, hb, hc0, _⟩ := l1.at5 hlt
        have hlt' : (k : Int) < (l.length : Int) := by omega
        go_wp2_with fail
        have HX : Hid (Below w.heap.size w w1) := b1
        go_region_held3 (fun x => x.cell? ⟨w.heap.size, 0, none⟩ = some (.int .i64 F.purses) ∧ x.cell? ⟨w.heap.size, 1, none⟩ = some (.int .i64 F.boxes) ∧ x.cell? ⟨w.heap.size, 2, none⟩ = some (.slice R.A1 F.stock.length R.c1) ∧ x.cell? ⟨w.heap.size, 3, none⟩ = some (.slice R.A2 F.cash.length R.c2) ∧ x.cell? ⟨w.heap.size, 4, none⟩ = some (.slice R.A3 F.bundles.length R.c3) ∧ x.cell? ⟨w.heap.size, 5, none⟩ = some (.int .i64 F.refund) ∧ x.cell? ⟨w.heap.size, 6, none⟩ = some (.int .i64 F.band) ∧ x.cell? ⟨w.heap.size, 7, none⟩ = some (.int .i64 F.hours)) (go_keep) (first
          | (go_at_call 20; go_must (refine (HP.out _ ?_).mono ?_; (repeat first | assumption | (with_reducible refine below_drewN ?_ _) | (with_reducible refine Below.drew ?_)); rintro e x3 ⟨⟨hb3, ⟨A1, c1, A2, c2, A3, c3, A4, c4⟩, rfl, hC3, hf3⟩, bx3⟩; have rF3 : Row x3 w.heap.size 25 (fairCells F R).toList := (by first | exact Row.below rF1 hb3 rF1.lt | exact Row.below (Row.drew rF1) hb3 rF1.lt | exact Row.below (Row.drewN rF1 _) hb3 rF1.lt); have rC3 : Row x3 (w.heap.size + 1) 35 [.slice none 0 0, .slice none 0 0, .slice none 0 0, .slice none 0 0, .int .i64 0] := (by first | exact Row.below r11 hb3 r11.lt | exact Row.below (Row.drew r11) hb3 r11.lt | exact Row.below (Row.drewN r11 _) hb3 r11.lt); obtain ⟨_, q0, q1, q2, q3, q4, q5, q6, q7⟩ := Row.cells8 rF3; obtain ⟨f3, g0, g1, g2, g3, g4⟩ := rC3.at_5)))
        all_goals
          go_wp2_with fail
          refine bodyPost_ret (v := .tuple #[.agg #[.slice A1 (playS F (l.take k)).stock.length c1, .slice A2 (playS F (l.take k)).cash.length c2, .slice A3 (playS F (l.take k)).purses.length c3, .slice A4 (playS F (l.take k)).boxes.length c4, .int .i64 (playS F (l.take k)).lost], .int .i64 (errS F (l.take k))]) (by simp [results, Try.results23, go_sem, *]) rfl ?_
          refine ⟨?_, ⟨A1, c1, A2, c2, A3, c3, A4, c4⟩, ?_, ?_⟩
          · repeat (first | (with_reducible exact bx3) | (with_reducible refine Below.setCell ?_ (by dsimp only; omega) _))
          · rw [EC.out, EE.out]
          · rw [EC.out]
            have hN : w.heap.size + 1 < w1.heap.size := by omega
            refine CountIn.more (B := x3.heap.size) ?_ (by simp [World.setCell])
            exact CountIn.far (CountIn.far (CountIn.far (CountIn.far (CountIn.far hC3 hf3 hN _) hf3 hN _) hf3 hN _) hf3 hN _) hf3 hN _
      · have hge : ¬ (k : Int) < (l.length : Int) := by omega
        clear hgo
        go_wp2_with fail
        have HX : Hid (Below w.heap.size w w1) := b1
        go_region_held3 (fun x => x.cell? ⟨w.heap.size, 0, none⟩ = some (.int .i64 F.purses) ∧ x.cell? ⟨w.heap.size, 1, none⟩ = some (.int .i64 F.boxes) ∧ x.cell? ⟨w.heap.size, 2, none⟩ = some (.slice R.A1 F.stock.length R.c1) ∧ x.cell? ⟨w.heap.size, 3, none⟩ = some (.slice R.A2 F.cash.length R.c2) ∧ x.cell? ⟨w.heap.size, 4, none⟩ = some (.slice R.A3 F.bundles.length R.c3) ∧ x.cell? ⟨w.heap.size, 5, none⟩ = some (.int .i64 F.refund) ∧ x.cell? ⟨w.heap.size, 6, none⟩ = some (.int .i64 F.band) ∧ x.cell? ⟨w.heap.size, 7, none⟩ = some (.int .i64 F.hours)) (go_keep) (first
          | (go_at_call 20; go_must (refine (HP.out _ ?_).mono ?_; (repeat first | assumption | (with_reducible refine below_drewN ?_ _) | (with_reducible refine Below.drew ?_)); rintro e x3 ⟨⟨hb3, ⟨A1, c1, A2, c2, A3, c3, A4, c4⟩, rfl, hC3, hf3⟩, bx3⟩; have rF3 : Row x3 w.heap.size 25 (fairCells F R).toList := (by first | exact Row.below rF1 hb3 rF1.lt | exact Row.below (Row.drew rF1) hb3 rF1.lt | exact Row.below (Row.drewN rF1 _) hb3 rF1.lt); have rC3 : Row x3 (w.heap.size + 1) 35 [.slice none 0 0, .slice none 0 0, .slice none 0 0, .slice none 0 0, .int .i64 0] := (by first | exact Row.below r11 hb3 r11.lt | exact Row.below (Row.drew r11) hb3 r11.lt | exact Row.below (Row.drewN r11 _) hb3 r11.lt); obtain ⟨_, q0, q1, q2, q3, q4, q5, q6, q7⟩ := Row.cells8 rF3; obtain ⟨f3, g0, g1, g2, g3, g4⟩ := rC3.at_5)))
        all_goals
          go_wp2_with fail
          refine bodyPost_ret (v := .tuple #[.agg #[.slice A1 (playS F (l.take k)).stock.length c1, .slice A2 (playS F (l.take k)).cash.length c2, .slice A3 (playS F (l.take k)).purses.length c3, .slice A4 (playS F (l.take k)).boxes.length c4, .int .i64 (playS F (l.take k)).lost], .int .i64 (errS F (l.take k))]) (by simp [results, Try.results23, go_sem, *]) rfl ?_
          refine ⟨?_, ⟨A1, c1, A2, c2, A3, c3, A4, c4⟩, ?_, ?_⟩
          · repeat (first | (with_reducible exact bx3) | (with_reducible refine Below.setCell ?_ (by dsimp only; omega) _))
          · rw [EC.out, EE.out]
          · rw [EC.out]
            have hN : w.heap.size + 1 < w1.heap.size := by omega
            refine CountIn.more (B := x3.heap.size) ?_ (by simp [World.setCell])
            exact CountIn.far (CountIn.far (CountIn.far (CountIn.far (CountIn.far hC3 hf3 hN _) hf3 hN _) hf3 hN _) hf3 hN _) hf3 hN _
end Go.Proofs.Ytonbaikdpcmbiaa
