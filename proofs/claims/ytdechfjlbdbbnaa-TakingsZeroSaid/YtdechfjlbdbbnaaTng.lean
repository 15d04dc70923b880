/- Contracts of takings' ascending and validSpent. Conditions: a spending that reads as data. -/
import Derived.Test.YtdechfjlbdbbnaaTnf
import Derived.Test.YtdechfjlbdbbnaaTmc
import Derived.Test.YtdechfjlbdbbnaaTkw
namespace Go.Proofs.Ytdechfjlbdbbnaa
open Go.RowKit Go.Shelf

def spA (p : Option Addr × Nat) (s : SpZ) : Value := .agg #[.int .i64 s.by_, .int .i64 s.cents, .slice p.1 s.fr.length p.2]
set_option maxHeartbeats 1000000 in
theorem ascending_any (l : List Int) (A : Option Addr) (ca B : Nat) (w : World) (hB : B ≤ w.heap.size) (hr : Reads w B 1 A l.length (l.map (Value.int .i64))) (hm : l.length ≤ maxLen) :
    Calls Try.prog 71 #[.slice A l.length ca] w fun e w' => e = .returned (.bool (ascB l)) ∧ Below w.heap.size w w' := by
  have hrd := Lib.hid hr
  have HV : Hid (ascB l = ascN l l.length) := rfl
  unfold maxLen at hm
  clear hr
  generalize ascB l = r at HV ⊢
  go_enter Try.func71, Try.ntmps71
  go_wp2_with fail
  go_loopw [3] (fun i wr => ∃ k : Nat, 1 ≤ k ∧ (k ≤ l.length ∨ k = 1) ∧ i = .int .i64 k ∧ Below w.heap.size w wr ∧ ascN l k = true) (fun i _ => l.length + 1 - (intOf i).toNat)
  case atStart => exact ⟨1, Nat.le_refl _, .inr rfl, rfl, Below.refl _ _, by simp [ascN]⟩
  case round =>
    obtain ⟨k, hk1, hk, rfl, hbel, hasc⟩ := hrel
    have Hbe := Lib.hid hbel
    have Has := Lib.hid hasc
    by_cases hlt : k < l.length
    · have hlt' : (k : Int) < (l.length : Int) := by omega
      have i0 : ¬ (k : Int) < 0 := by omega
      have ew : IntKind.i64.wrap ((k : Int) + 1) = (k : Int) + 1 := IntWalk.i64_in _ (by omega)
      obtain ⟨j, hj⟩ : ∃ j, k = j + 1 := ⟨k - 1, by omega⟩
      have ej : IntKind.i64.wrap ((k : Int) - 1) = (j : Int) := by rw [show (k : Int) - 1 = (j : Int) by omega]; exact IntWalk.i64_in _ (by omega)
      have j0 : ¬ (j : Int) < 0 := by omega
      have j1 : (j : Int) < (l.length : Int) := by omega
      obtain ⟨b, o, rfl, hb, hc⟩ := cell_at hrd.out hlt
      have v1 : wr.cell? ⟨b, o + k, none⟩ = some (.int .i64 (wAt l k)) := by rw [hbel.cell (p := ⟨b, o + k, none⟩) (show b < w.heap.size by omega)]; exact hc k hlt
      have v2 : wr.cell? ⟨b, o + j, none⟩ = some (.int .i64 (wAt l j)) := by rw [hbel.cell (p := ⟨b, o + j, none⟩) (show b < w.heap.size by omega)]; exact hc j (by omega)
      have lb : b < wr.heap.size := by have := hbel.size; omega
      have HN : Hid (ascN l (k + 1) = (ascN l k && (decide (k = 0) || decide (wAt l j < wAt l k)))) := by show _ = _; rw [show j = k - 1 by omega]; rfl
      have HO : Hid (¬ wAt l j < wAt l k → ascN l l.length = false) := fun h => by rw [hj] at h hlt; exact ascN_out hlt h
      have HJ := Lib.hid hj
      generalize wAt l k = x at v1 HN HO
      generalize wAt l j = y at v2 HN HO
      clear hbel hasc hc hj
      by_cases hle : x ≤ y
      · have HO2 := Lib.hid (HO.out (by omega))
        clear HO HN
        go_upto_region 4 with fail
        go_quiet (fail)
        go_wp2_with fail
        go_ret
        exact ⟨ret_boolT (by rw [HV.out, HO2.out]), below_drewN Hbe.out _⟩
      · have HN2 : Hid (ascN l (k + 1) = true) := by show _ = _; rw [HN.out, Has.out]; simp; omega
        clear HO HN
        go_upto_region 4 with fail
        go_quiet (fail)
        go_wp2_with fail
        go_roundw
        case rel => exact ⟨k + 1, by omega, .inl hlt, by go_num, below_drewN Hbe.out _, HN2.out⟩
        case measure => simp [intOf]; omega
    · have hge : ¬ (k : Int) < (l.length : Int) := by omega
      have HE : Hid (ascN l l.length = true) := ascN_mono k (by omega) hasc
      clear hbel hasc
      go_wp2_with fail
      go_ret
      exact ⟨ret_boolT (by rw [HV.out, HE.out]), Hbe.out⟩
set_option maxHeartbeats 4000000 in
set_option maxRecDepth 100000 in
theorem validSpent_any (m : Nat) (hm : m ≤ 10) (s : SpZ) (p : Option Addr × Nat) (B : Nat) (w : World) (hB : B ≤ w.heap.size) (hr : Reads w B 1 p.1 s.fr.length (s.fr.map (Value.int .i64))) (hl : s.fr.length ≤ maxLen) :
    Calls Try.prog 50 #[.int .i64 (m : Int), spA p s] w fun e w' => e = .returned (.bool (spB m s)) ∧ Below w.heap.size w w' := by
  obtain ⟨A, ca⟩ := p
  obtain ⟨f, c, fr⟩ := s
  dsimp only at hr hl
  have HV : Hid (spB m ⟨f, c, fr⟩ = (inB f 0 ((m : Int) - 1) && inB c 0 1000000000 && decide (0 < fr.length) && allB fr 0 ((m : Int) - 1) && ascB fr)) := rfl
  have ew : IntKind.i64.wrap ((m : Int) - 1) = (m : Int) - 1 := IntWalk.i64_in _ (by omega)
  have hl0 := hl
  unfold maxLen at hl0
  obtain ⟨W, hW⟩ : ∃ W, W = w.alloc (.cells #[.int .i64 f, .int .i64 c, .slice A fr.length ca] 54) := ⟨_, rfl⟩
  have bW : Below w.heap.size w W := by rw [hW]; exact (Below.refl _ _).alloc (Nat.le_refl _) _
  have rW : Row W w.heap.size 54 [.int .i64 f, .int .i64 c, .slice A fr.length ca] := by rw [hW]; exact Row.new w _ _
  obtain ⟨V, hV⟩ : ∃ V, V = W.alloc (.cells #[.int .i64 f] 3) := ⟨_, rfl⟩
  have bV : Below w.heap.size w V := by rw [hV]; exact bW.alloc bW.size _
  have rV : Row V w.heap.size 54 [.int .i64 f, .int .i64 c, .slice A fr.length ca] := by rw [hV]; exact rW.alloc _
  obtain ⟨U, hU⟩ : ∃ U, U = V.alloc (.cells #[.int .i64 c] 3) := ⟨_, rfl⟩
  have bU : Below w.heap.size w U := by rw [hU]; exact bV.alloc bV.size _
  have rU : Row U w.heap.size 54 [.int .i64 f, .int .i64 c, .slice A fr.length ca] := by rw [hU]; exact rV.alloc _
  have H1 : Hid (∀ k, Calls Try.prog 49 #[.int .i64 0, .int .i64 ((m : Int) - 1), .slice (some ⟨W.heap.size, 0, none⟩) 1 k] (W.alloc (.cells #[.int .i64 f] 3)) fun e w' => e = .returned (.bool (inB f 0 ((m : Int) - 1))) ∧ w' = V) := fun k => by
    rw [hV]
    exact (tall_new W k f 0 _).mono fun e w' h => ⟨h.1, h.2.symm⟩
  have H2 : Hid (∀ k, Calls Try.prog 38 #[.slice (some ⟨V.heap.size, 0, none⟩) 1 k] (V.alloc (.cells #[.int .i64 c] 3)) fun e w' => e = .returned (.bool (inB c 0 1000000000)) ∧ w' = U) := fun k => by
    rw [hU]
    exact (am_new V k c).mono fun e w' h => ⟨h.1, h.2.symm⟩
  have H3 := Lib.hid (tall_any fr A fr.length ca B 0 ((m : Int) - 1) U (hr.below (bU.mono hB)) hl)
  have H4 := Lib.hid (ascending_any fr A ca B U (Nat.le_trans hB bU.size) (hr.below (bU.mono hB)) hl)
  have HB := Lib.hid bV
  have HB2 := Lib.hid bU
  have q0 : W.cell? ⟨w.heap.size, 0, none⟩ = some (.int .i64 f) := rW.cell (j := 0) (by simp)
  have v1 : V.cell? ⟨w.heap.size, 1, none⟩ = some (.int .i64 c) := rV.cell (j := 1) (by simp)
  have u2 : U.cell? ⟨w.heap.size, 2, none⟩ = some (.slice A fr.length ca) := rU.cell (j := 2) (by simp)
  have lW := rW.lt
  have lV := rV.lt
  have lU := rU.lt
  generalize spB m ⟨f, c, fr⟩ = r at HV ⊢
  clear rW rV rU bW bV bU hV hU hr hl
  unfold spA
  dsimp only
  go_enter Try.func50, Try.ntmps50
  go_upto_region 1 with fail
  rw [← hW]
  clear hW
  cases h1 : inB f 0 ((m : Int) - 1) with
  | false =>
    rw [h1] at H1 HV
    clear h1
    go_wp2_with (go_at_call 49; with_reducible refine (H1.out _).mono ?_; rintro e w' ⟨rfl, rfl⟩)
    go_ret
    exact ⟨ret_boolT (by rw [HV.out]; rfl), HB.out⟩
  | true =>
    rw [h1] at H1 HV
    clear h1
    cases h2 : inB c 0 1000000000 with
    | false =>
      rw [h2] at H2 HV
      clear h2
      go_wp2_with (first | (go_at_call 49; with_reducible refine (H1.out _).mono ?_; rintro e w' ⟨rfl, rfl⟩) | (go_at_call 38; with_reducible refine (H2.out _).mono ?_; rintro e w' ⟨rfl, rfl⟩))
      go_ret
      exact ⟨ret_boolT (by rw [HV.out]; rfl), HB2.out⟩
    | true =>
      rw [h2] at H2 HV
      clear h2
      by_cases h3 : 0 < fr.length
      · rw [decide_eq_true h3] at HV
        have z3 : (0 : Int) < (fr.length : Int) := by omega
        cases h4 : allB fr 0 ((m : Int) - 1) with
        | false =>
          rw [h4] at H3 HV
          clear h4
          go_wp2_with (first | (go_at_call 49; with_reducible refine (H1.out _).mono ?_; rintro e w' ⟨rfl, rfl⟩) | (go_at_call 38; with_reducible refine (H2.out _).mono ?_; rintro e w' ⟨rfl, rfl⟩) | (go_at_call 49; with_reducible refine H3.out.mono ?_; rintro e w' ⟨rfl, rfl⟩))
          go_ret
          exact ⟨ret_boolT (by rw [HV.out]; rfl), HB2.out⟩
        | true =>
          rw [h4] at H3 HV
          clear h4
          go_wp2_with (first | (go_at_call 49; with_reducible refine (H1.out _).mono ?_; rintro e w' ⟨rfl, rfl⟩) | (go_at_call 38; with_reducible refine (H2.out _).mono ?_; rintro e w' ⟨rfl, rfl⟩) | (go_at_call 49; with_reducible refine H3.out.mono ?_; rintro e w' ⟨rfl, rfl⟩) | (go_at_call 71; with_reducible refine H4.out.mono ?_; rintro e Z ⟨rfl, hZ⟩; have HZ := Lib.hid (HB2.out.trans (hZ.mono HB2.out.size)); clear hZ H4))
          go_ret
          exact ⟨ret_boolT (by rw [HV.out]; simp), HZ.out⟩
      · rw [decide_eq_false h3] at HV
        have z3 : ¬ (0 : Int) < (fr.length : Int) := by omega
        go_wp2_with (first | (go_at_call 49; with_reducible refine (H1.out _).mono ?_; rintro e w' ⟨rfl, rfl⟩) | (go_at_call 38; with_reducible refine (H2.out _).mono ?_; rintro e w' ⟨rfl, rfl⟩))
        go_ret
        exact ⟨ret_boolT (by rw [HV.out]; rfl), HB2.out⟩
end Go.Proofs.Ytdechfjlbdbbnaa
