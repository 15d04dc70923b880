/- Contract of the specification's CheckSpent. Conditions: spendings that read as data. -/
import Derived.Test.YtdechfjlbdbbnaaTni
import Derived.Test.YtdechfjlbdbbnaaTkq
namespace Go.Proofs.Ytdechfjlbdbbnaa
open Go.RowKit Go.Shelf

set_option maxHeartbeats 8000000 in
set_option maxRecDepth 100000 in
theorem rCheckSpent_any (n : Int) (l : List SpZ) (A : Option Addr) (ca B : Nat) (rs : List (Option Addr × Nat)) (w : World) (hB : B ≤ w.heap.size) (hl : SpIn w B A rs l) :
    Calls Try.prog 52 #[.int .i64 n, .slice A l.length ca] w fun e w' => e = .returned (.int .i64 (chkS n l)) ∧ Below w.heap.size w w' := by
  have HV : Hid (chkS n l = if inB n 1 10 = false then 1 else if 60 < l.length then 2 else if spsB n l l.length = false then 110 else 0) := rfl
  have HW : Hid (∀ X, Calls Try.prog 48 #[.int .i64 n, .int .i64 1, .int .i64 10] X fun e w' => e = .returned (.bool (inB n 1 10)) ∧ X = w') := fun X => (rwithin_any _ _ _ X).mono fun e w' h => ⟨h.1, h.2.symm⟩
  have HIn := Lib.hid hl
  have hlm := hl.len
  unfold maxLen at hlm
  clear hl
  generalize chkS n l = R at HV ⊢
  by_cases h1 : inB n 1 10 = false
  · rw [if_pos h1] at HV
    rw [HV.out]
    rw [h1] at HW
    clear h1
    go_enter Try.func52, Try.ntmps52
    go_wp2_with (go_at_call 48; refine (HW.out _).mono ?_; rintro e w' ⟨rfl, rfl⟩)
    go_ret
    exact ⟨rfl, Below.refl _ _⟩
  have h1t : inB n 1 10 = true := by simpa using h1
  have hnb := inB_le h1t
  obtain ⟨m, rfl⟩ : ∃ m : Nat, n = (m : Int) := ⟨n.toNat, by omega⟩
  have hm : m ≤ 10 := by omega
  rw [if_neg h1] at HV
  rw [h1t] at HW
  clear h1 h1t hnb
  have ewm : IntKind.i64.wrap ((m : Int) - 1) = (m : Int) - 1 := IntWalk.i64_in _ (by omega)
  by_cases h60 : 60 < l.length
  · rw [if_pos h60] at HV
    rw [HV.out]
    have hz : (60 : Int) < (l.length : Int) := by omega
    go_enter Try.func52, Try.ntmps52
    go_wp2_with (go_at_call 48; refine (HW.out _).mono ?_; rintro e w' ⟨rfl, rfl⟩)
    go_ret
    exact ⟨rfl, Below.refl _ _⟩
  have hz : ¬ (60 : Int) < (l.length : Int) := by omega
  rw [if_neg h60] at HV
  go_enter Try.func52, Try.ntmps52
  go_upto_region 5 with (go_at_call 48; refine (HW.out _).mono ?_; rintro e w' ⟨rfl, rfl⟩)
  clear HW
  go_wp2_with fail
  go_loopw [5] (fun i wr => ∃ k : Nat, k ≤ l.length ∧ i = .int .i64 k ∧ Below w.heap.size w wr ∧ spsB m l k = true) (fun i _ => l.length - (intOf i).toNat)
  case atStart => exact ⟨0, Nat.zero_le _, rfl, Below.refl _ _, rfl⟩
  case round =>
    obtain ⟨k, hk, rfl, hbel, hall⟩ := hrel
    have Hall := Lib.hid hall
    by_cases hlt : k < l.length
    · have HK := Lib.hid hlt
      have hlt' : (k : Int) < (l.length : Int) := by omega
      have i0 : ¬ (k : Int) < 0 := by omega
      have ew : IntKind.i64.wrap ((k : Int) + 1) = (k : Int) + 1 := IntWalk.i64_in _ (by omega)
      obtain ⟨b, o, rfl, hb, hcs⟩ := HIn.out.outer (by omega)
      obtain ⟨p0, p1, p2⟩ := hcs k hlt
      have hin := HIn.out.inner k hlt
      have hll := HIn.out.lens k hlt
      unfold maxLen at hll
      have lb : b < w.heap.size := by omega
      have HN : Hid (spsB m l (k + 1) = (spsB m l k && spB m (spAt l k))) := rfl
      have Hno : Hid (spB m (spAt l k) = false → R = 110) := fun h => by rw [HV.out, if_pos (spsB_out HK.out h)]
      generalize spAt l k = s at p0 p1 p2 hin hll HN Hno
      generalize rs.getD k default = q at p2 hin
      obtain ⟨A3, c3⟩ := q
      obtain ⟨f, c, fr⟩ := s
      dsimp only at p0 p1 p2 hin hll
      have HSB : Hid (spB m ⟨f, c, fr⟩ = (inB f 0 ((m : Int) - 1) && inB c 0 1000000000 && decide (0 < fr.length) && allB fr 0 ((m : Int) - 1) && ascB fr)) := rfl
      generalize spB m ⟨f, c, fr⟩ = sb at HN Hno HSB
      have c0 : wr.cell? ⟨b, o + k * 3, none⟩ = some (.int .i64 f) := by rw [hbel.cell (p := ⟨b, o + k * 3, none⟩) lb]; exact p0
      have c1 : wr.cell? ⟨b, o + k * 3 + 1, none⟩ = some (.int .i64 c) := by rw [hbel.cell (p := ⟨b, o + k * 3 + 1, none⟩) lb]; exact p1
      have c2' : wr.cell? ⟨b, o + k * 3 + 2, none⟩ = some (.slice A3 fr.length c3) := by rw [hbel.cell (p := ⟨b, o + k * 3 + 2, none⟩) lb]; exact p2
      have lb' : b < wr.heap.size := Nat.lt_of_lt_of_le lb hbel.size
      obtain ⟨Y, hY⟩ : ∃ Y, Y = wr.alloc (.cells #[.int .i64 f, .int .i64 c, .slice A3 fr.length c3] 54) := ⟨_, rfl⟩
      have bY : Below w.heap.size w Y := by rw [hY]; exact hbel.alloc hbel.size _
      have rY : Row Y wr.heap.size 54 [.int .i64 f, .int .i64 c, .slice A3 fr.length c3] := by rw [hY]; exact Row.new wr _ _
      obtain ⟨z, hz2⟩ : ∃ z, z = wr.heap.size := ⟨_, rfl⟩
      rw [← hz2] at rY
      have y0 : Y.cell? ⟨z, 0, none⟩ = some (.int .i64 f) := rY.cell (j := 0) (by simp)
      have y1 : Y.cell? ⟨z, 1, none⟩ = some (.int .i64 c) := rY.cell (j := 1) (by simp)
      have y2 : Y.cell? ⟨z, 2, none⟩ = some (.slice A3 fr.length c3) := rY.cell (j := 2) (by simp)
      have lY := rY.lt
      have HYz : Hid (∀ X, Below Y.heap.size Y X → X.cell? ⟨z, 2, none⟩ = some (.slice A3 fr.length c3) ∧ z < X.heap.size) := fun X hX => ⟨by rw [hX.cell (p := ⟨z, 2, none⟩) lY]; exact y2, Nat.lt_of_lt_of_le lY hX.size⟩
      have HBY := Lib.hid bY
      have HZ2 := Lib.hid hz2
      have hrd3 := Lib.hid hin
      have H1 : Hid (∀ X, Calls Try.prog 48 #[.int .i64 f, .int .i64 0, .int .i64 ((m : Int) - 1)] X fun e w' => e = .returned (.bool (inB f 0 ((m : Int) - 1))) ∧ X = w') := fun X => (rwithin_any _ _ _ X).mono fun e w' h => ⟨h.1, h.2.symm⟩
      have H2 : Hid (∀ X, Calls Try.prog 41 #[.int .i64 c] X fun e w' => e = .returned (.bool (inB c 0 1000000000)) ∧ X = w') := fun X => (ramount_any _ X).mono fun e w' h => ⟨h.1, h.2.symm⟩
      go_upto_region 9 with fail
      rw [← hY, ← hz2]
      clear hcs p0 p1 p2 hin rY bY hbel hall hlt hY c0 c1 c2' lb' hz2
      cases h1 : inB f 0 ((m : Int) - 1) with
      | false =>
        rw [h1] at H1 HSB
        have HR := Lib.hid (Hno.out (by rw [HSB.out]; rfl))
        clear h1
        go_wp2_with (go_at_call 48; with_reducible refine (H1.out _).mono ?_; rintro e w' ⟨rfl, rfl⟩)
        go_ret
        exact ⟨ret_intT HR.out.symm, HBY.out⟩
      | true =>
        rw [h1] at H1 HSB
        clear h1
        cases h2 : inB c 0 1000000000 with
        | false =>
          rw [h2] at H2 HSB
          have HR := Lib.hid (Hno.out (by rw [HSB.out]; rfl))
          clear h2
          go_wp2_with (first | (go_at_call 48; with_reducible refine (H1.out _).mono ?_; rintro e w' ⟨rfl, rfl⟩) | (go_at_call 41; with_reducible refine (H2.out _).mono ?_; rintro e w' ⟨rfl, rfl⟩))
          go_ret
          exact ⟨ret_intT HR.out.symm, HBY.out⟩
        | true =>
          rw [h2] at H2 HSB
          clear h2
          by_cases h3 : 0 < fr.length
          · rw [decide_eq_true h3] at HSB
            have z3 : ¬ (fr.length : Int) = 0 := by omega
            go_upto_region 11 with (first | (go_at_call 48; with_reducible refine (H1.out _).mono ?_; rintro e w' ⟨rfl, rfl⟩) | (go_at_call 41; with_reducible refine (H2.out _).mono ?_; rintro e w' ⟨rfl, rfl⟩))
            clear H1 H2 y0 y1 y2 lY
            go_wp2_with fail
            go_loopw [7] (fun i X => ∃ j : Nat, j ≤ fr.length ∧ i = .int .i64 j ∧ Below Y.heap.size Y X ∧ allB (fr.take j) 0 ((m : Int) - 1) = true ∧ ascN fr j = true) (fun i _ => fr.length - (intOf i).toNat)
            case atStart => exact ⟨0, Nat.zero_le _, rfl, Below.refl _ _, rfl, rfl⟩
            case round =>
              obtain ⟨j, hj, rfl, bX, haj, hsj⟩ := hrel
              obtain ⟨x2, lx⟩ := HYz.out _ bX
              have Haj := Lib.hid haj
              have Hsj := Lib.hid hsj
              have HBX := Lib.hid bX
              by_cases hjn : j < fr.length
              · have HJN := Lib.hid hjn
                have jj1 : (j : Int) < (fr.length : Int) := by omega
                have jj0 : ¬ (j : Int) < 0 := by omega
                have ewj : IntKind.i64.wrap ((j : Int) + 1) = (j : Int) + 1 := IntWalk.i64_in _ (by omega)
                obtain ⟨b3, o3, rfl, hb3, hc3⟩ := cell_at hrd3.out hjn
                have hb3' : b3 < w.heap.size := by omega
                have bXw := HBY.out.trans (bX.mono HBY.out.size)
                have HC3 : Hid (∀ j, j < fr.length → wr.cell? ⟨b3, o3 + j, none⟩ = some (.int .i64 (wAt fr j))) := fun j hj => by rw [bXw.cell (p := ⟨b3, o3 + j, none⟩) hb3']; exact hc3 j hj
                have v1 := HC3.out j hjn
                have lv1 : b3 < wr.heap.size := Nat.lt_of_lt_of_le hb3' bXw.size
                have HAn : Hid (allB (fr.take (j + 1)) 0 ((m : Int) - 1) = (allB (fr.take j) 0 ((m : Int) - 1) && inB (wAt fr j) 0 ((m : Int) - 1))) := allT_snoc fr j 0 _ hjn
                have HAo : Hid (inB (wAt fr j) 0 ((m : Int) - 1) = false → allB fr 0 ((m : Int) - 1) = false) := fun h => allT_out fr j 0 _ hjn h
                have HI : Hid (∀ X, Calls Try.prog 48 #[.int .i64 (wAt fr j), .int .i64 0, .int .i64 ((m : Int) - 1)] X fun e w' => e = .returned (.bool (inB (wAt fr j) 0 ((m : Int) - 1))) ∧ w' = X) := fun X => rwithin_any _ _ _ X
                have HAs : Hid (ascN fr (j + 1) = (ascN fr j && (decide (j = 0) || decide (wAt fr (j - 1) < wAt fr j)))) := rfl
                have HAx : Hid (∀ i, j = i + 1 → ¬ wAt fr i < wAt fr j → ascB fr = false) := fun i hi h => by subst hi; exact ascN_out HJN.out h
                generalize wAt fr j = x at v1 HAn HAo HI HAs HAx
                clear bX haj hsj hc3 bXw
                cases h4 : inB x 0 ((m : Int) - 1) with
                | false =>
                  rw [h4] at HI
                  have HR := Lib.hid (Hno.out (by rw [HSB.out, HAo.out h4]; rfl))
                  clear h4 hjn HAn HAo
                  go_upto_region 14 with fail
                  go_quiet (first | (go_at_call 48; with_reducible refine Calls.quiet_of_same (HI.out _)))
                  go_wp2_with fail
                  go_ret
                  exact ⟨ret_intT HR.out.symm, below_drewN (HBY.out.trans (HBX.out.mono HBY.out.size)) _⟩
                | true =>
                  rw [h4] at HI HAn
                  clear h4 HAo
                  by_cases hj0 : j = 0
                  · have hk1 : decide (0 < j) = false := decide_eq_false (by omega)
                    have hk2 : ¬ 0 < j := by omega
                    have HJ0 := Lib.hid hj0
                    have HS2 : Hid (ascN fr (j + 1) = true) := by show _ = _; rw [HAs.out, Hsj.out, decide_eq_true hj0]; rfl
                    clear hj0 hjn HAs HAx
                    go_upto_region 14 with fail
                    go_quiet (first | (go_at_call 48; with_reducible refine Calls.quiet_of_same (HI.out _)))
                    go_wp2_with fail
                    go_roundw
                    case rel => exact ⟨j + 1, by have := HJN.out; omega, by go_num, below_drewN HBX.out _, by rw [HAn.out, Haj.out]; rfl, HS2.out⟩
                    case measure => have := HJN.out; simp [intOf]; omega
                  · have hk1 : decide (0 < j) = true := decide_eq_true (by omega)
                    have hk2 : 0 < j := by omega
                    obtain ⟨i, hi⟩ : ∃ i, j = i + 1 := ⟨j - 1, by omega⟩
                    have ew2 : IntKind.i64.wrap ((j : Int) - 1) = (i : Int) := by rw [show (j : Int) - 1 = (i : Int) by omega]; exact IntWalk.i64_in _ (by omega)
                    have j0 : ¬ (i : Int) < 0 := by omega
                    have j1 : (i : Int) < (fr.length : Int) := by omega
                    have v2 := HC3.out i (by omega)
                    have HAx2 := Lib.hid (HAx.out i hi)
                    have HAs2 : Hid (wAt fr i < x → ascN fr (j + 1) = true) := fun h => by rw [HAs.out, Hsj.out, show j - 1 = i by omega, decide_eq_true h]; simp
                    generalize wAt fr i = y at v2 HAx2 HAs2
                    have HJ := Lib.hid hi
                    clear hj0 hjn hi HAs HAx
                    by_cases hxy : x ≤ y
                    · have d5 : decide (x ≤ y) = true := decide_eq_true hxy
                      have HR := Lib.hid (Hno.out (by rw [HSB.out, HAx2.out (by omega)]; simp))
                      go_upto_region 14 with fail
                      go_quiet (first | (go_at_call 48; with_reducible refine Calls.quiet_of_same (HI.out _)))
                      go_wp2_with fail
                      go_ret
                      exact ⟨ret_intT HR.out.symm, below_drewN (HBY.out.trans (HBX.out.mono HBY.out.size)) _⟩
                    · have d5 : decide (x ≤ y) = false := decide_eq_false hxy
                      have HS2 := Lib.hid (HAs2.out (by omega))
                      go_upto_region 14 with fail
                      go_quiet (first | (go_at_call 48; with_reducible refine Calls.quiet_of_same (HI.out _)))
                      go_wp2_with fail
                      go_roundw
                      case rel => exact ⟨j + 1, by have := HJN.out; omega, by go_num, below_drewN HBX.out _, by rw [HAn.out, Haj.out]; rfl, HS2.out⟩
                      case measure => have := HJN.out; simp [intOf]; omega
              · have ej : j = fr.length := by omega
                have hge : ¬ (j : Int) < (fr.length : Int) := by omega
                rw [ej, List.take_length] at haj
                rw [ej] at hsj
                have HT : Hid (spsB m l (k + 1) = true) := by
                  show _ = _
                  rw [HN.out, Hall.out, HSB.out, haj, show ascB fr = true from hsj]; rfl
                clear ej haj hsj bX
                go_wp2_with fail
                go_roundw
                case rel => exact ⟨k + 1, by have := HK.out; omega, by go_num, HBY.out.trans (HBX.out.mono HBY.out.size), HT.out⟩
                case measure => have := HK.out; simp [intOf]; omega
          · rw [decide_eq_false h3] at HSB
            have HR := Lib.hid (Hno.out (by rw [HSB.out]; rfl))
            have z3 : (fr.length : Int) = 0 := by omega
            have z4 : fr.length = 0 := by omega
            go_wp2_with (first | (go_at_call 48; with_reducible refine (H1.out _).mono ?_; rintro e w' ⟨rfl, rfl⟩) | (go_at_call 41; with_reducible refine (H2.out _).mono ?_; rintro e w' ⟨rfl, rfl⟩))
            go_ret
            exact ⟨ret_intT HR.out.symm, HBY.out⟩
    · have ek : k = l.length := by omega
      have hge : ¬ (k : Int) < (l.length : Int) := by omega
      have HR : Hid (R = 0) := by show _ = _; rw [HV.out, if_neg (by rw [← ek, hall]; simp)]
      have HBe := Lib.hid hbel
      clear hbel hall ek
      go_wp2_with fail
      go_ret
      exact ⟨ret_intT HR.out.symm, HBe.out⟩
end Go.Proofs.Ytdechfjlbdbbnaa
