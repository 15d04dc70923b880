/- Contracts of the specification's within, CheckBook, and of long. Conditions: a book that reads as data. -/
import Derived.Test.YtaocgkmobfocjaaInv
import Derived.BigQuiet
namespace Go.Proofs.Ytaocgkmobfocjaa
open Go.RowKit

theorem within_any (n lo hi : Int) (w : World) : Calls Try.prog 66 #[.int .i64 n, .int .i64 lo, .int .i64 hi] w fun e w' => e = .returned (.bool (inB n lo hi)) ∧ w' = w := by
  have HV : Hid (inB n lo hi = (decide (lo ≤ n) && decide (n ≤ hi))) := rfl
  generalize inB n lo hi = v at HV ⊢
  by_cases h : lo ≤ n
  · have HV2 : Hid (v = decide (n ≤ hi)) := by show _ = _; rw [HV.out, decide_eq_true h]; rfl
    go_enter Try.func66, Try.ntmps66
    go_wp2_with fail
    go_ret
    exact ⟨ret_boolI (Eq.trans (by first | rfl | (rw [Bool.eq_iff_iff]; simp)) HV2.out.symm), rfl⟩
  · have HV2 : Hid (v = false) := by show _ = _; rw [HV.out, decide_eq_false h]; rfl
    go_enter Try.func66, Try.ntmps66
    go_wp2_with fail
    go_ret
    exact ⟨ret_boolI HV2.out.symm, rfl⟩
set_option maxRecDepth 100000 in
theorem long_any (A : Option Addr) (n c : Nat) (w : World) : Calls Try.prog 16 #[.slice A n c] w fun e w' => e = .returned (.bool (decide (30 < n) && decide (n ≤ 100))) ∧ w' = w := by
  by_cases h : 30 < n
  · have h1 : decide ((30 : Int) < (n : Int)) = true := by simp; omega
    have HV : Hid ((decide (30 < n) && decide (n ≤ 100)) = decide ((n : Int) ≤ 100)) := by show _ = _; rw [decide_eq_true h, Bool.eq_iff_iff]; simp; omega
    generalize (decide (30 < n) && decide (n ≤ 100)) = v at HV ⊢
    clear h
    go_enter Try.func16, Try.ntmps16
    go_wp2_with fail
    go_ret
    exact ⟨ret_boolI (Eq.trans (by first | rfl | (rw [Bool.eq_iff_iff]; simp)) HV.out.symm), rfl⟩
  · have h1 : decide ((30 : Int) < (n : Int)) = false := by simp; omega
    rw [decide_eq_false h, Bool.false_and]
    clear h
    go_enter Try.func16, Try.ntmps16
    go_wp2_with fail
    go_ret
    exact ⟨rfl, rfl⟩
/-- The error of a book. -/
def bkE (k : BookZ) : Int := if bookB k = true then 0 else 100
theorem allI_take (zs : List Int) (lo hi : Int) {n : Nat} (h : n < zs.length) : allB (zs.take (n + 1)) lo hi = (allB (zs.take n) lo hi && inB zs[n] lo hi) := by
  have := allI_snoc zs n lo hi h
  rw [List.getElem?_eq_getElem h] at this
  exact this
theorem allI_not {zs : List Int} {lo hi : Int} {n : Nat} (h : n < zs.length) (hx : inB zs[n] lo hi = false) : allB zs lo hi = false := allI_out zs n lo hi h (by rw [List.getElem?_eq_getElem h]; exact hx)
set_option maxRecDepth 100000 in
set_option maxHeartbeats 4000000 in
theorem rbook_any (k : BookZ) (R : BkR) (B : Nat) (w : World) (hB : B ≤ w.heap.size) (hk : BkIn w B k R) : Calls Try.prog 45 #[bookV k R] w fun e w' => e = .returned (.int .i64 (bkE k)) ∧ Below w.heap.size w w' := by
  obtain ⟨W, hW⟩ : ∃ W, W = w.alloc (.cells #[.slice R.A1 k.rules.length R.c1, .slice R.A2 k.ranks.length R.c2, .slice R.A3 k.insured.length R.c3] 25) := ⟨_, rfl⟩
  have bW : Below w.heap.size w W := by subst hW; exact (Below.refl _ _).alloc (Nat.le_refl _) _
  have r0 : Row W w.heap.size 25 [.slice R.A1 k.rules.length R.c1, .slice R.A2 k.ranks.length R.c2, .slice R.A3 k.insured.length R.c3] := by subst hW; exact Row.new w _ _
  obtain ⟨zb, hzb⟩ : ∃ z, z = w.heap.size := ⟨_, rfl⟩
  rw [← hzb] at r0
  have q0 : W.cell? ⟨zb, 0, none⟩ = some (.slice R.A1 k.rules.length R.c1) := r0.cell (j := 0) (by simp)
  have q1 : W.cell? ⟨zb, 1, none⟩ = some (.slice R.A2 k.ranks.length R.c2) := r0.cell (j := 1) (by simp)
  have q2 : W.cell? ⟨zb, 2, none⟩ = some (.slice R.A3 k.insured.length R.c3) := r0.cell (j := 2) (by simp)
  have lW := r0.lt
  have HBW := Lib.hid bW
  have HR0 := Lib.hid r0
  have hl1 := hk.l1
  have hl2 := hk.l2
  have hl3 := hk.l3
  unfold maxLen at hl1 hl2 hl3
  have HRd : Hid (∀ (i : Nat) (hi : i < k.rules.length) (X : World), Below w.heap.size w X → ∃ b o, R.A1 = some ⟨b, o, none⟩ ∧ b < X.heap.size ∧ X.cell? ⟨b, o + i * 4, none⟩ = some (.int .i64 k.rules[i].ride) ∧ X.cell? ⟨b, o + i * 4 + 1, none⟩ = some (.int .i64 k.rules[i].every) ∧ X.cell? ⟨b, o + i * 4 + 2, none⟩ = some (.int .i64 k.rules[i].rank) ∧ X.cell? ⟨b, o + i * 4 + 3, none⟩ = some (.bool k.rules[i].two)) := fun i hi X hX => by
    obtain ⟨b, o, h1, h2, h3⟩ := ru_at (hk.rules.below (hX.mono hB)) hi
    exact ⟨b, o, h1, by have := hX.size; omega, h3⟩
  have HR2 : Hid (∀ (i : Nat) (hi : i < k.ranks.length) (X : World), Below w.heap.size w X → ∃ b o, R.A2 = some ⟨b, o, none⟩ ∧ b < X.heap.size ∧ X.cell? ⟨b, o + i, none⟩ = some (.int .i64 k.ranks[i])) := fun i hi X hX => by
    obtain ⟨b, o, h1, h2, h3⟩ := (hk.ranks.below (hX.mono hB)).2 (by omega)
    exact ⟨b, o, h1, by have := hX.size; omega, h3 i _ (by simp [hi])⟩
  have HR3 : Hid (∀ (i : Nat) (hi : i < k.insured.length) (X : World), Below w.heap.size w X → ∃ b o, R.A3 = some ⟨b, o, none⟩ ∧ b < X.heap.size ∧ X.cell? ⟨b, o + i, none⟩ = some (.int .i64 k.insured[i])) := fun i hi X hX => by
    obtain ⟨b, o, h1, h2, h3⟩ := (hk.insured.below (hX.mono hB)).2 (by omega)
    exact ⟨b, o, h1, by have := hX.size; omega, h3 i _ (by simp [hi])⟩
  have HS : Hid (bookB k = ((decide (k.rules.length ≤ 20) && (decide (k.ranks.length ≤ 8) && decide (k.insured.length ≤ 10))) && (k.rules.all (ruleB k) && (allB k.ranks 0 9 && allB k.insured 0 10000)))) := rfl
  have HE : Hid (bkE k = if bookB k = true then 0 else 100) := rfl
  have HBad : Hid (bookB k = false → bkE k = 100) := fun h => by unfold bkE; rw [h]; rfl
  generalize bkE k = v at HE HBad ⊢
  unfold bookV at *
  clear bW r0 hk hB
  by_cases h1 : 20 < k.rules.length
  · have d1 : decide ((20 : Int) < (k.rules.length : Int)) = true := by simp; omega
    have HV := Lib.hid (HBad.out (HS.out.trans (by rw [decide_eq_false (by omega)]; rfl)))
    clear h1
    go_enter Try.func45, Try.ntmps45
    go_upto_region 1 with fail
    rw [← hW, ← hzb]
    clear hW hzb
    go_wp2_with fail
    go_ret
    exact ⟨ret_intI HV.out.symm, HBW.out⟩
  have d1 : decide ((20 : Int) < (k.rules.length : Int)) = false := by simp; omega
  by_cases h2 : 8 < k.ranks.length
  · have d2 : decide ((8 : Int) < (k.ranks.length : Int)) = true := by simp; omega
    have HV := Lib.hid (HBad.out (HS.out.trans (by rw [decide_eq_false (p := k.ranks.length ≤ 8) (by omega)]; simp)))
    clear h1 h2
    go_enter Try.func45, Try.ntmps45
    go_upto_region 1 with fail
    rw [← hW, ← hzb]
    clear hW hzb
    go_wp2_with fail
    go_ret
    exact ⟨ret_intI HV.out.symm, HBW.out⟩
  have d2 : decide ((8 : Int) < (k.ranks.length : Int)) = false := by simp; omega
  by_cases h3 : 10 < k.insured.length
  · have d3 : decide ((10 : Int) < (k.insured.length : Int)) = true := by simp; omega
    have HV := Lib.hid (HBad.out (HS.out.trans (by rw [decide_eq_false (p := k.insured.length ≤ 10) (by omega)]; simp)))
    clear h1 h2 h3
    go_enter Try.func45, Try.ntmps45
    go_upto_region 1 with fail
    rw [← hW, ← hzb]
    clear hW hzb
    go_wp2_with fail
    go_ret
    exact ⟨ret_intI HV.out.symm, HBW.out⟩
  have d3 : decide ((10 : Int) < (k.insured.length : Int)) = false := by simp; omega
  have HS2 : Hid (bookB k = (k.rules.all (ruleB k) && (allB k.ranks 0 9 && allB k.insured 0 10000))) := by
    show _ = _
    rw [HS.out, decide_eq_true (by omega), decide_eq_true (by omega), decide_eq_true (by omega)]; rfl
  clear h1 h2 h3 HS
  have ei : IntKind.i64.wrap ((k.insured.length : Int) - 1) = (k.insured.length : Int) - 1 := IntWalk.i64_in _ (by omega)
  go_enter Try.func45, Try.ntmps45
  go_upto_region 1 with fail
  rw [← hW, ← hzb]
  clear hW hzb
  go_wp2_with fail
  go_loopw [3] (fun i wr => ∃ n : Nat, n ≤ k.rules.length ∧ i = .int .i64 n ∧ Below W.heap.size W wr ∧ Hid ((k.rules.take n).all (ruleB k) = true)) (fun i _ => k.rules.length - (intOf i).toNat)
  case atStart => exact ⟨0, Nat.zero_le _, rfl, Below.refl _ _, rfl⟩
  case round =>
    obtain ⟨n, hn, rfl, hbel, Hall⟩ := hrel
    have HB1 := Lib.hid (HBW.out.trans (hbel.mono HBW.out.size))
    have HBL := Lib.hid hbel
    have s0 := HR0.out.below hbel HR0.out.lt
    have lz := s0.lt
    have c0 : wr.cell? ⟨zb, 0, none⟩ = some (.slice R.A1 k.rules.length R.c1) := s0.cell (j := 0) (by simp)
    have c1 : wr.cell? ⟨zb, 1, none⟩ = some (.slice R.A2 k.ranks.length R.c2) := s0.cell (j := 1) (by simp)
    have c2 : wr.cell? ⟨zb, 2, none⟩ = some (.slice R.A3 k.insured.length R.c3) := s0.cell (j := 2) (by simp)
    by_cases hlt : n < k.rules.length
    · have n1 : (n : Int) < (k.rules.length : Int) := by omega
      have n0 : ¬ (n : Int) < 0 := by omega
      have en : IntKind.i64.wrap ((n : Int) + 1) = (n : Int) + 1 := IntWalk.i64_in _ (by omega)
      obtain ⟨b, o, hA, lb, x0, x1, x2, x3⟩ := HRd.out n hlt wr HB1.out
      have Hat := Lib.hid (all_take (ruleB k) k.rules hlt)
      have Hout := Lib.hid (fun h => all_out (p := ruleB k) hlt h)
      generalize k.rules[n] = u at x0 x1 x2 x3 Hat Hout
      have HRu : Hid (ruleB k u = (inB u.ride 0 ((k.insured.length : Int) - 1) && (inB u.every 1 10000 && inB u.rank 0 9))) := rfl
      have HA1 : Hid (∀ X, Calls Try.prog 66 #[.int .i64 u.ride, .int .i64 0, .int .i64 ((k.insured.length : Int) - 1)] X fun e w' => e = .returned (.bool (inB u.ride 0 ((k.insured.length : Int) - 1))) ∧ w' = X) := fun X => within_any _ _ _ X
      have HA2 : Hid (∀ X, Calls Try.prog 66 #[.int .i64 u.every, .int .i64 1, .int .i64 10000] X fun e w' => e = .returned (.bool (inB u.every 1 10000)) ∧ w' = X) := fun X => within_any _ _ _ X
      have HA3 : Hid (∀ X, Calls Try.prog 66 #[.int .i64 u.rank, .int .i64 0, .int .i64 9] X fun e w' => e = .returned (.bool (inB u.rank 0 9)) ∧ w' = X) := fun X => within_any _ _ _ X
      generalize inB u.ride 0 ((k.insured.length : Int) - 1) = b1 at HRu HA1
      generalize inB u.every 1 10000 = b2 at HRu HA2
      generalize inB u.rank 0 9 = b3 at HRu HA3
      generalize ruleB k u = bu at Hat Hout HRu
      rw [hA] at c0
      have bY := HB1.out.alloc HB1.out.size (.cells #[.int .i64 u.ride, .int .i64 u.every, .int .i64 u.rank, .bool u.two] 59)
      have bL := HBL.out.alloc HBL.out.size (.cells #[.int .i64 u.ride, .int .i64 u.every, .int .i64 u.rank, .bool u.two] 59)
      have rY := Row.new wr 59 #[.int .i64 u.ride, .int .i64 u.every, .int .i64 u.rank, .bool u.two]
      have kY := s0.alloc (.cells #[.int .i64 u.ride, .int .i64 u.every, .int .i64 u.rank, .bool u.two] 59)
      clear hbel s0
      go_upto_region 7 with fail
      generalize wr.alloc (.cells #[.int .i64 u.ride, .int .i64 u.every, .int .i64 u.rank, .bool u.two] 59) = Y at bY bL rY kY ⊢
      generalize wr.heap.size = zr at rY ⊢
      have y0 : Y.cell? ⟨zr, 0, none⟩ = some (.int .i64 u.ride) := rY.cell (j := 0) (by simp)
      have y1 : Y.cell? ⟨zr, 1, none⟩ = some (.int .i64 u.every) := rY.cell (j := 1) (by simp)
      have y2 : Y.cell? ⟨zr, 2, none⟩ = some (.int .i64 u.rank) := rY.cell (j := 2) (by simp)
      have k2 : Y.cell? ⟨zb, 2, none⟩ = some (.slice R.A3 k.insured.length R.c3) := kY.cell (j := 2) (by simp)
      have lY := rY.lt
      have lK := kY.lt
      have HBY := Lib.hid bY
      have HBLY := Lib.hid bL
      clear bY bL rY kY x0 x1 x2 x3 hA c0 c1 c2 lb
      cases b1 with
      | false =>
        have HV := Lib.hid (HBad.out (HS2.out.trans (by rw [Hout.out HRu.out]; rfl)))
        go_wp2_with (go_at_call 66; with_reducible refine (HA1.out _).mono ?_; rintro e w' ⟨rfl, rfl⟩)
        go_ret
        exact ⟨ret_intI HV.out.symm, HBY.out⟩
      | true =>
        cases b2 with
        | false =>
          have HV := Lib.hid (HBad.out (HS2.out.trans (by rw [Hout.out HRu.out]; rfl)))
          go_wp2_with (first | (go_at_call 66; with_reducible refine (HA1.out _).mono ?_; rintro e w' ⟨rfl, rfl⟩) | (go_at_call 66; with_reducible refine (HA2.out _).mono ?_; rintro e w' ⟨rfl, rfl⟩))
          go_ret
          exact ⟨ret_intI HV.out.symm, HBY.out⟩
        | true =>
          cases b3 with
          | false =>
            have HV := Lib.hid (HBad.out (HS2.out.trans (by rw [Hout.out HRu.out]; rfl)))
            go_wp2_with (first | (go_at_call 66; with_reducible refine (HA1.out _).mono ?_; rintro e w' ⟨rfl, rfl⟩) | (go_at_call 66; with_reducible refine (HA2.out _).mono ?_; rintro e w' ⟨rfl, rfl⟩) | (go_at_call 66; with_reducible refine (HA3.out _).mono ?_; rintro e w' ⟨rfl, rfl⟩))
            go_ret
            exact ⟨ret_intI HV.out.symm, HBY.out⟩
          | true =>
            go_wp2_with (first | (go_at_call 66; with_reducible refine (HA1.out _).mono ?_; rintro e w' ⟨rfl, rfl⟩) | (go_at_call 66; with_reducible refine (HA2.out _).mono ?_; rintro e w' ⟨rfl, rfl⟩) | (go_at_call 66; with_reducible refine (HA3.out _).mono ?_; rintro e w' ⟨rfl, rfl⟩))
            go_roundw
            case rel => exact ⟨n + 1, by omega, by go_num, HBLY.out, by show _ = _; rw [Hat.out, Hall.out, HRu.out]; rfl⟩
            case measure => simp [intOf]; omega
    · have en : n = k.rules.length := by omega
      have n1 : ¬ (n : Int) < (k.rules.length : Int) := by omega
      have hall := Hall.out
      rw [en, List.take_length] at hall
      have HS3 : Hid (bookB k = (allB k.ranks 0 9 && allB k.insured 0 10000)) := by show _ = _; rw [HS2.out, hall]; rfl
      clear hall Hall en hbel s0 HS2 HBL
      go_wp2_with fail
      obtain ⟨V, hV⟩ : ∃ V, V = wr := ⟨_, rfl⟩
      subst hV
      go_loopw [5] (fun i wr => ∃ n : Nat, n ≤ k.ranks.length ∧ i = .int .i64 n ∧ wr = V ∧ Hid (allB (k.ranks.take n) 0 9 = true)) (fun i _ => k.ranks.length - (intOf i).toNat)
      case atStart => exact ⟨0, Nat.zero_le _, rfl, rfl, rfl⟩
      case round =>
        obtain ⟨m, hm, rfl, rfl, Hall⟩ := hrel
        by_cases hlt2 : m < k.ranks.length
        · have m1 : (m : Int) < (k.ranks.length : Int) := by omega
          have m0 : ¬ (m : Int) < 0 := by omega
          have em : IntKind.i64.wrap ((m : Int) + 1) = (m : Int) + 1 := IntWalk.i64_in _ (by omega)
          obtain ⟨b, o, hA, lb, x0⟩ := HR2.out m hlt2 wr HB1.out
          have Hat := Lib.hid (allI_take k.ranks 0 9 hlt2)
          have Hout := Lib.hid (fun h => allI_not (lo := 0) (hi := 9) hlt2 h)
          generalize k.ranks[m] = x at x0 Hat Hout
          have HA1 : Hid (∀ X, Calls Try.prog 66 #[.int .i64 x, .int .i64 0, .int .i64 9] X fun e w' => e = .returned (.bool (inB x 0 9)) ∧ w' = X) := fun X => within_any _ _ _ X
          generalize inB x 0 9 = b1 at HA1 Hat Hout
          rw [hA] at c1
          clear hA
          cases b1 with
          | false =>
            have HV := Lib.hid (HBad.out (HS3.out.trans (by rw [Hout.out rfl]; rfl)))
            go_wp2_with (go_at_call 66; with_reducible refine (HA1.out _).mono ?_; rintro e w' ⟨rfl, rfl⟩)
            go_ret
            exact ⟨ret_intI HV.out.symm, HB1.out⟩
          | true =>
            go_wp2_with (go_at_call 66; with_reducible refine (HA1.out _).mono ?_; rintro e w' ⟨rfl, rfl⟩)
            go_roundw
            case rel => exact ⟨m + 1, by omega, by go_num, (by first | rfl | trivial), by show _ = _; rw [Hat.out, Hall.out]; rfl⟩
            case measure => simp [intOf]; omega
        · have em : m = k.ranks.length := by omega
          have m1 : ¬ (m : Int) < (k.ranks.length : Int) := by omega
          have hall := Hall.out
          rw [em, List.take_length] at hall
          have HS4 : Hid (bookB k = allB k.insured 0 10000) := by show _ = _; rw [HS3.out, hall]; rfl
          clear hall Hall em
          go_wp2_with fail
          obtain ⟨U, hU⟩ : ∃ U, U = wr := ⟨_, rfl⟩
          subst hU
          go_loopw [6] (fun i wr => ∃ n : Nat, n ≤ k.insured.length ∧ i = .int .i64 n ∧ wr = U ∧ Hid (allB (k.insured.take n) 0 10000 = true)) (fun i _ => k.insured.length - (intOf i).toNat)
          case atStart => exact ⟨0, Nat.zero_le _, rfl, rfl, rfl⟩
          case round =>
            obtain ⟨j, hj, rfl, rfl, Hall⟩ := hrel
            by_cases hlt3 : j < k.insured.length
            · have j1 : (j : Int) < (k.insured.length : Int) := by omega
              have j0 : ¬ (j : Int) < 0 := by omega
              have ej : IntKind.i64.wrap ((j : Int) + 1) = (j : Int) + 1 := IntWalk.i64_in _ (by omega)
              obtain ⟨b, o, hA, lb, x0⟩ := HR3.out j hlt3 wr HB1.out
              have Hat := Lib.hid (allI_take k.insured 0 10000 hlt3)
              have Hout := Lib.hid (fun h => allI_not (lo := 0) (hi := 10000) hlt3 h)
              generalize k.insured[j] = x at x0 Hat Hout
              have HA1 : Hid (∀ X, Calls Try.prog 66 #[.int .i64 x, .int .i64 0, .int .i64 10000] X fun e w' => e = .returned (.bool (inB x 0 10000)) ∧ w' = X) := fun X => within_any _ _ _ X
              generalize inB x 0 10000 = b1 at HA1 Hat Hout
              rw [hA] at c2
              clear hA
              cases b1 with
              | false =>
                have HV := Lib.hid (HBad.out (HS4.out.trans (Hout.out rfl)))
                go_wp2_with (go_at_call 66; with_reducible refine (HA1.out _).mono ?_; rintro e w' ⟨rfl, rfl⟩)
                go_ret
                exact ⟨ret_intI HV.out.symm, HB1.out⟩
              | true =>
                go_wp2_with (go_at_call 66; with_reducible refine (HA1.out _).mono ?_; rintro e w' ⟨rfl, rfl⟩)
                go_roundw
                case rel => exact ⟨j + 1, by omega, by go_num, (by first | rfl | trivial), by show _ = _; rw [Hat.out, Hall.out]; rfl⟩
                case measure => simp [intOf]; omega
            · have ej : j = k.insured.length := by omega
              have j1 : ¬ (j : Int) < (k.insured.length : Int) := by omega
              have hall := Hall.out
              rw [ej, List.take_length] at hall
              have HV : Hid (v = 0) := by show _ = _; rw [HE.out, HS4.out, hall]; rfl
              clear hall Hall ej
              go_wp2_with fail
              go_ret
              exact ⟨ret_intI HV.out.symm, HB1.out⟩
end Go.Proofs.Ytaocgkmobfocjaa
