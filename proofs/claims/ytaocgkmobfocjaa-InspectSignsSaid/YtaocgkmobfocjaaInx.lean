/- Contracts of the specification's open and signs. Conditions: a book and entries that read as data; a rule. -/
import Derived.Test.YtaocgkmobfocjaaInw
namespace Go.Proofs.Ytaocgkmobfocjaa
open Go.RowKit

theorem ent_cells {X : World} {B : Nat} {A : Option Addr} {l : List EntZ} (h : Reads X B 5 A l.length (entCells l)) : Hid (∀ (n : Nat) (hn : n < l.length) (Y : World), Below B X Y → B ≤ Y.heap.size → ∃ b o, A = some ⟨b, o, none⟩ ∧ b < Y.heap.size ∧ Y.cell? ⟨b, o + n * 5, none⟩ = some (.int .i64 l[n].day) ∧ Y.cell? ⟨b, o + n * 5 + 1, none⟩ = some (.int .i64 l[n].kind) ∧ Y.cell? ⟨b, o + n * 5 + 2, none⟩ = some (.int .i64 l[n].a) ∧ Y.cell? ⟨b, o + n * 5 + 3, none⟩ = some (.int .i64 l[n].b) ∧ Y.cell? ⟨b, o + n * 5 + 4, none⟩ = some (.int .i64 l[n].c)) := fun n hn Y hY hB => by
  obtain ⟨b, o, h1, h2, h3⟩ := ent_at (h.below hY) hn
  exact ⟨b, o, h1, by omega, h3⟩
theorem last_none_take {p : EntZ → Bool} {l : List EntZ} (h : ∀ i, i < l.length → p (l.getD i default) = false) : (lastS p l).isSome = false := by
  rw [lastS_none.2]
  · rfl
  · intro x hx
    obtain ⟨i, hi, he⟩ := List.getElem_of_mem hx
    have := h i hi
    rw [ent_getD hi, he] at this
    exact this
theorem last_some_at {p : EntZ → Bool} {l : List EntZ} {i : Nat} (hi : i < l.length) (h : p (l.getD i default) = true) : (lastS p l).isSome = true := by
  cases hs : lastS p l with
  | none =>
    have := lastS_none.1 hs _ (List.getElem_mem hi)
    rw [ent_getD hi, this] at h
    cases h
  | some x => rfl
set_option maxRecDepth 100000 in
set_option maxHeartbeats 2000000 in
theorem ropen_any (l : List EntZ) (A : Option Addr) (c B : Nat) (n : Int) (w : World) (hB : B ≤ w.heap.size) (hl : l.length ≤ maxLen) (hr : Reads w B 5 A l.length (entCells l)) :
    Calls Try.prog 54 #[.slice A l.length c, .int .i64 n] w fun e w' => e = .returned (.bool (openS l n)) ∧ w' = w := by
  have HS : Hid (openS l n = (inB n 0 ((l.length : Int) - 1) && (decide ((l.getD n.toNat default).kind = 2) && !(lastS (mendB n) l).isSome))) := rfl
  have HWi : Hid (∀ X, Calls Try.prog 66 #[.int .i64 n, .int .i64 0, .int .i64 ((l.length : Int) - 1)] X fun e w' => e = .returned (.bool (inB n 0 ((l.length : Int) - 1))) ∧ w' = X) := fun X => within_any _ _ _ X
  have hl' := hl
  unfold maxLen at hl'
  have el : IntKind.i64.wrap ((l.length : Int) - 1) = (l.length : Int) - 1 := IntWalk.i64_in _ (by omega)
  generalize openS l n = v at HS ⊢
  cases h0 : inB n 0 ((l.length : Int) - 1) with
  | false =>
    rw [h0] at HS HWi
    have HV : Hid (v = false) := HS.out
    clear h0 HS hr
    go_enter Try.func54, Try.ntmps54
    go_wp2_with (go_at_call 66; with_reducible refine (HWi.out _).mono ?_; rintro e w' ⟨rfl, rfl⟩)
    go_ret
    exact ⟨ret_boolI HV.out.symm, rfl⟩
  | true =>
    rw [h0] at HS HWi
    have hb := inI_le h0
    obtain ⟨i, hi⟩ : ∃ i, i = n.toNat := ⟨_, rfl⟩
    have hn : n = (i : Int) := by omega
    have hil : i < l.length := by omega
    rw [← hi] at HS
    subst hn
    have i0 : ¬ (i : Int) < 0 := by omega
    have i1 : (i : Int) < (l.length : Int) := by omega
    have HEc := ent_cells hr
    obtain ⟨b, o, hA, lb, x0, x1, x2, x3, x4⟩ := HEc.out i hil w (Below.refl _ _) hB
    rw [ent_getD hil] at HS
    generalize l[i] = x at x0 x1 x2 x3 x4 HS
    subst hA
    clear h0 hb hi
    by_cases hk2 : x.kind = 2
    · rw [decide_eq_true hk2] at HS
      rw [hk2] at x1
      have HV : Hid (v = !(lastS (mendB (i : Int)) l).isSome) := HS.out
      clear HS hk2 x0 x2 x3 x4
      go_enter Try.func54, Try.ntmps54
      go_wp2_with (go_at_call 66; with_reducible refine (HWi.out _).mono ?_; rintro e w' ⟨rfl, hw⟩; rw [hw]; clear hw)
      go_loopw [5] (fun q wr => ∃ m : Nat, m ≤ l.length ∧ q = .int .i64 m ∧ wr = w ∧ Hid (∀ j, j < m → mendB (i : Int) (l.getD j default) = false)) (fun q _ => l.length - (intOf q).toNat)
      case atStart => exact ⟨0, Nat.zero_le _, rfl, rfl, fun j hj => absurd hj (Nat.not_lt_zero _)⟩
      case round =>
        obtain ⟨m, hm, rfl, rfl, Hall⟩ := hrel
        by_cases hlt : m < l.length
        · have m1 : (m : Int) < (l.length : Int) := by omega
          have m0 : ¬ (m : Int) < 0 := by omega
          have em : IntKind.i64.wrap ((m : Int) + 1) = (m : Int) + 1 := IntWalk.i64_in _ (by omega)
          obtain ⟨b2, o2, hA, lb2, z0, z1, z2, z3, z4⟩ := HEc.out m hlt _ (Below.refl _ _) hB
          have HX := Lib.hid (ent_getD hlt)
          have HLt := Lib.hid hlt
          generalize l[m] = y at z0 z1 z2 z3 z4 HX
          injection hA with hA
          injection hA with hA1 hA2
          subst hA1 hA2
          by_cases h3 : y.kind = 3
          · rw [h3] at z1
            by_cases ha : y.a = (i : Int)
            · have HV2 : Hid (v = false) := by show _ = _; rw [HV.out, last_some_at hlt (by rw [HX.out]; simp [mendB, h3, ha])]; rfl
              rw [ha] at z2
              clear h3 ha
              go_wp2_with fail
              go_ret
              exact ⟨ret_boolI HV2.out.symm, rfl⟩
            · have HN : Hid (∀ j, j < m + 1 → mendB (i : Int) (l.getD j default) = false) := fun j hj => by
                rcases Nat.lt_or_ge j m with h | h
                · exact Hall.out j h
                · rw [show j = m by omega, HX.out]; simp [mendB, ha]
              have d2 : decide (y.a = (i : Int)) = false := decide_eq_false ha
              clear h3
              go_wp2_with fail
              go_roundw
              case rel => exact ⟨m + 1, by omega, by go_num, (by first | rfl | trivial), HN⟩
              case measure => simp [intOf]; omega
          · have HN : Hid (∀ j, j < m + 1 → mendB (i : Int) (l.getD j default) = false) := fun j hj => by
              rcases Nat.lt_or_ge j m with h | h
              · exact Hall.out j h
              · rw [show j = m by omega, HX.out]; simp [mendB, h3]
            have d1 : decide (y.kind = 3) = false := decide_eq_false h3
            go_wp2_with fail
            go_roundw
            case rel => exact ⟨m + 1, by omega, by go_num, (by first | rfl | trivial), HN⟩
            case measure => simp [intOf]; omega
        · have em : m = l.length := by omega
          have m1 : ¬ (m : Int) < (l.length : Int) := by omega
          have HV2 : Hid (v = true) := by show _ = _; rw [HV.out, last_none_take (fun j hj => Hall.out j (by omega))]; rfl
          clear em hlt
          go_wp2_with fail
          go_ret
          exact ⟨ret_boolI HV2.out.symm, rfl⟩
    · rw [decide_eq_false hk2] at HS
      have HV : Hid (v = false) := HS.out
      have d1 : decide (x.kind = 2) = false := decide_eq_false hk2
      clear HS
      go_enter Try.func54, Try.ntmps54
      go_wp2_with (go_at_call 66; with_reducible refine (HWi.out _).mono ?_; rintro e w' ⟨rfl, rfl⟩)
      go_ret
      exact ⟨ret_boolI HV.out.symm, rfl⟩
set_option maxRecDepth 100000 in
set_option maxHeartbeats 4000000 in
theorem rsigns_any (k : BookZ) (R : BkR) (B i : Nat) (a b : Int) (w : World) (hB : B ≤ w.heap.size) (hk : BkIn w B k R) (hi : i < k.rules.length) :
    Calls Try.prog 71 #[bookV k R, .int .i64 (i : Int), .int .i64 a, .int .i64 b] w fun e w' => e = .returned (.bool (signB k k.rules[i] a b)) ∧ Below w.heap.size w w' := by
  obtain ⟨W, hW⟩ : ∃ W, W = w.alloc (.cells #[.slice R.A1 k.rules.length R.c1, .slice R.A2 k.ranks.length R.c2, .slice R.A3 k.insured.length R.c3] 25) := ⟨_, rfl⟩
  have bW : Below w.heap.size w W := by subst hW; exact (Below.refl _ _).alloc (Nat.le_refl _) _
  have r0 : Row W w.heap.size 25 [.slice R.A1 k.rules.length R.c1, .slice R.A2 k.ranks.length R.c2, .slice R.A3 k.insured.length R.c3] := by subst hW; exact Row.new w _ _
  obtain ⟨zb, hzb⟩ : ∃ z, z = w.heap.size := ⟨_, rfl⟩
  rw [← hzb] at r0
  have q0 : W.cell? ⟨zb, 0, none⟩ = some (.slice R.A1 k.rules.length R.c1) := r0.cell (j := 0) (by simp)
  have lW := r0.lt
  have HBW := Lib.hid bW
  have hl1 := hk.l1
  have hl2 := hk.l2
  unfold maxLen at hl1 hl2
  have er : IntKind.i64.wrap ((k.ranks.length : Int) - 1) = (k.ranks.length : Int) - 1 := IntWalk.i64_in _ (by omega)
  have i0 : ¬ (i : Int) < 0 := by omega
  have i1 : (i : Int) < (k.rules.length : Int) := by omega
  obtain ⟨br, or, hA, hbB, x0, x1, x2, x3⟩ := ru_at (hk.rules.below (bW.mono hB)) hi
  have lbr : br < W.heap.size := by have := bW.size; omega
  have HRk : Hid (∀ (j : Nat) (hj : j < k.ranks.length) (X : World), Below w.heap.size w X → ∃ b o, R.A2 = some ⟨b, o, none⟩ ∧ b < X.heap.size ∧ X.cell? ⟨b, o + j, none⟩ = some (.int .i64 (k.ranks.getD j 0))) := fun j hj X hX => by
    obtain ⟨b, o, h1, h2, h3⟩ := (hk.ranks.below (hX.mono hB)).2 (by omega)
    exact ⟨b, o, h1, by have := hX.size; omega, h3 j _ (by simp [hj])⟩
  generalize k.rules[i] = u at x0 x1 x2 x3 ⊢
  have HS : Hid (signB k u a b = if u.two = false then rankB k a u.rank && decide (b = -1) else (rankB k a u.rank && rankB k b u.rank) && decide (a ≠ b)) := rfl
  have HRa : Hid (rankB k a u.rank = (inB a 0 ((k.ranks.length : Int) - 1) && decide (u.rank ≤ k.ranks.getD a.toNat 0))) := rfl
  have HRb : Hid (rankB k b u.rank = (inB b 0 ((k.ranks.length : Int) - 1) && decide (u.rank ≤ k.ranks.getD b.toNat 0))) := rfl
  generalize signB k u a b = v at HS ⊢
  generalize rankB k a u.rank = ra at HS HRa
  generalize rankB k b u.rank = rb at HS HRb
  have HWa : Hid (∀ X, Calls Try.prog 66 #[.int .i64 a, .int .i64 0, .int .i64 ((k.ranks.length : Int) - 1)] X fun e w' => e = .returned (.bool (inB a 0 ((k.ranks.length : Int) - 1))) ∧ w' = X) := fun X => within_any _ _ _ X
  have HWb : Hid (∀ X, Calls Try.prog 66 #[.int .i64 b, .int .i64 0, .int .i64 ((k.ranks.length : Int) - 1)] X fun e w' => e = .returned (.bool (inB b 0 ((k.ranks.length : Int) - 1))) ∧ w' = X) := fun X => within_any _ _ _ X
  have bY := bW.alloc bW.size (.cells #[.int .i64 u.ride, .int .i64 u.every, .int .i64 u.rank, .bool u.two] 59)
  have rY := Row.new W 59 #[.int .i64 u.ride, .int .i64 u.every, .int .i64 u.rank, .bool u.two]
  have kY := r0.alloc (.cells #[.int .i64 u.ride, .int .i64 u.every, .int .i64 u.rank, .bool u.two] 59)
  unfold bookV at *
  rw [hA] at q0
  clear bW r0 hk hB hA
  go_enter Try.func71, Try.ntmps71
  go_upto_region 1 with fail
  rw [← hW, ← hzb]
  clear hW hzb
  go_upto_region 2 with fail
  generalize W.alloc (.cells #[.int .i64 u.ride, .int .i64 u.every, .int .i64 u.rank, .bool u.two] 59) = Y at bY rY kY ⊢
  generalize W.heap.size = zr at rY ⊢
  have y2 : Y.cell? ⟨zr, 2, none⟩ = some (.int .i64 u.rank) := rY.cell (j := 2) (by simp)
  have y3 : Y.cell? ⟨zr, 3, none⟩ = some (.bool u.two) := rY.cell (j := 3) (by simp)
  have k1 : Y.cell? ⟨zb, 1, none⟩ = some (.slice R.A2 k.ranks.length R.c2) := kY.cell (j := 1) (by simp)
  have lY := rY.lt
  have lK := kY.lt
  have HBY := Lib.hid bY
  clear bY rY kY x0 x1 x2 x3 q0 lbr lW
  cases ha : inB a 0 ((k.ranks.length : Int) - 1) with
  | false =>
    rw [ha] at HWa HRa
    have HV : Hid (v = false) := by show _ = _; rw [HS.out, show ra = false from HRa.out]; simp
    clear ha HS
    go_quiet (first | (go_at_call 66; with_reducible refine Calls.quiet_of_same (HWa.out _)))
    go_wp2_with fail
    go_ret
    exact ⟨ret_boolI HV.out.symm, below_drewN HBY.out _⟩
  | true =>
    rw [ha] at HWa HRa
    have hab := inI_le ha
    obtain ⟨ai, hai⟩ : ∃ n, n = a.toNat := ⟨_, rfl⟩
    have hae : a = (ai : Int) := by omega
    have hal : ai < k.ranks.length := by omega
    rw [← hai] at HRa
    subst hae
    have a0 : ¬ (ai : Int) < 0 := by omega
    have a1 : (ai : Int) < (k.ranks.length : Int) := by omega
    obtain ⟨b1, o1, hA2, lb1, c1⟩ := HRk.out ai hal Y HBY.out
    have HA2 := Lib.hid hA2
    rw [hA2] at k1
    generalize k.ranks.getD ai 0 = r1 at c1 HRa
    clear ha hab hai hA2
    by_cases hlt : r1 < u.rank
    · have HV : Hid (v = false) := by show _ = _; rw [HS.out, show ra = false from HRa.out.trans (by rw [decide_eq_false (by omega)]; rfl)]; simp
      have d1 : decide (r1 < u.rank) = true := decide_eq_true hlt
      clear HS hlt
      go_quiet (first | (go_at_call 66; with_reducible refine Calls.quiet_of_same (HWa.out _)))
      go_wp2_with fail
      go_ret
      exact ⟨ret_boolI HV.out.symm, below_drewN HBY.out _⟩
    · have HRT : Hid (ra = true) := HRa.out.trans (by rw [decide_eq_true (by omega)]; rfl)
      have d1 : decide (r1 < u.rank) = false := decide_eq_false hlt
      rw [HRT.out] at HS
      clear hlt
      cases htw : u.two with
      | false =>
        rw [htw] at y3 HS
        have HV : Hid (v = decide (b = -1)) := HS.out
        clear htw HS
        go_quiet (first | (go_at_call 66; with_reducible refine Calls.quiet_of_same (HWa.out _)))
        go_wp2_with fail
        go_ret
        exact ⟨ret_boolI (Eq.trans (by first | rfl | (rw [Bool.eq_iff_iff]; simp)) HV.out.symm), below_drewN HBY.out _⟩
      | true =>
        rw [htw] at y3 HS
        have HS2 : Hid (v = (rb && decide ((ai : Int) ≠ b))) := HS.out
        clear htw HS
        cases hb : inB b 0 ((k.ranks.length : Int) - 1) with
        | false =>
          rw [hb] at HWb HRb
          have HV : Hid (v = false) := by show _ = _; rw [HS2.out, show rb = false from HRb.out]; rfl
          clear hb
          go_quiet (first | (go_at_call 66; with_reducible refine Calls.quiet_of_same (HWa.out _)))
          clear HWa
          go_upto_region 6 with fail
          have z2 : (Y.drewN nq).cell? ⟨zr, 2, none⟩ = some (.int .i64 u.rank) := y2
          have z1 : (Y.drewN nq).cell? ⟨zb, 1, none⟩ = some (.slice (some ⟨b1, o1, none⟩) k.ranks.length R.c2) := k1
          have mR : zr < (Y.drewN nq).heap.size := lY
          have mB : zb < (Y.drewN nq).heap.size := lK
          have HBZ := Lib.hid (below_drewN HBY.out nq)
          clear HBY y2 y3 k1 lY lK HRk
          generalize Y.drewN nq = Z at *
          go_quiet (first | (go_at_call 66; with_reducible refine Calls.quiet_of_same (HWb.out _)))
          go_wp2_with fail
          go_ret
          exact ⟨ret_boolI HV.out.symm, below_drewN HBZ.out _⟩
        | true =>
          rw [hb] at HWb HRb
          have hbb := inI_le hb
          obtain ⟨bi, hbi⟩ : ∃ n, n = b.toNat := ⟨_, rfl⟩
          have hbe : b = (bi : Int) := by omega
          have hbl : bi < k.ranks.length := by omega
          rw [← hbi] at HRb
          subst hbe
          have b0 : ¬ (bi : Int) < 0 := by omega
          have b1' : (bi : Int) < (k.ranks.length : Int) := by omega
          clear hb hbb hbi
          by_cases hab : bi = ai
          · subst hab
            have HV : Hid (v = false) := by show _ = _; rw [HS2.out]; simp
            go_quiet (first | (go_at_call 66; with_reducible refine Calls.quiet_of_same (HWa.out _)))
            clear HWa
            go_upto_region 6 with fail
            have z2 : (Y.drewN nq).cell? ⟨zr, 2, none⟩ = some (.int .i64 u.rank) := y2
            have z1 : (Y.drewN nq).cell? ⟨zb, 1, none⟩ = some (.slice (some ⟨b1, o1, none⟩) k.ranks.length R.c2) := k1
            have mR : zr < (Y.drewN nq).heap.size := lY
            have mB : zb < (Y.drewN nq).heap.size := lK
            have HBZ := Lib.hid (below_drewN HBY.out nq)
            clear c1 lb1
            clear HBY y2 y3 k1 lY lK HRk
            generalize Y.drewN nq = Z at *
            go_quiet (first | (go_at_call 66; with_reducible refine Calls.quiet_of_same (HWb.out _)))
            go_wp2_with fail
            go_ret
            exact ⟨ret_boolI HV.out.symm, below_drewN HBZ.out _⟩
          · obtain ⟨b2, o2, hA3, lb2, c2⟩ := HRk.out bi hbl Y HBY.out
            rw [HA2.out] at hA3
            injection hA3 with hA3
            injection hA3 with hA4 hA5
            subst hA4 hA5
            generalize k.ranks.getD bi 0 = r2 at c2 HRb
            clear hbl
            have hne : ((bi : Int) == (ai : Int)) = false := by simp; omega
            have hne2 : decide ((bi : Int) = (ai : Int)) = false := by simp; omega
            have hne3 : ¬ (bi : Int) = (ai : Int) := by omega
            have HN3 : Hid (¬ (bi : Int) = (ai : Int)) := hne3
            have HV : Hid (v = decide (u.rank ≤ r2)) := by show _ = _; rw [HS2.out, show rb = decide (u.rank ≤ r2) from HRb.out, decide_eq_true (p := (ai : Int) ≠ (bi : Int)) (by omega), Bool.and_true]
            clear hab
            go_quiet (first | (go_at_call 66; with_reducible refine Calls.quiet_of_same (HWa.out _)))
            clear HWa
            go_upto_region 6 with fail
            have z2 : (Y.drewN nq).cell? ⟨zr, 2, none⟩ = some (.int .i64 u.rank) := y2
            have z1 : (Y.drewN nq).cell? ⟨zb, 1, none⟩ = some (.slice (some ⟨b1, o1, none⟩) k.ranks.length R.c2) := k1
            have mR : zr < (Y.drewN nq).heap.size := lY
            have mB : zb < (Y.drewN nq).heap.size := lK
            have HBZ := Lib.hid (below_drewN HBY.out nq)
            have z4 : (Y.drewN nq).cell? ⟨b1, o1 + bi, none⟩ = some (.int .i64 r2) := c2
            have mC : b1 < (Y.drewN nq).heap.size := lb1
            clear c1 c2 lb1 lb2
            clear HBY y2 y3 k1 lY lK HRk
            generalize Y.drewN nq = Z at *
            go_quiet (first | (go_at_call 66; with_reducible refine Calls.quiet_of_same (HWb.out _)))
            go_wp2_with fail
            go_ret
            exact ⟨ret_boolI (Eq.trans (by first | rfl | (rw [Bool.eq_iff_iff]; simp; done) | (rw [Bool.eq_iff_iff]; simp; intro _ h; exact HN3.out h)) HV.out.symm), below_drewN HBZ.out _⟩
end Go.Proofs.Ytaocgkmobfocjaa
