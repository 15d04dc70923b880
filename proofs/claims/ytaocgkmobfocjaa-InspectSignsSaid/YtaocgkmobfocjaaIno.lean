/- Contracts of inspect's validRule and valid. Conditions: a book that reads as data. -/
import Derived.Test.YtaocgkmobfocjaaInm
namespace Go.Proofs.Ytaocgkmobfocjaa
open Go.RowKit

theorem iall_row (X Z : World) (g c : Nat) (v lo hi : Int) (hZ : Z = X.alloc (.cells #[.int .i64 v] 3)) (hg : g = X.heap.size) : Calls Try.prog 64 #[.int .i64 lo, .int .i64 hi, .slice (some ⟨g, 0, none⟩) 1 c] Z fun e w' => e = .returned (.bool (inB v lo hi)) ∧ w' = Z := by
  subst hZ hg
  exact (iall_one _ _ c v lo hi (Row.new X 3 #[.int .i64 v])).mono fun e w' h => ⟨h.1, h.2.symm⟩
set_option maxRecDepth 100000 in
set_option maxHeartbeats 1000000 in
theorem vrule_any (k : BookZ) (R : BkR) (u : RuZ) (hl : k.insured.length ≤ maxLen) (w : World) : Calls Try.prog 82 #[bookV k R, ruV u] w fun e w' => e = .returned (.bool (ruleB k u)) ∧ Below w.heap.size w w' := by
  obtain ⟨W, hW⟩ : ∃ W, W = (w.alloc (.cells #[.slice R.A1 k.rules.length R.c1, .slice R.A2 k.ranks.length R.c2, .slice R.A3 k.insured.length R.c3] 25)).alloc (.cells #[.int .i64 u.ride, .int .i64 u.every, .int .i64 u.rank, .bool u.two] 59) := ⟨_, rfl⟩
  have bW : Below w.heap.size w W := by subst hW; exact ((Below.refl _ _).alloc (Nat.le_refl _) _).alloc (by simp) _
  have r0 : Row W w.heap.size 25 [.slice R.A1 k.rules.length R.c1, .slice R.A2 k.ranks.length R.c2, .slice R.A3 k.insured.length R.c3] := by subst hW; exact (Row.new w _ _).alloc _
  have r1 : Row W (w.heap.size + 1) 59 [.int .i64 u.ride, .int .i64 u.every, .int .i64 u.rank, .bool u.two] := by
    subst hW
    have h := Row.new (w.alloc (.cells #[.slice R.A1 k.rules.length R.c1, .slice R.A2 k.ranks.length R.c2, .slice R.A3 k.insured.length R.c3] 25)) 59 #[.int .i64 u.ride, .int .i64 u.every, .int .i64 u.rank, .bool u.two]
    rw [World.size_alloc] at h
    exact h
  obtain ⟨zb, hzb⟩ : ∃ z, z = w.heap.size := ⟨_, rfl⟩
  obtain ⟨zr, hzr⟩ : ∃ z, z = w.heap.size + 1 := ⟨_, rfl⟩
  rw [← hzb] at r0
  rw [← hzr] at r1
  have q0 : W.cell? ⟨zb, 0, none⟩ = some (.slice R.A1 k.rules.length R.c1) := r0.cell (j := 0) (by simp)
  have q1 : W.cell? ⟨zb, 1, none⟩ = some (.slice R.A2 k.ranks.length R.c2) := r0.cell (j := 1) (by simp)
  have q2 : W.cell? ⟨zb, 2, none⟩ = some (.slice R.A3 k.insured.length R.c3) := r0.cell (j := 2) (by simp)
  have p0 : W.cell? ⟨zr, 0, none⟩ = some (.int .i64 u.ride) := r1.cell (j := 0) (by simp)
  have lW := r0.lt
  have lP := r1.lt
  have HBW := Lib.hid bW
  have HR1 := Lib.hid r1
  have HA := Lib.hid (isRide_any k R u.ride hl W)
  have HS : Hid (ruleB k u = (inB u.ride 0 ((k.insured.length : Int) - 1) && (inB u.every 1 10000 && inB u.rank 0 9))) := rfl
  generalize ruleB k u = v at HS ⊢
  generalize inB u.ride 0 ((k.insured.length : Int) - 1) = b1 at HA HS
  have H2 : Hid (∀ (X Z : World) (g c : Nat), Z = X.alloc (.cells #[.int .i64 u.every] 3) → g = X.heap.size → Calls Try.prog 64 #[.int .i64 1, .int .i64 10000, .slice (some ⟨g, 0, none⟩) 1 c] Z fun e w' => e = .returned (.bool (inB u.every 1 10000)) ∧ w' = Z) := fun X Z g c => iall_row X Z g c _ _ _
  have H3 : Hid (∀ (X Z : World) (g c : Nat), Z = X.alloc (.cells #[.int .i64 u.rank] 3) → g = X.heap.size → Calls Try.prog 64 #[.int .i64 0, .int .i64 9, .slice (some ⟨g, 0, none⟩) 1 c] Z fun e w' => e = .returned (.bool (inB u.rank 0 9)) ∧ w' = Z) := fun X Z g c => iall_row X Z g c _ _ _
  generalize inB u.every 1 10000 = b2 at H2 HS
  generalize inB u.rank 0 9 = b3 at H3 HS
  unfold bookV ruV at *
  clear bW r0 r1
  cases b1 with
  | false =>
    rw [show v = false from HS.out]
    go_enter Try.func82, Try.ntmps82
    go_upto_region 1 with fail
    rw [← hW, ← hzr, ← hzb]
    clear hW hzr hzb
    go_wp2_with (go_at_call 62; refine HA.out.mono ?_; rintro e X ⟨rfl, hX⟩; have HX := Lib.hid (HBW.out.trans (hX.mono HBW.out.size)); clear hX HA)
    go_ret
    exact ⟨rfl, HX.out⟩
  | true =>
    cases b2 with
    | false =>
      rw [show v = false from HS.out]
      go_enter Try.func82, Try.ntmps82
      go_upto_region 1 with fail
      rw [← hW, ← hzr, ← hzb]
      clear hW hzr hzb
      go_wp2_with (first | (go_at_call 62; refine HA.out.mono ?_; rintro e X ⟨rfl, hX⟩; have HX := Lib.hid (HBW.out.trans (hX.mono HBW.out.size)); have s1 := HR1.out.below hX HR1.out.lt; have m1 : X.cell? ⟨zr, 1, none⟩ = some (.int .i64 u.every) := s1.cell (j := 1) (by simp); have m2 : X.cell? ⟨zr, 2, none⟩ = some (.int .i64 u.rank) := s1.cell (j := 2) (by simp); have lx := s1.lt; have HS1 := Lib.hid s1; clear hX HA s1) | (go_at_call 64; refine (H2.out X _ _ _ rfl rfl).mono ?_; rintro e Y ⟨rfl, rfl⟩))
      go_ret
      exact ⟨rfl, HX.out.alloc HX.out.size _⟩
    | true =>
      rw [show v = b3 from HS.out]
      go_enter Try.func82, Try.ntmps82
      go_upto_region 1 with fail
      rw [← hW, ← hzr, ← hzb]
      clear hW hzr hzb
      go_wp2_with (first | (go_at_call 62; refine HA.out.mono ?_; rintro e X ⟨rfl, hX⟩; have HX := Lib.hid (HBW.out.trans (hX.mono HBW.out.size)); have s1 := HR1.out.below hX HR1.out.lt; have m1 : X.cell? ⟨zr, 1, none⟩ = some (.int .i64 u.every) := s1.cell (j := 1) (by simp); have m2 : X.cell? ⟨zr, 2, none⟩ = some (.int .i64 u.rank) := s1.cell (j := 2) (by simp); have lx := s1.lt; have HS1 := Lib.hid s1; clear hX HA s1) | (go_at_call 64; refine (H2.out X _ _ _ rfl rfl).mono ?_; rintro e Y ⟨rfl, rfl⟩; clear H2) | (go_at_call 64; refine (H3.out (X.alloc (.cells #[.int .i64 u.every] 3)) _ _ _ rfl (by simp)).mono ?_; rintro e Y ⟨rfl, rfl⟩))
      go_ret
      exact ⟨rfl, (HX.out.alloc HX.out.size _).alloc (by have := HX.out.size; simp; omega) _⟩
theorem all_take {α : Type} [Inhabited α] (p : α → Bool) (l : List α) {n : Nat} (h : n < l.length) : (l.take (n + 1)).all p = ((l.take n).all p && p l[n]) := by
  rw [List.take_succ_eq_append_getElem h, List.all_append]; simp
theorem all_out {α : Type} {p : α → Bool} {l : List α} {n : Nat} (h : n < l.length) (hp : p l[n] = false) : l.all p = false := by
  rw [List.all_eq_false]
  exact ⟨l[n], List.getElem_mem h, by rw [hp]; decide⟩
set_option maxRecDepth 100000 in
set_option maxHeartbeats 2000000 in
theorem valid_any (k : BookZ) (R : BkR) (B : Nat) (w : World) (hB : B ≤ w.heap.size) (hk : BkIn w B k R) : Calls Try.prog 61 #[bookV k R] w fun e w' => e = .returned (.bool (bookB k)) ∧ Below w.heap.size w w' := by
  obtain ⟨W, hW⟩ : ∃ W, W = w.alloc (.cells #[.slice R.A1 k.rules.length R.c1, .slice R.A2 k.ranks.length R.c2, .slice R.A3 k.insured.length R.c3] 25) := ⟨_, rfl⟩
  have bW : Below w.heap.size w W := by subst hW; exact (Below.refl _ _).alloc (Nat.le_refl _) _
  have r0 : Row W w.heap.size 25 [.slice R.A1 k.rules.length R.c1, .slice R.A2 k.ranks.length R.c2, .slice R.A3 k.insured.length R.c3] := by subst hW; exact Row.new w _ _
  obtain ⟨zb, hzb⟩ : ∃ z, z = w.heap.size := ⟨_, rfl⟩
  rw [← hzb] at r0
  have q0 : W.cell? ⟨zb, 0, none⟩ = some (.slice R.A1 k.rules.length R.c1) := r0.cell (j := 0) (by simp)
  have q1 : W.cell? ⟨zb, 1, none⟩ = some (.slice R.A2 k.ranks.length R.c2) := r0.cell (j := 1) (by simp)
  have q2 : W.cell? ⟨zb, 2, none⟩ = some (.slice R.A3 k.insured.length R.c3) := r0.cell (j := 2) (by simp)
  have lW := r0.lt
  have HBW := Lib.hid bW
  have HR0 := Lib.hid r0
  have hl1 := hk.l1
  have hl3 := hk.l3
  unfold maxLen at hl1
  have HRd : Hid (∀ (i : Nat) (hi : i < k.rules.length) (X : World), Below w.heap.size w X → ∃ b o, R.A1 = some ⟨b, o, none⟩ ∧ b < X.heap.size ∧ X.cell? ⟨b, o + i * 4, none⟩ = some (.int .i64 k.rules[i].ride) ∧ X.cell? ⟨b, o + i * 4 + 1, none⟩ = some (.int .i64 k.rules[i].every) ∧ X.cell? ⟨b, o + i * 4 + 2, none⟩ = some (.int .i64 k.rules[i].rank) ∧ X.cell? ⟨b, o + i * 4 + 3, none⟩ = some (.bool k.rules[i].two)) := fun i hi X hX => by
    obtain ⟨b, o, h1, h2, h3⟩ := ru_at (hk.rules.below (hX.mono hB)) hi
    exact ⟨b, o, h1, by have := hX.size; omega, h3⟩
  have HVr : Hid (∀ (u : RuZ) (X : World), Calls Try.prog 82 #[bookV k R, ruV u] X fun e w' => e = .returned (.bool (ruleB k u)) ∧ Below X.heap.size X w') := fun u X => vrule_any k R u hl3 X
  have HA2 : Hid (∀ (X : World), Below w.heap.size w X → Calls Try.prog 64 #[.int .i64 0, .int .i64 9, .slice R.A2 k.ranks.length R.c2] X fun e w' => e = .returned (.bool (allB k.ranks 0 9)) ∧ w' = X) := fun X hX => (iall_any k.ranks R.A2 _ R.c2 B 0 9 X (hk.ranks.below (hX.mono hB)) hk.l2).mono fun e w' h => ⟨h.1, h.2.symm⟩
  have HA3 : Hid (∀ (X : World), Below w.heap.size w X → Calls Try.prog 64 #[.int .i64 0, .int .i64 10000, .slice R.A3 k.insured.length R.c3] X fun e w' => e = .returned (.bool (allB k.insured 0 10000)) ∧ w' = X) := fun X hX => (iall_any k.insured R.A3 _ R.c3 B 0 10000 X (hk.insured.below (hX.mono hB)) hk.l3).mono fun e w' h => ⟨h.1, h.2.symm⟩
  have HS : Hid (bookB k = ((decide (k.rules.length ≤ 20) && (decide (k.ranks.length ≤ 8) && decide (k.insured.length ≤ 10))) && (k.rules.all (ruleB k) && (allB k.ranks 0 9 && allB k.insured 0 10000)))) := rfl
  generalize allB k.ranks 0 9 = b2 at HA2 HS
  generalize allB k.insured 0 10000 = b3 at HA3 HS
  generalize bookB k = v at HS ⊢
  unfold bookV at *
  clear bW r0 hk hB hl3
  by_cases h1 : 20 < k.rules.length
  · have d1 : decide ((20 : Int) < (k.rules.length : Int)) = true := by simp; omega
    rw [show v = false from HS.out.trans (by rw [decide_eq_false (by omega)]; rfl)]
    clear h1
    go_enter Try.func61, Try.ntmps61
    go_upto_region 1 with fail
    rw [← hW, ← hzb]
    clear hW hzb
    go_wp2_with fail
    go_ret
    exact ⟨rfl, HBW.out⟩
  have d1 : decide ((20 : Int) < (k.rules.length : Int)) = false := by simp; omega
  by_cases h2 : 8 < k.ranks.length
  · have d2 : decide ((8 : Int) < (k.ranks.length : Int)) = true := by simp; omega
    rw [show v = false from HS.out.trans (by rw [decide_eq_false (p := k.ranks.length ≤ 8) (by omega)]; simp)]
    clear h1 h2
    go_enter Try.func61, Try.ntmps61
    go_upto_region 1 with fail
    rw [← hW, ← hzb]
    clear hW hzb
    go_wp2_with fail
    go_ret
    exact ⟨rfl, HBW.out⟩
  have d2 : decide ((8 : Int) < (k.ranks.length : Int)) = false := by simp; omega
  by_cases h3 : 10 < k.insured.length
  · have d3 : decide ((10 : Int) < (k.insured.length : Int)) = true := by simp; omega
    rw [show v = false from HS.out.trans (by rw [decide_eq_false (p := k.insured.length ≤ 10) (by omega)]; simp)]
    clear h1 h2 h3
    go_enter Try.func61, Try.ntmps61
    go_upto_region 1 with fail
    rw [← hW, ← hzb]
    clear hW hzb
    go_wp2_with fail
    go_ret
    exact ⟨rfl, HBW.out⟩
  have d3 : decide ((10 : Int) < (k.insured.length : Int)) = false := by simp; omega
  have HS2 : Hid (v = (k.rules.all (ruleB k) && (b2 && b3))) := by
    show _ = _
    rw [HS.out, decide_eq_true (by omega), decide_eq_true (by omega), decide_eq_true (by omega)]; rfl
  clear h1 h2 h3 HS
  go_enter Try.func61, Try.ntmps61
  go_upto_region 1 with fail
  rw [← hW, ← hzb]
  clear hW hzb
  go_wp2_with fail
  go_loopw [24] (fun i wr => ∃ n : Nat, n ≤ k.rules.length ∧ i = .int .i64 n ∧ Below W.heap.size W wr ∧ Hid ((k.rules.take n).all (ruleB k) = true)) (fun i _ => k.rules.length - (intOf i).toNat)
  case atStart => exact ⟨0, Nat.zero_le _, rfl, Below.refl _ _, rfl⟩
  case round =>
    obtain ⟨n, hn, rfl, hbel, Hall⟩ := hrel
    have HB1 := Lib.hid (HBW.out.trans (hbel.mono HBW.out.size))
    have HBL := Lib.hid hbel
    have s0 := HR0.out.below hbel HR0.out.lt
    have lz := s0.lt
    have HS0 := Lib.hid s0
    by_cases hlt : n < k.rules.length
    · have n1 : (n : Int) < (k.rules.length : Int) := by omega
      have n0 : ¬ (n : Int) < 0 := by omega
      have en : IntKind.i64.wrap ((n : Int) + 1) = (n : Int) + 1 := IntWalk.i64_in _ (by omega)
      obtain ⟨b, o, hA, lb, x0, x1, x2, x3⟩ := HRd.out n hlt wr HB1.out
      have Hat := Lib.hid (all_take (ruleB k) k.rules hlt)
      have Hout := Lib.hid (fun h => all_out (p := ruleB k) hlt h)
      generalize k.rules[n] = u at x0 x1 x2 x3 Hat Hout
      have HV1 := Lib.hid (HVr.out u (wr.alloc (.cells #[.int .i64 u.ride, .int .i64 u.every, .int .i64 u.rank, .bool u.two] 59)))
      unfold ruV at HV1
      generalize ruleB k u = bu at HV1 Hat Hout
      rw [hA]
      have c0 : wr.cell? ⟨zb, 0, none⟩ = some (.slice R.A1 k.rules.length R.c1) := s0.cell (j := 0) (by simp)
      have c1 : wr.cell? ⟨zb, 1, none⟩ = some (.slice R.A2 k.ranks.length R.c2) := s0.cell (j := 1) (by simp)
      have c2 : wr.cell? ⟨zb, 2, none⟩ = some (.slice R.A3 k.insured.length R.c3) := s0.cell (j := 2) (by simp)
      rw [hA] at c0 HV1
      clear hbel s0 hA
      cases bu with
      | false =>
        go_wp2_with (go_at_call 82; refine HV1.out.mono ?_; rintro e X ⟨rfl, hX⟩; have HX := Lib.hid ((HB1.out.alloc HB1.out.size (.cells #[.int .i64 u.ride, .int .i64 u.every, .int .i64 u.rank, .bool u.two] 59)).trans (hX.mono (by have := HB1.out.size; simp; omega))); clear hX HV1)
        go_ret
        exact ⟨ret_boolI (HS2.out.trans (by rw [Hout.out (by simp)]; rfl)).symm, HX.out⟩
      | true =>
        go_wp2_with (go_at_call 82; refine HV1.out.mono ?_; rintro e X ⟨rfl, hX⟩; have HYX := Lib.hid ((HBL.out.alloc HBL.out.size (.cells #[.int .i64 u.ride, .int .i64 u.every, .int .i64 u.rank, .bool u.two] 59)).trans (hX.mono (by have := HBL.out.size; simp; omega))); clear hX HV1)
        go_roundw
        case rel => exact ⟨n + 1, by omega, by go_num, HYX.out, by show _ = _; rw [Hat.out, Hall.out]; rfl⟩
        case measure => simp [intOf]; omega
    · have en : n = k.rules.length := by omega
      have n1 : ¬ (n : Int) < (k.rules.length : Int) := by omega
      have c1 : wr.cell? ⟨zb, 1, none⟩ = some (.slice R.A2 k.ranks.length R.c2) := s0.cell (j := 1) (by simp)
      have c2 : wr.cell? ⟨zb, 2, none⟩ = some (.slice R.A3 k.insured.length R.c3) := s0.cell (j := 2) (by simp)
      have hall := Hall.out
      rw [en, List.take_length] at hall
      have HS3 : Hid (v = (b2 && b3)) := by show _ = _; rw [HS2.out, hall]; rfl
      clear hall Hall en hbel s0
      cases b2 with
      | false =>
        go_wp2_with (go_at_call 64; refine (HA2.out wr HB1.out).mono ?_; rintro e X ⟨rfl, rfl⟩)
        go_ret
        exact ⟨ret_boolI HS3.out.symm, HB1.out⟩
      | true =>
        go_wp2_with (first | (go_at_call 64; refine (HA2.out wr HB1.out).mono ?_; rintro e X ⟨rfl, rfl⟩; clear HA2) | (go_at_call 64; refine (HA3.out _ HB1.out).mono ?_; rintro e X ⟨rfl, rfl⟩))
        go_ret
        exact ⟨ret_boolI HS3.out.symm, HB1.out⟩
end Go.Proofs.Ytaocgkmobfocjaa
