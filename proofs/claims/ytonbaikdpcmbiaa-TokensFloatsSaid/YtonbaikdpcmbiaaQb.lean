/- Contract of what Float tells itself of each deal. Conditions: the arguments read as data. -/
import Derived.Test.YtonbaikdpcmbiaaIa
import Derived.Test.YtonbaikdpcmbiaaWx
import Derived.Test.YtonbaikdpcmbiaaWm
import Derived.Test.YtonbaikdpcmbiaaWn
/- Plain facts of Float: how a fair stands with other cash at first; the least cash with which all can be paid. No program, no memory. -/
namespace Go.Proofs.Ytonbaikdpcmbiaa
open Go.RowKit

theorem geti_put2 (l : List Int) (i k : Nat) (x : Int) (h : i < l.length) : geti (l.set i x) k = if k = i then x else geti l k := by
  simp only [geti, Int.toNat_natCast, List.getElem?_set]
  by_cases e : i = k
  · subst e; simp [h]
  · have : ¬ k = i := fun h => e h.symm
    simp [e, this]
/-- One list is another one less a third one, place by place. -/
def Sh (dl c1 cs : List Int) : Prop := c1.length = cs.length ∧ ∀ i : Nat, i < cs.length → geti c1 i = geti cs i - geti dl i
theorem Sh.add {dl c1 cs : List Int} (h : Sh dl c1 cs) (a : Nat) (ha : a < cs.length) (x : Int) (b1 : -9223372036854775808 ≤ geti c1 a + x) (b2 : geti c1 a + x ≤ 9223372036854775807) (b3 : -9223372036854775808 ≤ geti cs a + x) (b4 : geti cs a + x ≤ 9223372036854775807) :
    Sh dl (addi c1 a x) (addi cs a x) := by
  refine ⟨by simp [addi, h.1], fun i hi => ?_⟩
  simp only [addi, List.length_set, Int.toNat_natCast] at hi ⊢
  rw [geti_put2 _ _ _ _ (by rw [h.1]; exact ha), geti_put2 _ _ _ _ ha, wrap64_id b1 b2, wrap64_id b3 b4]
  have h1 := h.2 i hi
  have h2 := h.2 a ha
  split
  · subst_vars; omega
  · exact h1
theorem Sh.sub {dl c1 cs : List Int} (h : Sh dl c1 cs) (a : Nat) (ha : a < cs.length) (x : Int) (b1 : -9223372036854775808 ≤ geti c1 a - x) (b2 : geti c1 a - x ≤ 9223372036854775807) (b3 : -9223372036854775808 ≤ geti cs a - x) (b4 : geti cs a - x ≤ 9223372036854775807) :
    Sh dl (subi c1 a x) (subi cs a x) := by
  refine ⟨by simp [subi, h.1], fun i hi => ?_⟩
  simp only [subi, List.length_set, Int.toNat_natCast] at hi ⊢
  rw [geti_put2 _ _ _ _ (by rw [h.1]; exact ha), geti_put2 _ _ _ _ ha, wrap64_id b1 b2, wrap64_id b3 b4]
  have h1 := h.2 i hi
  have h2 := h.2 a ha
  split
  · subst_vars; omega
  · exact h1

section
variable {F : Fair} {C C' : Count} {e : Deal} (c1 : List Int)
theorem ride_c : rideS F {C with cash := c1} e = (rideS F C e).map fun X => {X with cash := c1} := by
  unfold rideS fareS
  dsimp only
  by_cases h : (!isPurse F e.a || !isBox F e.b || !inB e.n 0 1000) = true
  · rw [if_pos h, if_pos h]; rfl
  · rw [if_neg h, if_neg h]
    by_cases h : (getp C.purses e.a).tokens < if e.at_ < (getp C.purses e.a).til then 0 else e.n
    · rw [if_pos h, if_pos h]; rfl
    · rw [if_neg h, if_neg h]; rfl
theorem empty_c : emptyS F {C with cash := c1} e = (emptyS F C e).map fun X => {X with cash := c1} := by
  unfold emptyS
  dsimp only
  by_cases h : (!isTill F e.a || !isBox F e.b || e.n != 0) = true
  · rw [if_pos h, if_pos h]; rfl
  · rw [if_neg h, if_neg h]; rfl
theorem give_c : giveS F {C with cash := c1} e = (giveS F C e).map fun X => {X with cash := c1} := by
  unfold giveS hasB
  dsimp only
  by_cases h : (!isPurse F e.a || !isPurse F e.b || e.a == e.b || !inB e.n 1 (min (getp C.purses e.a).tokens 100000)) = true
  · rw [if_pos h, if_pos h]; rfl
  · rw [if_neg h, if_neg h]; rfl
theorem lose_c : loseS F {C with cash := c1} e = (loseS F C e).map fun X => {X with cash := c1} := by
  unfold loseS hasB
  dsimp only
  by_cases h : (!isPurse F e.a || e.b != 0 || !inB e.n 1 (min (getp C.purses e.a).tokens 100000)) = true
  · rw [if_pos h, if_pos h]; rfl
  · rw [if_neg h, if_neg h]; rfl
theorem ride_k (h : rideS F C e = some C') : C'.cash = C.cash := by
  unfold rideS at h
  split at h
  · cases h
  · split at h
    · cases h
    · injection h with h; subst h; rfl
theorem empty_k (h : emptyS F C e = some C') : C'.cash = C.cash := by
  unfold emptyS at h
  split at h
  · cases h
  · injection h with h; subst h; rfl
theorem give_k (h : giveS F C e = some C') : C'.cash = C.cash := by
  unfold giveS at h
  split at h
  · cases h
  · injection h with h; subst h; rfl
theorem lose_k (h : loseS F C e = some C') : C'.cash = C.cash := by
  unfold loseS at h
  split at h
  · cases h
  · injection h with h; subst h; rfl
end

/-- What a deal makes of the same fair with other cash: it is not possible, as there is too little in a till; or the cash goes on to differ as before. -/
theorem step_sh {F : Fair} (hb : Bounds F) {C C' : Count} {T m : Int} (h : Inv F C T m) (hm : 0 ≤ m ∧ m ≤ 1000000000000) (c1 dl : List Int) (hsh : Sh dl c1 C.cash) (hc1 : ∀ i : Nat, i < C.cash.length → 0 ≤ geti c1 i ∧ geti c1 i ≤ m) (e : Deal) (hs : stepS F C e = some C') :
    (stepS F {C with cash := c1} e = none ∧ ∃ i : Nat, i < C'.cash.length ∧ geti C'.cash i < geti dl i) ∨ ∃ c', stepS F {C with cash := c1} e = some {C' with cash := c'} ∧ Sh dl c' C'.cash := by
  have same : ∀ (f : Fair → Count → Deal → Option Count), f F {C with cash := c1} e = (f F C e).map (fun X => {X with cash := c1}) → (f F C e = some C') → C'.cash = C.cash → ∃ c', f F {C with cash := c1} e = some {C' with cash := c'} ∧ Sh dl c' C'.cash :=
    fun f h1 h2 h3 => ⟨c1, by rw [h1, h2]; rfl, by rw [h3]; exact hsh⟩
  have cb : ∀ k : Nat, k < F.stock.length → 0 ≤ geti C.cash k ∧ geti C.cash k ≤ m := fun k hk => cash_bd h hk
  have n2 := h.n2
  unfold stepS at hs ⊢
  by_cases k1 : e.kind = 1
  · rw [if_pos k1] at hs ⊢
    right
    unfold sellS at hs ⊢
    dsimp only at hs ⊢
    split at hs
    · cases hs
    · rename_i g1
      split at hs
      · cases hs
      · rename_i g2
        injection hs with hs
        subst hs
        rw [if_neg g1, if_neg g2]
        simp only [Bool.or_eq_true, Bool.not_eq_true', not_or, Bool.not_eq_false] at g1
        obtain ⟨⟨ht, hp⟩, hn⟩ := g1
        obtain ⟨a, ea, ha⟩ := isTill_nat ht
        have hn' := inB_iff.1 hn
        obtain ⟨n, en⟩ := Int.eq_ofNat_of_zero_le hn'.1
        have hbu := hb.bu (getb F.bundles n) (by
          simp only [getb, Int.toNat_natCast, List.getElem?_eq_getElem (show n < F.bundles.length by omega), Option.getD_some]; exact List.getElem_mem _)
        have q1 := cb a ha
        have q2 := hc1 a (by omega)
        refine ⟨addi c1 e.a (getb F.bundles e.n).price, rfl, ?_⟩
        rw [ea, en]
        exact hsh.add a (by omega) _ (by omega) (by omega) (by omega) (by omega)
  rw [if_neg k1] at hs ⊢
  by_cases k2 : e.kind = 2
  · rw [if_pos k2] at hs ⊢
    exact .inr (same rideS (ride_c c1) hs (ride_k hs))
  rw [if_neg k2] at hs ⊢
  by_cases k3 : e.kind = 3
  · rw [if_pos k3] at hs ⊢
    right
    unfold bandS at hs ⊢
    dsimp only at hs ⊢
    split at hs
    · cases hs
    · rename_i g1
      injection hs with hs
      subst hs
      rw [if_neg g1]
      simp only [Bool.or_eq_true, Bool.not_eq_true', not_or, Bool.not_eq_false] at g1
      obtain ⟨⟨ht, hp⟩, hn⟩ := g1
      obtain ⟨a, ea, ha⟩ := isTill_nat ht
      have q1 := cb a ha
      have q2 := hc1 a (by omega)
      have q3 := hb.d1
      have q4 := hb.d2
      refine ⟨addi c1 e.a F.band, rfl, ?_⟩
      rw [ea]
      exact hsh.add a (by omega) _ (by omega) (by omega) (by omega) (by omega)
  rw [if_neg k3] at hs ⊢
  by_cases k4 : e.kind = 4
  · rw [if_pos k4] at hs ⊢
    unfold backS hasB at hs ⊢
    dsimp only at hs ⊢
    split at hs
    · cases hs
    · rename_i g1
      split at hs
      · cases hs
      · rename_i g2
        injection hs with hs
        subst hs
        rw [if_neg g1]
        simp only [Bool.or_eq_true, Bool.not_eq_true', not_or, Bool.not_eq_false] at g1
        obtain ⟨⟨ht, hp⟩, hn⟩ := g1
        obtain ⟨a, ea, ha⟩ := isTill_nat ht
        have hn' := inB_iff.1 hn
        have q1 := cb a ha
        have q2 := hc1 a (by omega)
        have q3 := hb.r1
        have q4 := hb.r2
        have q5 := mul_bd (show 0 ≤ e.n by omega) (show e.n ≤ 100000 by omega) q3 q4
        have ew : wrap64 (e.n * F.refund) = e.n * F.refund := wrap64_id (by omega) (by omega)
        rw [ew] at g2 ⊢
        rw [ea] at g2 ⊢
        have q6 := hsh.2 a (by omega)
        by_cases g3 : geti c1 a < e.n * F.refund
        · left
          rw [if_pos g3]
          refine ⟨rfl, a, by simp [subi]; omega, ?_⟩
          simp only [subi, Int.toNat_natCast]
          rw [geti_put2 _ _ _ _ (by omega), if_pos rfl, wrap64_id (by omega) (by omega)]
          omega
        · right
          rw [if_neg g3]
          refine ⟨subi c1 a (e.n * F.refund), rfl, ?_⟩
          exact hsh.sub a (by omega) _ (by omega) (by omega) (by omega) (by omega)
  rw [if_neg k4] at hs ⊢
  by_cases k5 : e.kind = 5
  · rw [if_pos k5] at hs ⊢
    exact .inr (same emptyS (empty_c c1) hs (empty_k hs))
  rw [if_neg k5] at hs ⊢
  by_cases k6 : e.kind = 6
  · rw [if_pos k6] at hs ⊢
    exact .inr (same giveS (give_c c1) hs (give_k hs))
  rw [if_neg k6] at hs ⊢
  by_cases k7 : e.kind = 7
  · rw [if_pos k7] at hs ⊢
    exact .inr (same loseS (lose_c c1) hs (lose_k hs))
  rw [if_neg k7] at hs
  cases hs

/-- The fair with other cash. -/
abbrev withC (F : Fair) (c : List Int) : Fair := { F with cash := c }
/-- The fair with as much cash as there may be. -/
abbrev richS (F : Fair) : Fair := withC F (List.replicate F.cash.length 1000000)
theorem withC_valid {F : Fair} (hv : validB F = true) (c : List Int) (hl : c.length = F.cash.length) (hc : ∀ i : Nat, i < c.length → 0 ≤ geti c i ∧ geti c i ≤ 1000000) : validB (withC F c) = true := by
  have ha : allB c 0 1000000 = true := by
    refine List.all_eq_true.2 fun x hx => ?_
    obtain ⟨i, hi, rfl⟩ := List.mem_iff_getElem.1 hx
    have := hc i hi
    simp only [geti, Int.toNat_natCast, List.getElem?_eq_getElem hi, Option.getD_some] at this
    exact inB_iff.2 this
  simp only [validB, sizesB, tillsB, pricesB, bundlesB, Bool.and_eq_true] at hv ⊢
  rw [hl]
  exact ⟨⟨⟨hv.1.1.1, hv.1.1.2.1, ha⟩, hv.1.2⟩, hv.2⟩
theorem geti_repl (n : Nat) (x : Int) (i : Nat) (h : i < n) : geti (List.replicate n x) i = x := by simp [geti, h]
theorem rich_valid {F : Fair} (hv : validB F = true) : validB (richS F) = true :=
  withC_valid hv _ (by simp) fun i hi => by rw [geti_repl _ _ _ (by simpa using hi)]; omega
theorem goS_none (F : Fair) (l : List Deal) (k : Nat) (hk : k < l.length) (h : goS F l k = none) : goS F l (k + 1) = none := by
  unfold goS at *
  rw [List.take_succ_eq_append_getElem hk, runS_append, h]
theorem goS_prev (F : Fair) (l : List Deal) (k : Nat) (hk : k < l.length) (x : Count × Int) (h : goS F l (k + 1) = some x) : ∃ y, goS F l k = some y := by
  cases h1 : goS F l k with
  | none => rw [goS_none F l k hk h1] at h; cases h
  | some y => exact ⟨y, rfl⟩
/-- The runs of two fairs that differ in their cash. -/
theorem run_sh {F : Fair} (_hv : validB F = true) (c r : List Int) (h1 : validB (withC F c) = true) (h2 : validB (withC F r) = true) {l : List Deal} (hl : l.length ≤ 200) (dl : List Int) (hsh : Sh dl c r) : ∀ k, k ≤ l.length → ∀ C t, goS (withC F r) l k = some (C, t) →
    (goS (withC F c) l k = none ∧ ∃ (j : Nat) (Cj : Count) (tj : Int) (i : Nat), j ≤ k ∧ goS (withC F r) l j = some (Cj, tj) ∧ i < Cj.cash.length ∧ geti Cj.cash i < geti dl i) ∨
    ∃ c', goS (withC F c) l k = some ({C with cash := c'}, t) ∧ Sh dl c' C.cash := by
  intro k
  induction k with
  | zero =>
    intro _ C t hg
    right
    simp only [goS, List.take_zero, runS, Option.some.injEq, Prod.mk.injEq] at hg ⊢
    obtain ⟨rfl, rfl⟩ := hg
    exact ⟨c, ⟨rfl, rfl⟩, hsh⟩
  | succ k ih =>
    intro hk C t hg
    obtain ⟨⟨C0, t0⟩, hg0⟩ := goS_prev _ l k (by omega) _ hg
    have hs := goS_succ _ l k (by omega) C0 t0 hg0
    rw [hg] at hs
    rcases ih (by omega) C0 t0 hg0 with ⟨hn, j, Cj, tj, i, a1, a2, a3, a4⟩ | ⟨c0, hc0, hsh0⟩
    · exact .inl ⟨goS_none _ l k (by omega) hn, j, Cj, tj, i, by omega, a2, a3, a4⟩
    · have hs1 := goS_succ _ l k (by omega) _ t0 hc0
      obtain ⟨i1, _⟩ := go_inv h2 hl hg0
      obtain ⟨i2, _⟩ := go_inv h1 hl hc0
      by_cases hin : inB (getd l k).at_ t0 1440 = true
      · rw [if_pos hin] at hs hs1
        cases hst : stepS (withC F r) C0 (getd l k) with
        | none => rw [hst] at hs; cases hs
        | some C1 =>
          rw [hst] at hs
          simp only [Option.some.injEq, Prod.mk.injEq] at hs
          obtain ⟨rfl, rfl⟩ := hs
          have e1 : stepS (withC F c) {C0 with cash := c0} (getd l k) = stepS (withC F r) {C0 with cash := c0} (getd l k) := rfl
          have hcb : ∀ i : Nat, i < C0.cash.length → 0 ≤ geti c0 i ∧ geti c0 i ≤ 1000000000 := fun i hi => cash_bd i2 (by have := i1.n2; dsimp only [withC] at this ⊢; omega)
          rcases step_sh (bounds_of h2) i1 (by omega) c0 dl hsh0 hcb (getd l k) hst with ⟨hn, i, hi, hlt⟩ | ⟨c', hs', hsh'⟩
          · rw [e1, hn] at hs1
            exact .inl ⟨hs1, k + 1, C, _, i, Nat.le_refl _, hg, hi, hlt⟩
          · rw [e1, hs'] at hs1
            exact .inr ⟨c', hs1, hsh'⟩
      · rw [if_neg hin] at hs; cases hs

/-- What is needed more, place by place. -/
def maxC (ns cs : List Int) : List Int := List.zipWith (fun n c => max n (1000000 - c)) ns cs
/-- The least cash at first behind k deals. -/
def needK (F : Fair) (l : List Deal) : Nat → List Int
  | 0 => List.replicate F.cash.length 0
  | k + 1 => match goS F l (k + 1) with | none => needK F l k | some (C, _) => maxC (needK F l k) C.cash
theorem maxC_at (ns cs : List Int) (i : Nat) (h1 : i < ns.length) (h2 : i < cs.length) : geti (maxC ns cs) i = max (geti ns i) (1000000 - geti cs i) := by
  simp [maxC, geti, List.getElem?_zipWith, List.getElem?_eq_getElem h1, List.getElem?_eq_getElem h2]
theorem needK_facts {F : Fair} (hv : validB F = true) (hr : ∀ i : Nat, i < F.cash.length → geti F.cash i = 1000000) {l : List Deal} (hl : l.length ≤ 200) : ∀ k, k ≤ l.length → (∃ x, goS F l k = some x) →
    (needK F l k).length = F.cash.length ∧
    (∀ i : Nat, i < F.cash.length → 0 ≤ geti (needK F l k) i ∧ geti (needK F l k) i ≤ 1000000) ∧
    (∀ j C t, j ≤ k → goS F l j = some (C, t) → ∀ i : Nat, i < F.cash.length → 1000000 - geti C.cash i ≤ geti (needK F l k) i) ∧
    (∀ i : Nat, i < F.cash.length → ∃ j C t, j ≤ k ∧ goS F l j = some (C, t) ∧ geti (needK F l k) i = 1000000 - geti C.cash i) := by
  intro k
  have hbd := bounds_of hv
  induction k with
  | zero =>
    intro _ _
    have h0 : goS F l 0 = some (beginS F, 0) := by simp [goS, runS]
    refine ⟨by simp [needK], fun i hi => by rw [needK, geti_repl _ _ _ hi]; omega, fun j C t hj hg i hi => ?_, fun i hi => ⟨0, beginS F, 0, Nat.le_refl _, h0, ?_⟩⟩
    · have : j = 0 := by omega
      subst this
      rw [h0] at hg
      simp only [Option.some.injEq, Prod.mk.injEq] at hg
      obtain ⟨rfl, rfl⟩ := hg
      have := hr i hi
      rw [needK, geti_repl _ _ _ hi]
      simp only [beginS]; omega
    · have := hr i hi
      rw [needK, geti_repl _ _ _ hi]
      simp only [beginS]; omega
  | succ k ih =>
    intro hk hx
    obtain ⟨⟨C, t⟩, hg⟩ := hx
    obtain ⟨y, hy⟩ := goS_prev F l k (by omega) _ hg
    obtain ⟨i1, i2, i3, i4⟩ := ih (by omega) ⟨y, hy⟩
    obtain ⟨inv, _⟩ := go_inv hv hl hg
    have n2 := inv.n2
    have hcl := hbd.c
    have e : needK F l (k + 1) = maxC (needK F l k) C.cash := by rw [needK, hg]
    have hat : ∀ i : Nat, i < F.cash.length → geti (needK F l (k + 1)) i = max (geti (needK F l k) i) (1000000 - geti C.cash i) := fun i hi => by rw [e, maxC_at _ _ _ (by omega) (by omega)]
    refine ⟨by rw [e]; simp [maxC]; omega, fun i hi => ?_, fun j Cj tj hj hgj i hi => ?_, fun i hi => ?_⟩
    · have := i2 i hi
      have := cash_bd inv (k := i) (by omega)
      rw [hat i hi]; omega
    · rw [hat i hi]
      rcases Nat.lt_or_ge k j with h | h
      · have : j = k + 1 := by omega
        subst this
        rw [hg] at hgj
        simp only [Option.some.injEq, Prod.mk.injEq] at hgj
        obtain ⟨rfl, rfl⟩ := hgj
        omega
      · have := i3 j Cj tj h hgj i hi; omega
    · rw [hat i hi]
      obtain ⟨j, Cj, tj, a1, a2, a3⟩ := i4 i hi
      rcases Int.le_total (geti (needK F l k) i) (1000000 - geti C.cash i) with h | h
      · exact ⟨k + 1, C, t, Nat.le_refl _, hg, by omega⟩
      · exact ⟨j, Cj, tj, by omega, a2, by omega⟩

/-- What Float answers. -/
def floatS (F : Fair) (l : List Deal) : List Int × Int :=
  if validB F = false then ([], 10) else if errS (richS F) l = 0 then (needK (richS F) l l.length, 0) else ([], errS (richS F) l)
theorem err_go {F : Fair} {l : List Deal} (hv : validB F = true) (hl : l.length ≤ 200) : errS F l = if goS F l l.length = none then 11 else 0 := by
  have h2 : ¬ 200 < l.length := by omega
  cases h : goS F l l.length <;> simp [errS, hv, h2, h]
theorem err_zero {F : Fair} {l : List Deal} (h : errS F l = 0) : validB F = true ∧ l.length ≤ 200 ∧ ∃ x, goS F l l.length = some x := by
  unfold errS at h
  by_cases hv : validB F = false
  · rw [if_pos hv] at h; cases h
  rw [if_neg hv] at h
  by_cases h2 : 200 < l.length
  · rw [if_pos h2] at h; cases h
  rw [if_neg h2] at h
  cases hg : goS F l l.length with
  | none => rw [hg] at h; cases h
  | some x => exact ⟨by simpa using hv, by omega, x, rfl⟩
section
variable {F : Fair} {l : List Deal} (hv : validB F = true) (he : errS (richS F) l = 0)
include hv he
omit hv in
theorem float_facts : (needK (richS F) l l.length).length = F.cash.length ∧ (∀ i : Nat, i < F.cash.length → 0 ≤ geti (needK (richS F) l l.length) i ∧ geti (needK (richS F) l l.length) i ≤ 1000000) := by
  obtain ⟨h1, h2, x, h3⟩ := err_zero he
  obtain ⟨a, b, _⟩ := needK_facts h1 (fun i hi => geti_repl _ _ _ (by simpa using hi)) h2 l.length (Nat.le_refl _) ⟨x, h3⟩
  simp only [List.length_replicate] at a b
  exact ⟨a, b⟩
/-- With this cash all deals are right. -/
theorem float_ok : errS (withC F (needK (richS F) l l.length)) l = 0 := by
  obtain ⟨h1, h2, ⟨C, t⟩, h3⟩ := err_zero he
  obtain ⟨a, b⟩ := float_facts he
  obtain ⟨_, _, c3, _⟩ := needK_facts h1 (fun i hi => geti_repl _ _ _ (by simpa using hi)) h2 l.length (Nat.le_refl _) ⟨_, h3⟩
  simp only [List.length_replicate] at c3
  have hw := withC_valid hv (needK (richS F) l l.length) a (fun i hi => b i (by omega))
  rw [err_go hw h2]
  generalize needK (richS F) l l.length = ns at *
  have hsh : Sh ((List.range F.cash.length).map fun i : Nat => 1000000 - geti ns i) ns (List.replicate F.cash.length 1000000) := by
    refine ⟨by simp [a], fun i hi => ?_⟩
    simp only [List.length_replicate] at hi
    rw [geti_repl _ _ _ hi]
    simp [geti, hi]
    omega
  rcases run_sh hv ns _ hw h1 h2 _ hsh l.length (Nat.le_refl _) C t h3 with ⟨_, j, Cj, tj, i, a1, a2, a3, a4⟩ | ⟨c', hc', _⟩
  · exfalso
    have n2 := (go_inv h1 h2 a2).1.n2
    have hcl := (bounds_of hv).c
    have hi : i < F.cash.length := by dsimp only [withC] at n2; omega
    have := c3 j Cj tj a1 a2 i hi
    simp [geti, hi] at a4
    simp [geti] at this
    omega
  · rw [hc']; simp
/-- With one cent less in a till they are not. -/
theorem float_less (i : Nat) (hi : i < F.cash.length) (hp : geti (needK (richS F) l l.length) i ≠ 0) : errS (withC F ((needK (richS F) l l.length).set i (geti (needK (richS F) l l.length) i - 1))) l = 11 := by
  obtain ⟨h1, h2, ⟨C, t⟩, h3⟩ := err_zero he
  obtain ⟨a, b⟩ := float_facts he
  obtain ⟨_, _, _, c4⟩ := needK_facts h1 (fun i hi => geti_repl _ _ _ (by simpa using hi)) h2 l.length (Nat.le_refl _) ⟨_, h3⟩
  simp only [List.length_replicate] at c4
  obtain ⟨j, Cj, tj, a1, a2, a3⟩ := c4 i hi
  generalize needK (richS F) l l.length = ns at *
  have hset : ∀ k : Nat, geti (ns.set i (geti ns i - 1)) k = if k = i then geti ns i - 1 else geti ns k := fun k => geti_put2 ns i k _ (by omega)
  have hw := withC_valid hv (ns.set i (geti ns i - 1)) (by simp [a]) (fun k hk => by
    simp only [List.length_set] at hk
    have h4 := b k (by omega)
    have h5 := b i hi
    rw [hset]
    split <;> omega)
  rw [err_go hw h2]
  generalize ns.set i (geti ns i - 1) = cs at *
  have hcs : cs.length = F.cash.length := by
    have e1 := (bounds_of hw).c
    have e2 := (bounds_of hv).c
    dsimp only [withC] at e1
    omega
  have hsh : Sh ((List.range F.cash.length).map fun i : Nat => 1000000 - geti cs i) cs (List.replicate F.cash.length 1000000) := by
    refine ⟨by simp [hcs], fun i hi => ?_⟩
    simp only [List.length_replicate] at hi
    rw [geti_repl _ _ _ hi]
    simp [geti, hi]
    omega
  rw [if_pos]
  rcases run_sh hv cs _ hw h1 h2 _ hsh j (by
    rcases Nat.lt_or_ge l.length j with h | h
    · omega
    · exact h) Cj tj a2 with ⟨hn, _⟩ | ⟨c', hc', hsh'⟩
  · have : ∀ d, j + d ≤ l.length → goS (withC F cs) l (j + d) = none := by
      intro d
      induction d with
      | zero => intro _; exact hn
      | succ d ih => intro h; exact goS_none _ l (j + d) (by omega) (ih (by omega))
    have := this (l.length - j) (by omega)
    rwa [show j + (l.length - j) = l.length from by omega] at this
  · exfalso
    have inv := (go_inv hw h2 hc').1
    have inv2 := (go_inv h1 h2 a2).1
    have hcl := (bounds_of hv).c
    have q1 := (cash_bd inv (k := i) (by dsimp only [withC]; omega)).1
    have n2 := inv2.n2
    dsimp only [withC] at n2
    have q2 := hsh'.2 i (by omega)
    have q3 := hset i
    rw [if_pos rfl] at q3
    have q4 : geti ((List.range F.cash.length).map fun i : Nat => 1000000 - geti cs i) i = 1000000 - geti cs i := by simp [geti, hi]
    dsimp only at q1
    omega
end
end Go.Proofs.Ytonbaikdpcmbiaa
/- Contract of follow, over any function that is told of each deal and changes but blocks that neither the fair nor the deals lie in. Conditions: the arguments read as data. -/
namespace Go.Proofs.Ytonbaikdpcmbiaa
open Go.RowKit

theorem StandIn.keptF {T t3 t62 : TypeId} {w w' : World} {B : Nat} {F : Fair} {R : Refs} {L : Locs} {C : Count} {M : List Nat} (h : StandIn T t3 t62 w B F R L C) (hb : KeptBut M w w') (hM : ∀ x ∈ M, x ∉ L.all) (hF : FairIn w' B F R) : StandIn T t3 t62 w' B F R L C := by
  have hn : ∀ g ∈ L.all, g ∉ M := fun g hg hm => hM g hm hg
  exact ⟨h.box.kept hb (hn _ (by simp [Locs.all])), h.r1.kept hb (hn _ (by simp [Locs.all])), h.r2.kept hb (hn _ (by simp [Locs.all])), h.r3.kept hb (hn _ (by simp [Locs.all])), h.r4.kept hb (hn _ (by simp [Locs.all])), h.n1, h.n2, h.n3, h.n4, h.ne, h.lo, hF, h.val⟩
/-- The end of follow where all deals are right: the result's own block has been written, nothing else. -/
theorem fin_okg {w wr w' : World} {B : Nat} {F : Fair} {R : Refs} {l : List Deal} {Ls M : List Nat} {P : Nat → World → Prop} {C : Count} {t : Int} {L : Locs} (hval : validB F = true) (h200 : l.length ≤ 200) (hgo : goS F l l.length = some (C, t))
    (hSr : Std wr B F R L C) (hPk : P l.length wr) (hKr : KeptBut Ls w wr) (hM : KeptBut M wr w') (hM1 : M = [w.heap.size + 1]) (hLs : ∀ g ∈ Ls, g < w.heap.size)
    (hP : ∀ k x x', (∀ g ∈ Ls, g < x.heap.size ∧ x'.heap[g]? = x.heap[g]?) → P k x → P k x') (hB : B ≤ w.heap.size) (hL0 : ∀ x ∈ L.all, w.heap.size + 2 ≤ x) :
    FPost w B F R l Ls P (.returned (.tuple #[standV F R L C, .int .i64 0, .int .i64 0])) w' := by
  subst hM1
  refine ⟨?_, .inr (.inr (.inr ⟨hval, h200, C, t, L, hgo, ?_, fun x hx => by have := hL0 x hx; omega, ?_, rfl⟩))⟩
  · exact ⟨hM.os.trans hKr.os, hM.tape.trans hKr.tape, hM.output.trans hKr.output, Nat.le_trans hKr.size hM.size, fun k hk hn => (hM.block k (by have := hKr.size; omega) (by simp; omega)).trans (hKr.block k hk hn)⟩
  · exact StandIn.kept hSr hM fun x hx => by
      simp at hx; subst hx
      exact ⟨by omega, fun hm => by have := hL0 _ hm; omega⟩
  · exact hP _ _ _ (fun g hg => ⟨by have := hLs g hg; have := hKr.size; omega, hM.block g (by have := hLs g hg; have := hKr.size; omega) (by have := hLs g hg; simp; omega)⟩) hPk

set_option maxHeartbeats 1000000 in
set_option maxRecDepth 100000 in
theorem follow_gen (F : Fair) (R : Refs) (l : List Deal) (A : Option Addr) (c B : Nat) (w : World) (fid : FuncId) (caps : Array Value) (Ls : List Nat) (P : Nat → World → Prop)
    (hB : B ≤ w.heap.size) (hF : FairIn w B F R) (hl : Reads w B 5 A l.length (dealCells l)) (hn : l.length ≤ maxLen)
    (hLs : ∀ g ∈ Ls, g < w.heap.size) (hP : ∀ k x x', (∀ g ∈ Ls, g < x.heap.size ∧ x'.heap[g]? = x.heap[g]?) → P k x → P k x') (h0 : P 0 w)
    (hfid : ∀ a w, Sem.run Try.prog (callFunc fid a) w = Result.ok (Next.enter fid a) w)
    (hFk : ∀ x, KeptBut Ls w x → FairIn x B F R ∧ Reads x B 5 A l.length (dealCells l))
    (hsee : l.length ≤ 200 → SeeOk fid caps B w.heap.size F R l Ls P) :
    Calls Try.prog 45 #[fairV F R, .slice A l.length c, .func (.func fid) #[] caps] w (FPost w B F R l Ls P) := by
  unfold maxLen at hn
  have b0 := (Below.refl w.heap.size w).alloc (Nat.le_refl _) (.cells (fairCells F R) 25)
  have b1 := b0.alloc (by simp) (.cells zeros.toArray 80)
  have F1 := hF.below (b1.mono hB)
  unfold fairV
  go_enter Try.func45, Try.ntmps45
  go_wp2_with fail
  refine (valid_any F R _ B (by simp; omega) F1).mono ?_
  rintro e w1 ⟨rfl, hb1⟩
  obtain ⟨hc1, hf1⟩ := bcell hb1
  have z1 : w.heap.size + 2 ≤ w1.heap.size := by have := hb1.size; simp at this; omega
  have hv : w.heap.size < w1.heap.size := by omega
  have hv' : w.heap.size + 1 < w1.heap.size := by omega
  have B1 : Below w.heap.size w w1 := below_step b1 hb1
  have F2 := hF.below (B1.mono hB)
  have hK1 : KeptBut Ls w w1 := KeptBut.of_below B1
  have rz : Row w1 (w.heap.size + 1) 80 zeros := by
    have := Row.new (w.alloc (.cells (fairCells F R) 25)) 80 zeros.toArray
    exact Row.below (by simpa using this) hb1 (by simp)
  cases hval : validB F with
  | false =>
    go_wp2_with fail
    refine bodyPost_ret (v := .tuple #[.agg zeros.toArray, .int .i64 0, .int .i64 10]) (by simp [results, Try.results45, go_sem, *]) rfl ?_
    exact ⟨by repeat (first | (with_reducible exact hK1) | (with_reducible refine KeptBut.setNew ?_ (by simp) _)), .inl ⟨hval, rfl⟩⟩
  | true =>
    have hbd := bounds_of hval
    rcases Nat.lt_or_ge 200 l.length with h200 | h200
    · have h200' : (200 : Int) < (l.length : Int) := by omega
      go_wp2_with fail
      refine bodyPost_ret (v := .tuple #[.agg zeros.toArray, .int .i64 0, .int .i64 2]) (by simp [results, Try.results45, go_sem, *]) rfl ?_
      exact ⟨by repeat (first | (with_reducible exact hK1) | (with_reducible refine KeptBut.setNew ?_ (by simp) _)), .inr (.inl ⟨hval, h200, rfl⟩)⟩
    · have h200' : decide ((200 : Int) < (l.length : Int)) = false := by simp; omega
      go_wp2_with fail
      refine (begin_any F R _ B (by omega) F2 hval).mono ?_
      rintro e w2 ⟨g1, g2, g3, g4, c1, c2, c3, c4, hb2, rfl, e1, e2, e3, e4, hnd, r1, r2, r3, r4⟩
      rw [show (Value.slice (some (⟨g2, 0, none⟩ : Addr)) F.cash.length c2) = .slice (some ⟨g2, 0, none⟩) F.stock.length c2 from by rw [hbd.c]]
      obtain ⟨L, hL⟩ : ∃ L : Locs, L = ⟨w2.heap.size, g1, g2, g3, g4, c1, c2, c3, c4⟩ := ⟨_, rfl⟩
      have s2 := hb2.size
      have s2' : w.heap.size ≤ w2.heap.size := by omega
      have B2 : Below w.heap.size w w2 := below_step B1 hb2
      have rz2 := rz.below hb2 (by omega)
      have hS : Std (w2.alloc (.cells (standCells F R L (beginS F)).toArray 80)) B F R L (beginS F) := by
        subst hL
        refine ⟨by simpa using Row.new w2 80 (standCells F R _ (beginS F)).toArray, r1.alloc _, r2.alloc _, r3.alloc _, r4.alloc _, rfl, hbd.c, by simp [beginS], by simp [beginS], ?_, ?_, (hF.below (B2.mono hB)).alloc (by omega) _, hval⟩
        · have q1 := r1.lt; have q2 := r2.lt; have q3 := r3.lt; have q4 := r4.lt
          simp only [Locs.all, List.nodup_cons, List.mem_cons, List.not_mem_nil, or_false, not_or] at hnd ⊢
          exact ⟨⟨by omega, by omega, by omega, by omega⟩, hnd⟩
        · simp [Locs.all]; omega
      have hL0 : ∀ x ∈ L.all, w1.heap.size ≤ x := by subst hL; simp [Locs.all]; omega
      have hbs : L.bs = w2.heap.size := by subst hL; rfl
      have hg : L.g1 = g1 ∧ L.g2 = g2 ∧ L.g3 = g3 ∧ L.g4 = g4 ∧ L.c1 = c1 ∧ L.c2 = c2 ∧ L.c3 = c3 ∧ L.c4 = c4 := by subst hL; exact ⟨rfl, rfl, rfl, rfl, rfl, rfl, rfl, rfl⟩
      obtain ⟨rfl, rfl, rfl, rfl, rfl, rfl, rfl, rfl⟩ := hg
      have P2 : P 0 w2 := hP 0 w w2 (fun g hgm => ⟨hLs g hgm, B2.block g (hLs g hgm)⟩) h0
      clear hL e1 e2 e3 e4 hnd r1 r2 r3 r4 rz
      have HB := Lib.hid hbs
      clear hbs
      go_wp2_with fail
      rw [← HB.out]
      have hK2 : KeptBut Ls w (w2.alloc (.cells (standCells F R L (beginS F)).toArray 80)) := KeptBut.of_below (B2.alloc s2' _)
      have rz3 := rz2.alloc (.cells (standCells F R L (beginS F)).toArray 80)
      have P3 : P 0 (w2.alloc (.cells (standCells F R L (beginS F)).toArray 80)) := hP 0 _ _ (fun g hgm => ⟨by have := hLs g hgm; omega, Below.heap_alloc _ _ _ (by have := hLs g hgm; omega)⟩) P2
      have hlen : Hid (w.heap.size + 2 ≤ w1.heap.size) := z1
      go_loopw [10, 25] (fun clk i wr => ∃ (k : Nat) (C : Count) (t : Int), k ≤ l.length ∧ i = .int .i64 k ∧ clk = .int .i64 t ∧ goS F l k = some (C, t) ∧ Std wr B F R L C ∧ KeptBut Ls w wr ∧ P k wr ∧ Row wr (w.heap.size + 1) 80 zeros) (fun _ i _ => l.length - (intOf i).toNat)
      case atStart => exact ⟨0, beginS F, 0, Nat.zero_le _, rfl, rfl, rfl, hS, hK2, P3, rz3⟩
      case round =>
        obtain ⟨k, C, t, hk, rfl, rfl, hgo, hSr, hKr, hPk, rzr⟩ := hrel
        have Hgo := Lib.hid hgo
        clear hgo
        obtain ⟨y0, y1, y2, y3, y4⟩ := Std.sizes hSr
        obtain ⟨hzf, x0, x1, x2, x3, x4, x5, x6, x7, x8, x9, x10, x11, x12⟩ := zcells rzr
        have hzl := rzr.lt
        by_cases hlt : k < l.length
        · obtain ⟨db, d0, rfl, hdb, q0, q1, q2, q3, q4⟩ := (hFk wr hKr).2.at5 hlt
          have hdb' : db < wr.heap.size := by have := hSr.size; omega
          obtain ⟨d, hd⟩ : ∃ d, d = getd l k := ⟨_, rfl⟩
          rw [← hd] at q0 q1 q2 q3 q4
          have HD := Lib.hid hd
          clear hd
          have hlt' : (k : Int) < (l.length : Int) := by omega
          by_cases hin : inB d.at_ t 1440 = true
          · go_wp2_with (go_at_call 59; refine (within_any _ _ _ _).mono ?_; rintro e w' ⟨rfl, rfl⟩)
            have hSd := hSr.alloc (.cells #[.int .i64 d.at_, .int .i64 d.kind, .int .i64 d.a, .int .i64 d.b, .int .i64 d.n] 65)
            refine (happen_any d hSd).mono ?_
            intro e w4 hp
            cases hst : stepS F C d with
            | none =>
              rw [hst] at hp
              obtain ⟨rfl, hb4⟩ := hp
              have Hst := Lib.hid hst
              clear hst
              have rz4 := (rzr.alloc (.cells #[.int .i64 d.at_, .int .i64 d.kind, .int .i64 d.a, .int .i64 d.b, .int .i64 d.n] 65)).below hb4 (by simp; omega)
              have hK4 := (hKr.alloc (.cells #[.int .i64 d.at_, .int .i64 d.kind, .int .i64 d.a, .int .i64 d.b, .int .i64 d.n] 65)).below hb4
              clear hzf x0 x1 x2 x3 x4 x5 x6 x7 x8 x9 x10 x11 x12
              obtain ⟨hzf, x0, x1, x2, x3, x4, x5, x6, x7, x8, x9, x10, x11, x12⟩ := zcells rz4
              go_wp2_with fail
              refine bodyPost_ret (v := .tuple #[.agg zeros.toArray, .int .i64 k, .int .i64 11]) (by simp [results, Try.results45, go_sem, *]) rfl ?_
              have hbad := bad_at F l k hlt C t Hgo.out (by rw [goS_succ F l k hlt C t Hgo.out, ← HD.out, hin, Hst.out]; rfl)
              refine ⟨by repeat (first | (with_reducible exact hK4) | (with_reducible refine KeptBut.setNew ?_ (by simp) _)), .inr (.inr (.inl ⟨hval, h200, hbad.1, ?_⟩))⟩
              rw [hbad.2]
            | some C' =>
              rw [hst] at hp
              obtain ⟨rfl, hS4, hk4⟩ := hp
              have Hst := Lib.hid hst
              clear hst
              have hnm : w.heap.size + 1 ∉ L.all := fun hm => by have := hL0 _ hm; omega
              have hnr : wr.heap.size ∉ L.all := fun hm => by simp [Locs.all] at hm; omega
              have rz4 := (rzr.alloc (.cells #[.int .i64 d.at_, .int .i64 d.kind, .int .i64 d.a, .int .i64 d.b, .int .i64 d.n] 65)).kept hk4 hnm
              have rd4 := (Row.new wr 65 #[.int .i64 d.at_, .int .i64 d.kind, .int .i64 d.a, .int .i64 d.b, .int .i64 d.n]).kept hk4 hnr
              have z4 := hk4.size
              have hK4 : KeptBut Ls w w4 := ⟨hk4.os.trans hKr.os, hk4.tape.trans hKr.tape, hk4.output.trans hKr.output, by have := hKr.size; simp at z4; omega, fun g hg hn => (hk4.block g (by have := hKr.size; simp; omega) (fun hm => by have := hL0 _ hm; omega)).trans ((Below.heap_alloc _ _ _ (by have := hKr.size; omega)).trans (hKr.block g hg hn))⟩
              have P4 : P k w4 := hP k wr w4 (fun g hg => ⟨by have := hLs g hg; have := hKr.size; omega, (hk4.block g (by have := hLs g hg; have := hKr.size; simp; omega) (fun hm => by have := hL0 _ hm; have := hLs g hg; omega)).trans (Below.heap_alloc _ _ _ (by have := hLs g hg; have := hKr.size; omega))⟩) hPk
              have w0 : w4.cell? ⟨wr.heap.size, 0, none⟩ = some (.int .i64 d.at_) := rd4.cell (j := 0) (by simp)
              have wk1 : w4.cell? ⟨wr.heap.size, 1, none⟩ = some (.int .i64 d.kind) := rd4.cell (j := 1) (by simp)
              have wk2 : w4.cell? ⟨wr.heap.size, 2, none⟩ = some (.int .i64 d.a) := rd4.cell (j := 2) (by simp)
              have wk3 : w4.cell? ⟨wr.heap.size, 3, none⟩ = some (.int .i64 d.b) := rd4.cell (j := 3) (by simp)
              have wk4 : w4.cell? ⟨wr.heap.size, 4, none⟩ = some (.int .i64 d.n) := rd4.cell (j := 4) (by simp)
              clear hzf x0 x1 x2 x3 x4 x5 x6 x7 x8 x9 x10 x11 x12 q0 q1 q2 q3 q4 hnr hnm
              obtain ⟨hd0, hd1, hd2, hd3, hd4, hd5, hd6, hd7, hd8, hd9, hd10, hd11, hd12⟩ := scells hS4
              go_wp2_with fail
              have hgo' := goS_succ F l k hlt C t Hgo.out
              rw [← HD.out, hin, Hst.out] at hgo'
              have Hgo' := Lib.hid hgo'
              clear hgo'
              have hd := HD.out
              subst hd
              refine (hsee h200 k C C' t w4 L hlt Hgo.out Hst.out Hgo'.out hS4 (fun y hy => by have := hL0 y hy; omega) hK4.size P4).mono ?_
              rintro e w5 ⟨rfl, hk5, hp5⟩
              have z5 := hk5.size
              have hK5 := hK4.trans hk5
              have hS5 : Std w5 B F R L C' := StandIn.keptF hS4 hk5 (fun g hg hm => by have := hL0 _ hm; have := hLs g hg; omega) (hFk w5 hK5).1
              have rz5 := rz4.kept hk5 (fun hm => by have := hLs _ hm; omega)
              have zz : wr.heap.size < w5.heap.size := by simp at z4; omega
              have w0' : w5.cell? ⟨wr.heap.size, 0, none⟩ = some (.int .i64 (getd l k).at_) := ((rd4.kept hk5 (fun hm => by have := hLs _ hm; have := hKr.size; omega)).cell (j := 0) (by simp))
              clear hd0 hd1 hd2 hd3 hd4 hd5 hd6 hd7 hd8 hd9 hd10 hd11 hd12 w0 wk1 wk2 wk3 wk4
              go_wp2_with fail
              go_roundw
              case rel => exact ⟨k + 1, C', (getd l k).at_, by omega, by go_num, rfl, Hgo'.out, hS5, hK5, hp5, rz5⟩
              case measure => simp [intOf]; omega
          · have hin' : inB d.at_ t 1440 = false := by simpa using hin
            clear hin
            go_wp2_with (go_at_call 59; refine (within_any _ _ _ _).mono ?_; rintro e w' ⟨rfl, rfl⟩)
            refine bodyPost_ret (v := .tuple #[.agg zeros.toArray, .int .i64 k, .int .i64 11]) (by simp [results, Try.results45, go_sem, *]) rfl ?_
            have hbad := bad_at F l k hlt C t Hgo.out (by rw [goS_succ F l k hlt C t Hgo.out, ← HD.out, hin']; rfl)
            refine ⟨by repeat (first | (with_reducible exact hKr) | (with_reducible refine KeptBut.alloc ?_ _) | (with_reducible refine KeptBut.setNew ?_ (by simp) _)), .inr (.inr (.inl ⟨hval, h200, hbad.1, ?_⟩))⟩
            rw [hbad.2]
        · have ek : k = l.length := by omega
          have hge : ¬ (k : Int) < (l.length : Int) := by omega
          obtain ⟨hd0, hd1, hd2, hd3, hd4, hd5, hd6, hd7, hd8, hd9, hd10, hd11, hd12⟩ := scells hSr
          clear ek
          go_wp2_with fail
          refine bodyPost_ret (v := .tuple #[standV F R L C, .int .i64 0, .int .i64 0]) (by simp [results, Try.results45, go_sem, *]) rfl ?_
          have ek : k = l.length := by omega
          subst ek
          refine fin_okg hval h200 Hgo.out hSr hPk hKr (M := [w.heap.size + 1]) (by repeat (first | (with_reducible exact KeptBut.refl _ _) | (with_reducible refine KeptBut.set ?_ (by simp) _))) (by simp) hLs hP hB (fun x hx => by have := hL0 x hx; omega)
end Go.Proofs.Ytonbaikdpcmbiaa
namespace Go.Proofs.Ytonbaikdpcmbiaa
open Go.RowKit

/-- What is needed, while the first j tills have been looked at. -/
def mixN (ns cs : List Int) (j : Nat) : List Int := maxC (ns.take j) (cs.take j) ++ ns.drop j
theorem mixN_len (ns cs : List Int) (j : Nat) (hl : ns.length = cs.length) (hj : j ≤ ns.length) : (mixN ns cs j).length = ns.length := by
  simp [mixN, maxC]; omega
theorem mixN_zero (ns cs : List Int) : mixN ns cs 0 = ns := by simp [mixN, maxC]
theorem mixN_all (ns cs : List Int) (j : Nat) (h1 : ns.length ≤ j) (h2 : cs.length ≤ j) : mixN ns cs j = maxC ns cs := by
  simp [mixN, List.take_of_length_le h1, List.take_of_length_le h2, List.drop_of_length_le h1]
theorem mixN_at (ns cs : List Int) (j : Nat) (hl : ns.length = cs.length) (hj : j < ns.length) : geti (mixN ns cs j) j = geti ns j := by
  have e : (maxC (ns.take j) (cs.take j)).length = j := by simp [maxC]; omega
  simp only [mixN, geti, Int.toNat_natCast]
  rw [List.getElem?_append_right (by omega), e]
  simp
theorem mixN_succ (ns cs : List Int) (j : Nat) (hl : ns.length = cs.length) (hj : j < ns.length) : mixN ns cs (j + 1) = (mixN ns cs j).set j (max (geti ns j) (1000000 - geti cs j)) := by
  have e : (maxC (ns.take j) (cs.take j)).length = j := by simp [maxC]; omega
  have hj2 : j < cs.length := by omega
  simp only [mixN]
  rw [List.set_append_right _ _ (by omega), e, Nat.sub_self, List.drop_eq_getElem_cons hj, List.set_cons_zero]
  rw [List.take_succ_eq_append_getElem hj, List.take_succ_eq_append_getElem hj2]
  simp only [maxC]
  rw [List.zipWith_append (by simp; omega)]
  simp [geti, List.getElem?_eq_getElem hj, List.getElem?_eq_getElem hj2]
theorem int_set2 (l : List Int) (i : Nat) (x : Int) : (intCells l).set i (.int .i64 x) = intCells (l.set i x) := by simp [intCells, List.map_set]
theorem int_at2 {w : World} {g : Nat} {t : TypeId} {l : List Int} (h : Row w g t (intCells l)) {k : Nat} (hk : k < l.length) : w.cell? ⟨g, k, none⟩ = some (.int .i64 (geti l k)) := by
  rw [h.cell (by simpa [intCells] using hk)]
  simp [intCells, geti, List.getElem?_eq_getElem hk]
theorem i64w2 (x : Int) : IntKind.i64.wrap x = wrap64 x := by rw [IntKind.wrap_i64]; unfold wrap64; rfl

/-- The needs behind k deals, and the variable that leads to them. -/
def NeedP (gv gn : Nat) (F : Fair) (l : List Deal) (k : Nat) (x : World) : Prop :=
  Row x gv 22 [.slice (some ⟨gn, 0, none⟩) F.stock.length F.stock.length] ∧ Row x gn 3 (intCells (needK F l k))
theorem needK_succ (F : Fair) (l : List Deal) (k : Nat) (C : Count) (t : Int) (h : goS F l (k + 1) = some (C, t)) : needK F l (k + 1) = maxC (needK F l k) C.cash := by
  rw [needK, h]

set_option maxHeartbeats 1000000 in
set_option maxRecDepth 100000 in
theorem need_ok2 (B N gv gn : Nat) (F : Fair) (R : Refs) (l : List Deal) (hl : l.length ≤ 200) (hgg : gv ≠ gn) (hr : ∀ i : Nat, i < F.cash.length → geti F.cash i = 1000000) (hgn : gv < N ∧ gn < N) :
    SeeOk 58 #[.pointer (some ⟨gv, 0, none⟩)] B N F R l [gv, gn] (NeedP gv gn F l) := by
  intro k C C' t x L hk hgo hst hgo' hS hL hN hp
  have hv := hS.val
  obtain ⟨inv, _⟩ := go_inv hv hl hgo'
  have hcl := (bounds_of hv).c
  obtain ⟨nl, nb, _⟩ := needK_facts hv hr hl k (by omega) ⟨_, hgo⟩
  have n2 := inv.n2
  have cb := fun i (hi : i < F.stock.length) => cash_bd inv hi
  have hsucc := needK_succ F l k C' _ hgo'
  obtain ⟨pv, pn⟩ := hp
  unfold NeedP
  rw [hsucc]
  have hS1 := StandIn.alloc hS (.cells #[.int .i64 (getd l k).at_, .int .i64 (getd l k).kind, .int .i64 (getd l k).a, .int .i64 (getd l k).b, .int .i64 (getd l k).n] 65)
  have hr2 := hS.r2
  have hs8 := (bounds_of hv).s2
  have hg2 : L.g2 ≠ gn := fun h => by have := hL L.g2 (by simp [Locs.all]); omega
  have hg2l := hr2.lt
  generalize needK F l k = ns at *
  generalize hd : getd l k = d at *
  obtain ⟨at_, kind, da, db, dn⟩ := d
  clear hgo hgo' hsucc hd hk hst hS1 hS
  simp only [List.push_toArray, Array.append_singleton, List.cons_append, List.nil_append]
  go_enter Try.func58, Try.ntmps58
  go_wp2_with fail
  go_loopw [11] (fun i wr => ∃ j : Nat, j ≤ F.stock.length ∧ i = .int .i64 j ∧ KeptBut [gn] x wr ∧ Row wr gn 3 (intCells (mixN ns C'.cash j))) (fun i _ => F.stock.length - (intOf i).toNat)
  case atStart => exact ⟨0, Nat.zero_le _, rfl, ((KeptBut.refl _ _).alloc _).alloc _, by rw [mixN_zero]; exact (pn.alloc _).alloc _⟩
  case round =>
    obtain ⟨j, hj, rfl, hkp, hrow⟩ := hrel
    by_cases hlt : j < F.stock.length
    · have hlt' : (j : Int) < (F.stock.length : Int) := by omega
      have rv := pv.kept hkp (by simpa using hgg)
      have rc := hr2.kept hkp (by simpa using hg2)
      have v0 : wr.cell? ⟨gv, 0, none⟩ = some (.slice (some ⟨gn, 0, none⟩) F.stock.length F.stock.length) := rv.cell (j := 0) (by simp)
      have c0 := int_at2 rc (k := j) (by omega)
      have c1 := int_at2 hrow (k := j) (by rw [mixN_len _ _ _ (by omega) (by omega)]; omega)
      rw [mixN_at _ _ _ (by omega) (by omega)] at c1
      have hfz := hrow.frozen
      have hgl := hrow.lt
      have hb1 := cb j hlt
      have ew : wrap64 (1000000 - geti C'.cash j) = 1000000 - geti C'.cash j := wrap64_id (by omega) (by omega)
      have Hsn := Lib.hid (mixN_succ ns C'.cash j (by omega) (by omega))
      have hset := fun y => hrow.set j (.int .i64 y)
      simp only [int_set2] at hset
      have Hset := Lib.hid hset
      have w1 : IntKind.i64.wrap (1000000 - geti C'.cash j) = 1000000 - geti C'.cash j := (i64w2 _).trans ew
      clear hset hb1
      generalize geti ns j = nj at *
      generalize hx1 : (1000000 - geti C'.cash j) = x1 at *
      have Hx1 := Lib.hid hx1
      have Hew := Lib.hid ew
      clear hx1 ew
      by_cases hless : nj < x1
      · have Hm : Hid (max nj x1 = if nj < wrap64 x1 then wrap64 x1 else nj) := by show _ = _; rw [Hew.out, if_pos hless]; omega
        go_wp2_with fail
        refine wp_tail 10 (by kernel_rfl) (by kernel_rfl) ?_
        simp only [List.take_succ_cons, List.take_zero, List.drop_succ_cons, List.drop_zero]
        repeat still_step
        refine wpStill_nil ?_
        clear w1
        go_wp2_with fail
        go_roundw
        case rel => exact ⟨j + 1, by omega, by go_num, (hkp.drewN _).set (by simp) _, by
          rw [Hsn.out, Hx1.out, Hm.out]
          have h3 := (hrow.drewN 1).set j (.int .i64 (if nj < wrap64 x1 then wrap64 x1 else nj))
          rw [int_set2] at h3
          with_reducible exact h3⟩
        case measure => simp [intOf]; omega
      · have Hm : Hid (max nj x1 = if nj < wrap64 x1 then wrap64 x1 else nj) := by show _ = _; rw [Hew.out, if_neg hless]; omega
        go_wp2_with fail
        refine wp_tail 10 (by kernel_rfl) (by kernel_rfl) ?_
        simp only [List.take_succ_cons, List.take_zero, List.drop_succ_cons, List.drop_zero]
        repeat still_step
        refine wpStill_nil ?_
        clear w1
        go_wp2_with fail
        go_roundw
        case rel => exact ⟨j + 1, by omega, by go_num, (hkp.drewN _).set (by simp) _, by
          rw [Hsn.out, Hx1.out, Hm.out]
          have h3 := (hrow.drewN 1).set j (.int .i64 (if nj < wrap64 x1 then wrap64 x1 else nj))
          rw [int_set2] at h3
          with_reducible exact h3⟩
        case measure => simp [intOf]; omega
    · have hge : ¬ (j : Int) < (F.stock.length : Int) := by omega
      go_wp2_with fail
      go_end0
      refine ⟨rfl, ⟨hkp.os, hkp.tape, hkp.output, hkp.size, fun q hq hn => hkp.block q hq (by simp at hn ⊢; exact hn.2)⟩, pv.kept hkp (by simpa using hgg), ?_⟩
      rw [← mixN_all ns C'.cash j (by omega) (by omega)]
      exact hrow
end Go.Proofs.Ytonbaikdpcmbiaa
