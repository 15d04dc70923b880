/- TokensAgree: Sold is Taken, Returned, Held and Lost together; the cash of all tills is what they had at first, and what was paid. Plain part and the walk. -/
import Derived.Test.YthjbakoccffdlaaIb
import Derived.Test.YthjbakoccffdlaaStayP
namespace Go.Proofs.Ythjbakoccffdlaa
open Go.RowKit

def cashF (xs ys : List Int) : Nat → Int
  | 0 => 0
  | k + 1 => wrap64 (cashF xs ys k + wrap64 (geti xs k - geti ys k))
theorem tot_take (l : List Int) : ∀ k, k < l.length → tot (l.take (k + 1)) = tot (l.take k) + geti l k := by
  induction l with
  | nil => intro k h; simp at h
  | cons y l ih =>
    intro k h
    cases k with
    | zero => simp [tot, geti]
    | succ k =>
      have := ih k (by simpa using h)
      simp only [List.take_succ_cons, tot, geti, Int.toNat_natCast, List.getElem?_cons_succ] at *
      omega
theorem cashF_tot (xs ys : List Int) (hx : ∀ x ∈ xs, 0 ≤ x ∧ x ≤ 1000000000) (hy : ∀ y ∈ ys, 0 ≤ y ∧ y ≤ 1000000000) (hl : xs.length = ys.length) (h8 : xs.length ≤ 8) : ∀ k, k ≤ xs.length → cashF xs ys k = tot (xs.take k) - tot (ys.take k) ∧ -(1000000000 * (k : Int)) ≤ cashF xs ys k ∧ cashF xs ys k ≤ 1000000000 * k := by
  intro k
  induction k with
  | zero => intro _; simp [cashF, tot]
  | succ k ih =>
    intro hk
    obtain ⟨h1, h2, h3⟩ := ih (by omega)
    have a1 := hx _ (geti_mem xs k (by omega))
    have a2 := hy _ (geti_mem ys k (by omega))
    simp only [cashF]
    rw [wrap64_id (n := geti xs k - geti ys k) (by omega) (by omega), wrap64_id (by omega) (by omega), tot_take _ _ (by omega), tot_take _ _ (by omega)]
    exact ⟨by omega, by omega, by omega⟩
theorem go_step {F : Fair} {l : List Deal} {C0 : Count} {t0 : Int} (h : goS F l l.length = some (C0, t0)) (k : Nat) (hk : k < l.length) : ∃ C t C', goS F l k = some (C, t) ∧ stepS F C (getd l k) = some C' := by
  unfold goS at *
  have e : l = l.take k ++ (getd l k :: l.drop (k + 1)) := by
    rw [show getd l k = l[k] by simp [getd, List.getElem?_eq_getElem hk], ← List.drop_eq_getElem_cons hk, List.take_append_drop]
  rw [List.take_length, e, runS_append] at h
  cases h1 : runS F (l.take k) (beginS F) 0 with
  | none => rw [h1] at h; cases h
  | some x =>
    obtain ⟨C, t⟩ := x
    rw [h1] at h
    simp only [runS] at h
    split at h
    · cases h2 : stepS F C (getd l k) with
      | none => rw [h2] at h; cases h
      | some C' => exact ⟨C, t, C', rfl, h2⟩
    · cases h
theorem acc_err (F : Fair) (l : List Deal) : (accS F l).2 = errS F l := by
  unfold accS errS
  split
  · rfl
  split
  · rfl
  cases goS F l l.length with
  | none => rfl
  | some x => rfl
theorem acc_six (F : Fair) (l : List Deal) : ∃ a0 a1 a2 a3 a4 a5, (accS F l).1 = [a0, a1, a2, a3, a4, a5] := by
  unfold accS
  split
  · exact ⟨_, _, _, _, _, _, rfl⟩
  split
  · exact ⟨_, _, _, _, _, _, rfl⟩
  cases goS F l l.length with
  | none => exact ⟨_, _, _, _, _, _, rfl⟩
  | some x => exact ⟨_, _, _, _, _, _, rfl⟩
structure AgreeOk (F : Fair) (l : List Deal) (C : Count) (s t r h lo ca : Int) : Prop where
  tok : s = wrap64 (wrap64 (wrap64 (t + r) + h) + lo)
  n1 : C.cash.length = F.stock.length
  n2 : F.cash.length = F.stock.length
  cash : ca = cashF C.cash F.cash F.stock.length
  paid : cashF C.cash F.cash F.stock.length = paidK F l
  sold : ∀ k, k < l.length → (getd l k).kind = 1 → inB (getd l k).n 0 ((F.bundles.length : Int) - 1) = true
theorem held_tot (l : List Purse) (h : ∀ x ∈ ptok l, 0 ≤ x) (hM : tot (ptok l) ≤ 9000000000000000000) : heldS l = tot (ptok l) := by
  have e : heldS l = sumW (ptok l) := by
    unfold heldS sumW ptok
    rw [List.foldl_map]
  rw [e, sumW_tot _ h hM]
theorem agree_ok {F : Fair} {l : List Deal} (he : errS F l = 0) {s t r h lo ca : Int} (ha : (accS F l).1 = [s, t, r, h, lo, ca]) : AgreeOk F l (playS F l) s t r h lo ca := by
  unfold errS at he
  split at he
  · cases he
  rename_i hv
  have hv : validB F = true := by simpa using hv
  split at he
  · cases he
  rename_i h200
  cases hg : goS F l l.length with
  | none => rw [hg] at he; cases he
  | some x =>
    obtain ⟨C, t0⟩ := x
    have hC : playS F l = C := by simp [playS, hv, h200, hg]
    rw [hC]
    have hA : (accS F l).1 = [(nightK F l l.length).1, (nightK F l l.length).2.1, (nightK F l l.length).2.2, heldS C.purses, C.lost, wrap64 (sumW C.cash - sumW F.cash)] := by simp [accS, hv, h200, hg]
    rw [hA] at ha
    simp only [List.cons.injEq, and_true] at ha
    obtain ⟨rfl, rfl, rfl, rfl, rfl, rfl⟩ := ha
    have hb := bounds_of hv
    obtain ⟨i1, i2, i3⟩ := begin_inv hb
    obtain ⟨hi, hT⟩ := go_inv hv (by omega) hg
    have hg' := hg
    unfold goS at hg'
    rw [List.take_length] at hg'
    have ag := agr_run hb i3 l (beginS F) 0 1000000 0 0 (0, 0, 0) C t0 i1 (by omega) (by omega)
      ⟨by simp, by simp, by simp, by simp, by
        have e : ptok (beginS F).purses = List.replicate F.purses.toNat 0 := by simp [ptok, beginS]
        rw [e, tot_repl]; simp [beginS], by simp [beginS]⟩ (Int.le_refl 0) (by omega) hg'
    have hnk : nightK F l l.length = nightR F l (beginS F) (0, 0, 0) := by unfold nightK; rw [List.take_length]
    rw [hnk]
    generalize nightR F l (beginS F) (0, 0, 0) = a at *
    obtain ⟨g1, g2, g3, g4, g5, g6⟩ := ag
    have b1 := tot_nn _ hi.s
    have b2 := tot_nn _ hi.p
    have b3 := tot_nn _ hi.b
    have b4 := hi.l
    have b5 := hi.t
    have hcx : ∀ x ∈ C.cash, 0 ≤ x ∧ x ≤ 1000000000 := fun x hx => ⟨hi.c x hx, hi.c' x hx⟩
    have hcy : ∀ x ∈ F.cash, 0 ≤ x ∧ x ≤ 1000000000 := fun x hx => by have := hb.ca x hx; omega
    have hs2 := hb.s2
    have n1 := hi.n2
    have n2 := hb.c
    obtain ⟨f1, f2, f3⟩ := cashF_tot C.cash F.cash hcx hcy (by omega) (by omega) F.stock.length (by omega)
    rw [List.take_of_length_le (by omega), List.take_of_length_le (by omega)] at f1
    have t1 := tot_nn _ hi.c
    have t2 := tot_nn F.cash fun x hx => (hcy x hx).1
    have t3 := tot_le C.cash 1000000000 fun x hx => (hcx x hx).2
    have t4 := tot_le F.cash 1000000000 fun x hx => (hcy x hx).2
    have hM : 0 ≤ (l.length : Int) ∧ (l.length : Int) ≤ 200 := by omega
    refine ⟨?_, n1, n2, ?_, ?_, fun k hk hk1 => ?_⟩
    · rw [held_tot _ hi.p (by omega), wrap64_id (n := a.2.1 + a.2.2) (by omega) (by omega), wrap64_id (n := a.2.1 + a.2.2 + tot (ptok C.purses)) (by omega) (by omega), wrap64_id (by omega) (by omega)]
      exact g5
    · rw [sumW_tot _ hi.c (by omega), sumW_tot _ (fun x hx => (hcy x hx).1) (by omega), wrap64_id (by omega) (by omega)]
      omega
    · rw [f1]
      unfold paidK
      omega
    · obtain ⟨C1, t1, C2, _, hs⟩ := go_step hg k hk
      exact sold_ok hs hk1
end Go.Proofs.Ythjbakoccffdlaa
