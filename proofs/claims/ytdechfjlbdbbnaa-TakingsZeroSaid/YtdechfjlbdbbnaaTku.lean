/- Plain facts: the parts are together the amount, each the exact share rounded down or up; what claims are paid. No program. -/
import Derived.Test.YtdechfjlbdbbnaaTki
namespace Go.Proofs.Ytdechfjlbdbbnaa

theorem sumN_ind (p : Nat → Bool) : ∀ n, sumN (fun i => if p i = true then 1 else 0) n = ((List.range n).countP p : Nat) := by
  intro n
  induction n with
  | zero => rfl
  | succ n ih =>
    simp only [sumN]
    rw [ih, List.range_succ, List.countP_append]
    by_cases h : p n = true
    · simp [h]
    · simp [h]
theorem ordl_ex (c : Int) (ws : List Int) : ∃ l, Ordl (befZ c ws) ws.length l :=
  ⟨_, (sort_ordl (lt := befZ c ws) (befZ_tot c ws) ws.length fun _ _ _ _ => rfl).1⟩
theorem splitZ_at (c : Int) (ws : List Int) {i : Nat} (hi : i < ws.length) : wAt (splitZ c ws) i = partZ c ws (lefZ c ws) i := by
  unfold wAt splitZ
  rw [List.getElem?_map, List.getElem?_range hi]; rfl
theorem splitZ_ln (c : Int) (ws : List Int) : (splitZ c ws).length = ws.length := by simp [splitZ]
theorem part_same {c : Int} {ws : List Int} {i k : Nat} (hi : i < ws.length) (hk : k < i) (he : wAt ws k = wAt ws i) : wAt (splitZ c ws) i ≤ wAt (splitZ c ws) k ∧ wAt (splitZ c ws) k ≤ wAt (splitZ c ws) i + 1 := by
  obtain ⟨l, ho⟩ := ordl_ex c ws
  have hb : befZ c ws k i = true := by unfold befZ cutZ; rw [he]; simp [hk]
  have hr := ho.rank_of (befZ_tot c ws) (by omega) hi hb
  have hf : floZ c ws k = floZ c ws i := by unfold floZ; rw [he]
  rw [splitZ_at c ws hi, splitZ_at c ws (by omega)]
  unfold partZ
  rw [hf]
  change rnkZ c ws k < rnkZ c ws i at hr
  split <;> split <;> omega
section
variable {c : Int} {ws : List Int} (h : WOk ws) (h0 : 0 ≤ c)
include h h0
theorem split_sumN : sumN (wAt (splitZ c ws)) ws.length = c := by
  obtain ⟨l, ho⟩ := ordl_ex c ws
  have hl := lef_bd h h0
  obtain ⟨m, hm⟩ : ∃ m : Nat, lefZ c ws = (m : Int) := ⟨(lefZ c ws).toNat, by omega⟩
  have e1 : sumN (wAt (splitZ c ws)) ws.length = sumN (fun i => floZ c ws i + if decide (rnkZ c ws i < m) = true then 1 else 0) ws.length := sumN_congr _ fun i hi => by
    rw [splitZ_at c ws hi]
    unfold partZ
    rw [hm]
    by_cases hr : rnkZ c ws i < m
    · rw [if_pos (by omega), if_pos (by simpa using hr)]
    · rw [if_neg (by omega), if_neg (by simpa using hr)]
  have hc := ho.count (befZ_tot c ws) (m := m) (by omega)
  rw [e1, sumN_add, sumN_ind]
  unfold rnkZ
  rw [hc]
  have : lefZ c ws = c - sumN (floZ c ws) ws.length := rfl
  omega
theorem part_bd {i : Nat} (hi : i < ws.length) : floZ c ws i ≤ wAt (splitZ c ws) i ∧ wAt (splitZ c ws) i ≤ floZ c ws i + 1 ∧ (floZ c ws i < wAt (splitZ c ws) i → cutZ c ws i ≠ 0) := by
  rw [splitZ_at c ws hi]
  unfold partZ
  by_cases hr : (rnkZ c ws i : Int) < lefZ c ws
  · rw [if_pos hr]
    refine ⟨by omega, by omega, fun _ hz => ?_⟩
    have hp := h.pos
    obtain ⟨P, hP⟩ : ∃ P : Nat, P = (List.range ws.length).countP (fun j => decide (0 < cutZ c ws j)) := ⟨_, rfl⟩
    have h1 : P ≤ rnkZ c ws i := by
      rw [hP]
      unfold rnkZ rankN
      refine List.countP_mono_left fun j _ hj => ?_
      simp only [decide_eq_true_eq] at hj
      unfold befZ
      rw [hz]
      simp [hj]
    have h2 : sumN (cutZ c ws) ws.length ≤ (sumW ws - 1) * (P : Int) := by
      have e : sumN (fun j => (sumW ws - 1) * (if decide (0 < cutZ c ws j) = true then 1 else 0)) ws.length = (sumW ws - 1) * (P : Int) := by rw [sumN_mul, sumN_ind, hP]
      rw [← e]
      have mono : ∀ n, n ≤ ws.length → sumN (cutZ c ws) n ≤ sumN (fun j => (sumW ws - 1) * (if decide (0 < cutZ c ws j) = true then 1 else 0)) n := by
        intro n
        induction n with
        | zero => intro _; exact Int.le_refl _
        | succ n ih =>
          intro hn
          have a := ih (by omega)
          have b := flo_cut h h0 n (by omega)
          simp only [sumN]
          by_cases hc : 0 < cutZ c ws n
          · rw [if_pos (by simpa using hc)]; omega
          · rw [if_neg (by simpa using hc)]; omega
      exact mono _ (Nat.le_refl _)
    rw [← cut_sum h h0] at h2
    have hlp : lefZ c ws ≤ (P : Int) := by
      rcases Int.lt_or_le (P : Int) (lefZ c ws) with hlt | hle
      · have a : sumW ws * ((P : Int) + 1) ≤ sumW ws * lefZ c ws := Int.mul_le_mul_of_nonneg_left (by omega) (by omega)
        rw [Int.mul_add, Int.mul_one] at a
        rw [Int.sub_mul, Int.one_mul] at h2
        omega
      · exact hle
    omega
  · rw [if_neg hr]
    exact ⟨by omega, by omega, fun h => absurd h (by omega)⟩
theorem split_nonneg {i : Nat} (hi : i < ws.length) : 0 ≤ wAt (splitZ c ws) i := by
  have a := (part_bd h h0 hi).1
  have b := (flo_cut h h0 i hi).2.2.2
  omega
theorem split_sumW (h1 : c ≤ 1000000000) : sumW (splitZ c ws) = c := by
  have e := split_sumN h h0
  rw [sumW_eq (fun i hi => by rw [splitZ_ln] at hi; exact split_nonneg h h0 hi) (by rw [splitZ_ln, e]; omega), splitZ_ln, e]
end

/-- What is left behind the first claims. -/
def remZ (c : Int) (cl : List Int) : Nat → Int
  | 0 => c
  | k + 1 => remZ c cl k - min (wAt cl k) (remZ c cl k)
def paidL (c : Int) (cl : List Int) : List Int := (List.range cl.length).map fun k => min (wAt cl k) (remZ c cl k)
theorem paidL_len (c : Int) (cl : List Int) : (paidL c cl).length = cl.length := by simp [paidL]
theorem paidL_at (c : Int) (cl : List Int) {k : Nat} (hk : k < cl.length) : wAt (paidL c cl) k = min (wAt cl k) (remZ c cl k) := by
  unfold wAt paidL
  rw [List.getElem?_map, List.getElem?_range hk]; rfl
theorem paid_sum (c : Int) (cl : List Int) : ∀ k, k ≤ cl.length → sumN (wAt (paidL c cl)) k + remZ c cl k = c := by
  intro k
  induction k with
  | zero => intro _; simp [sumN, remZ]
  | succ k ih =>
    intro hk
    have a := ih (by omega)
    simp only [sumN, remZ]
    rw [paidL_at c cl (by omega)]
    omega
theorem rem_zero {c : Int} {cl : List Int} (hc : ∀ i, i < cl.length → 0 ≤ wAt cl i) {k : Nat} (hz : remZ c cl k = 0) : ∀ j, k ≤ j → j ≤ cl.length → remZ c cl j = 0 := by
  intro j hj
  induction j with
  | zero => intro _; rw [show k = 0 by omega] at hz; exact hz
  | succ j ih =>
    intro hjl
    rcases Nat.lt_or_ge j k with hlt | hge
    · rw [show j + 1 = k by omega]; exact hz
    · have a := ih hge (by omega)
      have b := hc j (by omega)
      simp only [remZ]; rw [a]; omega
section
variable {c : Int} {cl : List Int} (h0 : 0 ≤ c) (hc : ∀ i, i < cl.length → 0 ≤ wAt cl i)
include h0 hc
theorem rem_bd : ∀ k, k ≤ cl.length → 0 ≤ remZ c cl k ∧ remZ c cl k ≤ c := by
  intro k
  induction k with
  | zero => intro _; exact ⟨h0, Int.le_refl _⟩
  | succ k ih =>
    intro hk
    have a := ih (by omega)
    have b := hc k (by omega)
    simp only [remZ]; omega
/-- A claim that is not paid in full leaves nothing. -/
theorem short_zero {k : Nat} (hk : k < cl.length) (hs : wAt (paidL c cl) k < wAt cl k) : remZ c cl (k + 1) = 0 := by
  rw [paidL_at c cl hk] at hs
  have := (rem_bd h0 hc k (by omega)).1
  simp only [remZ]; omega
end
end Go.Proofs.Ytdechfjlbdbbnaa
