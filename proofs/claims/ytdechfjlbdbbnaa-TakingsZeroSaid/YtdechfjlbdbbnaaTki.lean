/- Plain facts: how an amount is split by weights. No program. -/
import Derived.Test.YtdechfjlbdbbnaaSpec
import Derived.Test.YtdechfjlbdbbnaaTka
namespace Go.Proofs.Ytdechfjlbdbbnaa

def wAt (ws : List Int) (i : Nat) : Int := ws[i]?.getD 0
def sumN (f : Nat → Int) : Nat → Int
  | 0 => 0
  | k + 1 => sumN f k + f k
/-- What has been cut off, and the share rounded down. -/
def cutZ (c : Int) (ws : List Int) (i : Nat) : Int := c * wAt ws i % sumW ws
def floZ (c : Int) (ws : List Int) (i : Nat) : Int := c * wAt ws i / sumW ws
/-- i comes before k. -/
def befZ (c : Int) (ws : List Int) (i k : Nat) : Bool := decide (cutZ c ws k < cutZ c ws i) || (decide (cutZ c ws i = cutZ c ws k) && decide (i < k))
theorem befZ_tot (c : Int) (ws : List Int) : Tot (befZ c ws) where
  irr := fun x => by simp [befZ]
  tri := fun x y hne h => by
    simp only [befZ, Bool.or_eq_false_iff, Bool.and_eq_false_iff, decide_eq_false_iff_not, Bool.or_eq_true, Bool.and_eq_true, decide_eq_true_eq] at h ⊢
    omega
  trans := fun x y z h1 h2 => by
    simp only [befZ, Bool.or_eq_true, Bool.and_eq_true, decide_eq_true_eq] at h1 h2 ⊢
    omega
def lefZ (c : Int) (ws : List Int) : Int := c - sumN (floZ c ws) ws.length
def rnkZ (c : Int) (ws : List Int) (i : Nat) : Nat := rankN (befZ c ws) ws.length i
def partZ (c : Int) (ws : List Int) (m : Int) (i : Nat) : Int := floZ c ws i + if (rnkZ c ws i : Int) < m then 1 else 0
/-- The parts. -/
def splitZ (c : Int) (ws : List Int) : List Int := (List.range ws.length).map (partZ c ws (lefZ c ws))

/-- Weights that are right. -/
structure WOk (ws : List Int) : Prop where
  l1 : 1 ≤ ws.length
  l10 : ws.length ≤ 10
  at_ : ∀ i, i < ws.length → 0 ≤ wAt ws i ∧ wAt ws i ≤ 1000
  pos : 0 < sumW ws
  sum : sumW ws = sumN (wAt ws) ws.length
  top : sumW ws ≤ 10000

theorem sumN_le {f : Nat → Int} {b : Int} : ∀ n, (∀ i, i < n → f i ≤ b) → sumN f n ≤ n * b := by
  intro n
  induction n with
  | zero => intro _; simp [sumN]
  | succ n ih =>
    intro h
    have h1 := ih fun i hi => h i (by omega)
    have h2 := h n (by omega)
    simp only [sumN]
    rw [show ((n + 1 : Nat) : Int) * b = n * b + b by rw [Int.natCast_add, Int.add_mul]; simp]
    omega
theorem sumN_nonneg {f : Nat → Int} : ∀ n, (∀ i, i < n → 0 ≤ f i) → 0 ≤ sumN f n := by
  intro n
  induction n with
  | zero => intro _; simp [sumN]
  | succ n ih =>
    intro h
    have h1 := ih fun i hi => h i (by omega)
    have h2 := h n (by omega)
    simp only [sumN]; omega
theorem sumN_mul (c : Int) (f : Nat → Int) : ∀ n, sumN (fun i => c * f i) n = c * sumN f n := by
  intro n
  induction n with
  | zero => simp [sumN]
  | succ n ih => simp only [sumN]; rw [ih, Int.mul_add]
theorem sumN_add (f g : Nat → Int) : ∀ n, sumN (fun i => f i + g i) n = sumN f n + sumN g n := by
  intro n
  induction n with
  | zero => simp [sumN]
  | succ n ih => simp only [sumN]; rw [ih]; omega
theorem sumN_congr {f g : Nat → Int} : ∀ n, (∀ i, i < n → f i = g i) → sumN f n = sumN g n := by
  intro n
  induction n with
  | zero => intro _; rfl
  | succ n ih => intro h; simp only [sumN]; rw [ih fun i hi => h i (by omega), h n (by omega)]
theorem sumW_take (zs : List Int) : ∀ k, k ≤ zs.length → (∀ i, i < k → 0 ≤ wAt zs i) → sumN (wAt zs) k ≤ 1000000000000000 → sumW (zs.take k) = sumN (wAt zs) k := by
  intro k
  induction k with
  | zero => intro _ _ _; rfl
  | succ k ih =>
    intro hk h0 ht
    have hp := h0 k (by omega)
    have hs : 0 ≤ sumN (wAt zs) k := sumN_nonneg k fun i hi => h0 i (by omega)
    simp only [sumN] at ht
    have h1 := ih (by omega) (fun i hi => h0 i (by omega)) (by omega)
    unfold sumW at h1 ⊢
    rw [List.take_succ_eq_append_getElem (by omega), List.foldl_append, h1]
    simp only [List.foldl_cons, List.foldl_nil, sumN]
    have e : zs[k] = wAt zs k := by unfold wAt; rw [List.getElem?_eq_getElem (by omega)]; rfl
    rw [e]
    exact wrap64_id (by omega) (by omega)
theorem sumW_eq {zs : List Int} (h0 : ∀ i, i < zs.length → 0 ≤ wAt zs i) (ht : sumN (wAt zs) zs.length ≤ 1000000000000000) : sumW zs = sumN (wAt zs) zs.length := by
  have := sumW_take zs zs.length (Nat.le_refl _) h0 ht
  rwa [List.take_length] at this
theorem allB_at {zs : List Int} {lo hi : Int} (h : allB zs lo hi = true) {i : Nat} (hi' : i < zs.length) : lo ≤ wAt zs i ∧ wAt zs i ≤ hi := by
  unfold allB at h
  rw [List.all_eq_true] at h
  have := h zs[i] (List.getElem_mem hi')
  unfold inB at this
  unfold wAt
  rw [List.getElem?_eq_getElem hi']
  simpa using this
theorem wOk_ok {ws : List Int} (h1 : inB ws.length 1 10 = true) (h2 : allB ws 0 1000 = true) (h3 : 0 < sumW ws) : WOk ws := by
  unfold inB at h1
  simp only [Bool.and_eq_true, decide_eq_true_eq] at h1
  have ha := fun i hi => allB_at (i := i) h2 hi
  have hs : sumN (wAt ws) ws.length ≤ ws.length * 1000 := sumN_le _ fun i hi => (ha i hi).2
  have he := sumW_eq (zs := ws) (fun i hi => (ha i hi).1) (by omega)
  exact ⟨by omega, by omega, ha, h3, he, by rw [he]; omega⟩

section
variable {c : Int} {ws : List Int} (h : WOk ws) (h0 : 0 ≤ c) (h1 : c ≤ 1000000000)
include h h0
theorem flo_cut (i : Nat) (_ : i < ws.length) : c * wAt ws i = sumW ws * floZ c ws i + cutZ c ws i ∧ 0 ≤ cutZ c ws i ∧ cutZ c ws i < sumW ws ∧ 0 ≤ floZ c ws i := by
  have hp := h.pos
  have hw := (h.at_ i (by assumption)).1
  have := Int.mul_ediv_add_emod (c * wAt ws i) (sumW ws)
  unfold floZ cutZ
  exact ⟨this.symm, Int.emod_nonneg _ (by omega), Int.emod_lt_of_pos _ hp, Int.ediv_nonneg (Int.mul_nonneg h0 hw) (by omega)⟩
theorem cut_sum : sumW ws * lefZ c ws = sumN (cutZ c ws) ws.length := by
  have e1 : sumN (fun i => c * wAt ws i) ws.length = c * sumW ws := by rw [sumN_mul, h.sum]
  have e2 : sumN (fun i => c * wAt ws i) ws.length = sumN (fun i => sumW ws * floZ c ws i + cutZ c ws i) ws.length := sumN_congr _ fun i hi => (flo_cut h h0 i hi).1
  rw [e1, sumN_add, sumN_mul] at e2
  unfold lefZ
  rw [Int.mul_sub, Int.mul_comm (sumW ws) c]
  omega
theorem lef_bd : 0 ≤ lefZ c ws ∧ lefZ c ws < ws.length := by
  have hp := h.pos
  have e := cut_sum h h0
  have a : 0 ≤ sumN (cutZ c ws) ws.length := sumN_nonneg _ fun i hi => (flo_cut h h0 i hi).2.1
  have b : sumN (cutZ c ws) ws.length ≤ ws.length * (sumW ws - 1) := sumN_le _ fun i hi => by have := (flo_cut h h0 i hi).2.2.1; omega
  refine ⟨?_, ?_⟩
  · rcases Int.lt_or_le (lefZ c ws) 0 with hl | hl
    · have := Int.mul_neg_of_pos_of_neg hp hl; omega
    · exact hl
  · rcases Int.lt_or_le (lefZ c ws) ws.length with hl | hl
    · exact hl
    · have h2 : sumW ws * ws.length ≤ sumW ws * lefZ c ws := Int.mul_le_mul_of_nonneg_left hl (by omega)
      have l1 := h.l1
      rw [Int.mul_sub, Int.mul_one, Int.mul_comm (ws.length : Int)] at b
      omega
include h1
theorem share_bd (i : Nat) (hi : i < ws.length) : 0 ≤ c * wAt ws i ∧ c * wAt ws i ≤ 1000000000 * 1000 :=
  ⟨Int.mul_nonneg h0 (h.at_ i hi).1, Int.mul_le_mul h1 (h.at_ i hi).2 (h.at_ i hi).1 (by decide)⟩
end
end Go.Proofs.Ytdechfjlbdbbnaa
