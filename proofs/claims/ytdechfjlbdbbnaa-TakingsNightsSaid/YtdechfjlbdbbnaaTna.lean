/- Plain facts: what each one gets if each night is split by itself. No program. -/
import Derived.Test.YtdechfjlbdbbnaaTku
import Derived.Test.YtdechfjlbdbbnaaTma
namespace Go.Proofs.Ytdechfjlbdbbnaa

/-- What i gets of the first k nights. -/
def nAt (ns ws : List Int) (k i : Nat) : Int := sumN (fun j => wAt (splitZ (wAt ns j) ws) i) k
theorem nAt_succ (ns ws : List Int) (k i : Nat) : nAt ns ws (k + 1) i = nAt ns ws k i + wAt (splitZ (wAt ns k) ws) i := rfl
def nightsZ (ns ws : List Int) : List Int := (List.range ws.length).map (nAt ns ws ns.length)
theorem nightsZ_len (ns ws : List Int) : (nightsZ ns ws).length = ws.length := by simp [nightsZ]
theorem nightsZ_at (ns ws : List Int) {i : Nat} (hi : i < ws.length) : wAt (nightsZ ns ws) i = nAt ns ws ns.length i := by
  unfold wAt nightsZ
  rw [List.getElem?_map, List.getElem?_range hi]; rfl
/-- By how much one differs at the most. -/
def furZ (f g : Nat → Int) : Nat → Int
  | 0 => 0
  | k + 1 => max (max (furZ f g k) (f k - g k)) (g k - f k)
theorem furZ_bd {f g : Nat → Int} {b : Int} (hb : 0 ≤ b) : ∀ n, (∀ i, i < n → f i - g i ≤ b ∧ g i - f i ≤ b) → 0 ≤ furZ f g n ∧ furZ f g n ≤ b := by
  intro n
  induction n with
  | zero => intro _; exact ⟨Int.le_refl _, hb⟩
  | succ n ih =>
    intro h
    have h1 := ih fun i hi => h i (by omega)
    have h2 := h n (by omega)
    simp only [furZ]; omega
theorem furZ_congr {f g f' g' : Nat → Int} : ∀ n, (∀ i, i < n → f i = f' i ∧ g i = g' i) → furZ f g n = furZ f' g' n := by
  intro n
  induction n with
  | zero => intro _; rfl
  | succ n ih => intro h; simp only [furZ]; rw [ih fun i hi => h i (by omega), (h n (by omega)).1, (h n (by omega)).2]
theorem sumN_swap (f : Nat → Nat → Int) (n : Nat) : ∀ k, sumN (fun i => sumN (fun j => f j i) k) n = sumN (fun j => sumN (f j) n) k := by
  intro k
  induction k with
  | zero =>
    show sumN (fun _ => 0) n = 0
    induction n with
    | zero => rfl
    | succ n ih => simp only [sumN]; rw [ih]; rfl
  | succ k ih =>
    have e : sumN (fun i => sumN (fun j => f j i) (k + 1)) n = sumN (fun i => sumN (fun j => f j i) k + f k i) n := rfl
    rw [e, sumN_add, ih]; rfl
section
variable {ns ws : List Int} (h : WOk ws) (hn : ∀ j, j < ns.length → 0 ≤ wAt ns j ∧ wAt ns j ≤ 1000000000)
include h hn
omit hn in
theorem part_top {c : Int} (h0 : 0 ≤ c) (h1 : c ≤ 1000000000) {i : Nat} (hi : i < ws.length) : 0 ≤ wAt (splitZ c ws) i ∧ wAt (splitZ c ws) i ≤ 1000000000001 := by
  have a := part_bd h h0 hi
  have b := share_bd h h0 h1 i hi
  have d : floZ c ws i ≤ c * wAt ws i := Int.ediv_le_self _ b.1
  exact ⟨split_nonneg h h0 hi, by omega⟩
theorem nAt_bd {k i : Nat} (hk : k ≤ ns.length) (hi : i < ws.length) : 0 ≤ nAt ns ws k i ∧ nAt ns ws k i ≤ k * 1000000000001 := by
  have a := fun j (hj : j < k) => part_top h (hn j (by omega)).1 (hn j (by omega)).2 hi
  exact ⟨sumN_nonneg k fun j hj => (a j hj).1, sumN_le k fun j hj => (a j hj).2⟩
theorem nights_sumN (hl : ns.length ≤ 60) : sumW (nightsZ ns ws) = sumW ns := by
  have l10 := h.l10
  have b := fun i (hi : i < ws.length) => nAt_bd h hn (Nat.le_refl _) hi
  have e1 : sumW (nightsZ ns ws) = sumN (wAt (nightsZ ns ws)) ws.length := by
    have := sumW_abs (zs := nightsZ ns ws) (b := 1000000000000000) (by omega) (by rw [nightsZ_len]; omega) fun i hi => by
      rw [nightsZ_len] at hi
      rw [nightsZ_at ns ws hi]
      have := b i hi
      omega
    rwa [nightsZ_len] at this
  have e2 : sumN (wAt (nightsZ ns ws)) ws.length = sumN (nAt ns ws ns.length) ws.length := sumN_congr _ fun i hi => nightsZ_at ns ws hi
  have e3 : sumN (nAt ns ws ns.length) ws.length = sumN (fun j => sumN (wAt (splitZ (wAt ns j) ws)) ws.length) ns.length := sumN_swap (fun j i => wAt (splitZ (wAt ns j) ws) i) ws.length ns.length
  have e4 : sumN (fun j => sumN (wAt (splitZ (wAt ns j) ws)) ws.length) ns.length = sumN (wAt ns) ns.length := sumN_congr _ fun j hj => split_sumN h (hn j hj).1
  have e5 : sumW ns = sumN (wAt ns) ns.length := sumW_eq (fun j hj => (hn j hj).1) (by
    have := sumN_le (f := wAt ns) (b := 1000000000) ns.length fun j hj => (hn j hj).2
    omega)
  rw [e1, e2, e3, e4, e5]
omit hn in
/-- A split is less than one from the exact share. -/
theorem share_near {c : Int} (h0 : 0 ≤ c) {i : Nat} (hi : i < ws.length) : -(sumW ws - 1) ≤ sumW ws * wAt (splitZ c ws) i - c * wAt ws i ∧ sumW ws * wAt (splitZ c ws) i - c * wAt ws i ≤ sumW ws - 1 := by
  obtain ⟨a1, a2, a3⟩ := part_bd h h0 hi
  obtain ⟨f1, f2, f3, _⟩ := flo_cut h h0 i hi
  rw [f1]
  rcases Int.lt_or_le (floZ c ws i) (wAt (splitZ c ws) i) with hlt | hle
  · have e : wAt (splitZ c ws) i = floZ c ws i + 1 := by omega
    have := a3 hlt
    rw [e, Int.mul_add, Int.mul_one]
    omega
  · have e : wAt (splitZ c ws) i = floZ c ws i := by omega
    rw [e]
    omega
theorem nights_near (hl : ns.length ≤ 60) {i : Nat} (hi : i < ws.length) : wAt (nightsZ ns ws) i - wAt (splitZ (sumW ns) ws) i ≤ ns.length ∧ wAt (splitZ (sumW ns) ws) i - wAt (nightsZ ns ws) i ≤ ns.length := by
  have hp := h.pos
  have e5 : sumW ns = sumN (wAt ns) ns.length := sumW_eq (fun j hj => (hn j hj).1) (by
    have := sumN_le (f := wAt ns) (b := 1000000000) ns.length fun j hj => (hn j hj).2
    omega)
  have n0 : 0 ≤ sumW ns := by rw [e5]; exact sumN_nonneg _ fun j hj => (hn j hj).1
  obtain ⟨s1, s2⟩ := share_near h n0 hi
  have t : sumN (fun j => sumW ws * wAt (splitZ (wAt ns j) ws) i + (-(wAt ns j * wAt ws i))) ns.length = sumW ws * nAt ns ws ns.length i - sumW ns * wAt ws i := by
    rw [sumN_add, sumN_mul, e5]
    have e : sumN (fun j => -(wAt ns j * wAt ws i)) ns.length = -(wAt ws i) * sumN (wAt ns) ns.length := by
      rw [← sumN_mul]
      exact sumN_congr _ fun j _ => by rw [Int.neg_mul, Int.mul_comm]
    rw [e, Int.neg_mul, Int.mul_comm (wAt ws i)]
    rfl
  have u := sumN_abs (f := fun j => sumW ws * wAt (splitZ (wAt ns j) ws) i + (-(wAt ns j * wAt ws i))) (b := sumW ws - 1) ns.length fun j hj => by
    have := share_near h (hn j hj).1 hi
    omega
  rw [t] at u
  rw [nightsZ_at ns ws hi]
  generalize nAt ns ws ns.length i = P at u
  generalize wAt (splitZ (sumW ns) ws) i = Q at s1 s2
  generalize sumW ns * wAt ws i = E at u s1 s2
  generalize ns.length = m at u
  rw [Int.mul_sub, Int.mul_one] at u
  have mc : (m : Int) * sumW ws = sumW ws * m := Int.mul_comm _ _
  constructor
  · rcases Int.lt_or_le (m : Int) (P - Q) with hh | hh
    · have a : sumW ws * ((m : Int) + 1) ≤ sumW ws * (P - Q) := Int.mul_le_mul_of_nonneg_left (by omega) (by omega)
      rw [Int.mul_add, Int.mul_one, Int.mul_sub] at a
      omega
    · exact hh
  · rcases Int.lt_or_le (m : Int) (Q - P) with hh | hh
    · have a : sumW ws * ((m : Int) + 1) ≤ sumW ws * (Q - P) := Int.mul_le_mul_of_nonneg_left (by omega) (by omega)
      rw [Int.mul_add, Int.mul_one, Int.mul_sub] at a
      omega
    · exact hh
end
/-- What Nights returns. -/
def nightB (ns : List Int) : Bool := allB ns 0 1000000000 && inB (sumW ns) 0 1000000000
def ngtR (ns ws : List Int) : List Int × Int × Int :=
  if 60 < ns.length then ([], 0, 2) else if nightB ns = false then ([], 0, 1) else if wOk ws = false then ([], 0, 110)
  else (nightsZ ns ws, furZ (wAt (nightsZ ns ws)) (wAt (splitZ (sumW ns) ws)) ws.length, 0)
/-- A row of which the first j numbers are f's and the rest are g's. -/
def mixL (f g : Nat → Int) (n j : Nat) : List Int := (List.range n).map fun i => if i < j then f i else g i
theorem mixL_len (f g : Nat → Int) (n j : Nat) : (mixL f g n j).length = n := by simp [mixL]
theorem mixL_at (f g : Nat → Int) {n j i : Nat} (hi : i < n) : wAt (mixL f g n j) i = if i < j then f i else g i := by
  unfold wAt mixL
  rw [List.getElem?_map, List.getElem?_range hi]; rfl
theorem mixL_zero (f g : Nat → Int) (n : Nat) : mixL f g n 0 = (List.range n).map g := by
  unfold mixL
  exact List.map_congr_left fun i _ => if_neg (by omega)
theorem mixL_all (f g : Nat → Int) (n : Nat) : mixL f g n n = (List.range n).map f := by
  unfold mixL
  refine List.map_congr_left fun i hi => ?_
  rw [List.mem_range] at hi
  exact if_pos hi
theorem mixL_set (f g : Nat → Int) (n j : Nat) : (mixL f g n j).set j (f j) = mixL f g n (j + 1) := by
  refine List.ext_getElem? fun i => ?_
  unfold mixL
  rw [List.getElem?_set, List.getElem?_map, List.getElem?_map]
  by_cases hi : i < n
  · rw [List.getElem?_range hi]
    by_cases e : j = i
    · subst e; simp [hi]
    · simp [e, show (i < j + 1) = (i < j) from propext ⟨by omega, by omega⟩]
  · rw [List.getElem?_eq_none (by simp; omega)]
    simp; omega
end Go.Proofs.Ytdechfjlbdbbnaa
