/- Plain facts: balances add up, are together nothing, and who has no part in a spending is owed nothing. No program. -/
import Derived.Test.YtdechfjlbdbbnaaTnf
import Derived.Test.YtdechfjlbdbbnaaTku
namespace Go.Proofs.Ytdechfjlbdbbnaa

/-- By how much the first persons of a spending move j's balance. -/
def dltZ (s : SpZ) (j : Nat) : Nat → Int
  | 0 => if s.by_.toNat = j then s.cents else 0
  | i + 1 => dltZ s j i - if (wAt s.fr i).toNat = j then oweZ s i else 0
theorem spN_at {m : Nat} {s : SpZ} {b : List Int} (h : SpOk m s) (hl : b.length = m) {j : Nat} : ∀ i, i ≤ s.fr.length → wAt (spN s b i) j = wAt b j + dltZ s j i := by
  intro i
  induction i with
  | zero =>
    intro _
    obtain ⟨f, hf, hfm⟩ := h.f
    simp only [spN, dltZ]
    rw [wAt_set _ _ _ _ (by omega)]
    split
    · next e => rw [e]
    · omega
  | succ i ih =>
    intro hi
    obtain ⟨p, hp, hpm⟩ := h.p i (by omega)
    have h1 := ih (by omega)
    simp only [spN, dltZ]
    rw [wAt_set _ _ _ _ (by rw [spN_len]; omega)]
    split
    · next e => rw [e, h1]; omega
    · omega
def movZ (s : SpZ) (j : Nat) : Int := dltZ s j s.fr.length
theorem spendN_at {m : Nat} {l : List SpZ} {N : Nat} (h : ∀ k, k < N → SpOk m (spAt l k)) {j : Nat} (hj : j < m) : ∀ k, k ≤ N → wAt (spendN m l k) j = sumN (fun q => movZ (spAt l q) j) k := by
  intro k
  induction k with
  | zero =>
    intro _
    unfold wAt spendN
    rw [List.getElem?_replicate, if_pos hj]; rfl
  | succ k ih =>
    intro hk
    simp only [spendN, spS, sumN]
    rw [spN_at (h k (by omega)) (spendN_len m l k) _ (Nat.le_refl _), ih (by omega)]
    rfl
theorem spAt_left (l l2 : List SpZ) {k : Nat} (h : k < l.length) : spAt (l ++ l2) k = spAt l k := by
  unfold spAt
  rw [List.getD_eq_getElem?_getD, List.getD_eq_getElem?_getD, List.getElem?_append_left h]
theorem spAt_right (l l2 : List SpZ) (k : Nat) : spAt (l ++ l2) (l.length + k) = spAt l2 k := by
  unfold spAt
  rw [List.getD_eq_getElem?_getD, List.getD_eq_getElem?_getD, List.getElem?_append_right (by omega), show l.length + k - l.length = k by omega]
theorem sumN_split (f : Nat → Int) (a : Nat) : ∀ b, sumN f (a + b) = sumN f a + sumN (fun q => f (a + q)) b := by
  intro b
  induction b with
  | zero => simp [sumN]
  | succ b ih =>
    rw [← Nat.add_assoc]
    simp only [sumN]
    rw [ih]; omega
theorem ok_both {m : Nat} {l l2 : List SpZ} (h : ∀ k, k < l.length → SpOk m (spAt l k)) (h2 : ∀ k, k < l2.length → SpOk m (spAt l2 k)) : ∀ k, k < (l ++ l2).length → SpOk m (spAt (l ++ l2) k) := by
  intro k hk
  rw [List.length_append] at hk
  rcases Nat.lt_or_ge k l.length with hlt | hge
  · rw [spAt_left l l2 hlt]; exact h k hlt
  · have e : k = l.length + (k - l.length) := by omega
    rw [e, spAt_right]; exact h2 _ (by omega)
/-- What is spent together is the sum. -/
theorem spend_both {m : Nat} {l l2 : List SpZ} (h : ∀ k, k < l.length → SpOk m (spAt l k)) (h2 : ∀ k, k < l2.length → SpOk m (spAt l2 k)) {j : Nat} (hj : j < m) :
    wAt (spendN m (l ++ l2) (l ++ l2).length) j = wAt (spendN m l l.length) j + wAt (spendN m l2 l2.length) j := by
  rw [spendN_at (N := (l ++ l2).length) (ok_both h h2) hj _ (Nat.le_refl _), spendN_at (N := l.length) h hj _ (Nat.le_refl _), spendN_at (N := l2.length) h2 hj _ (Nat.le_refl _), List.length_append, sumN_split]
  rw [sumN_congr (f := fun q => movZ (spAt (l ++ l2) q) j) (g := fun q => movZ (spAt l q) j) l.length fun i hi => by rw [spAt_left l l2 hi]]
  rw [sumN_congr (f := fun q => movZ (spAt (l ++ l2) (l.length + q)) j) (g := fun q => movZ (spAt l2 q) j) l2.length fun i _ => by rw [spAt_right]]
theorem sumN_one (p : Nat) (x : Int) : ∀ m, sumN (fun j => if p = j then x else 0) m = if p < m then x else 0 := by
  intro m
  induction m with
  | zero => simp [sumN]
  | succ m ih =>
    simp only [sumN]
    rw [ih]
    split <;> split <;> (try split) <;> omega
theorem sumN_sub (f g : Nat → Int) : ∀ n, sumN (fun i => f i - g i) n = sumN f n - sumN g n := by
  intro n
  induction n with
  | zero => simp [sumN]
  | succ n ih => simp only [sumN]; rw [ih]; omega
theorem dlt_sum {m : Nat} {s : SpZ} (h : SpOk m s) : ∀ i, i ≤ s.fr.length → sumN (fun j => dltZ s j i) m = s.cents - sumN (oweZ s) i := by
  intro i
  induction i with
  | zero =>
    intro _
    obtain ⟨f, hf, hfm⟩ := h.f
    simp only [dltZ, sumN]
    rw [sumN_one, if_pos (by omega)]; omega
  | succ i ih =>
    intro hi
    obtain ⟨p, hp, hpm⟩ := h.p i (by omega)
    simp only [dltZ]
    rw [sumN_sub, ih (by omega), sumN_one, if_pos (by omega)]
    simp only [sumN]; omega
theorem owe_sum {m : Nat} {s : SpZ} (h : SpOk m s) : sumN (oweZ s) s.fr.length = s.cents := by
  have hl := h.l1
  have hc := h.c
  obtain ⟨r, hr⟩ : ∃ r : Nat, s.cents % (s.fr.length : Int) = (r : Int) := ⟨(s.cents % (s.fr.length : Int)).toNat, by have := Int.emod_nonneg s.cents (show (s.fr.length : Int) ≠ 0 by omega); omega⟩
  have hrl : r ≤ s.fr.length := by have := Int.emod_lt_of_pos s.cents (show (0 : Int) < s.fr.length by omega); omega
  have e : ∀ k, sumN (oweZ s) k = (k : Int) * (s.cents / (s.fr.length : Int)) + ((min k r : Nat) : Int) := by
    intro k
    induction k with
    | zero => simp [sumN]
    | succ k ih =>
      simp only [sumN]
      rw [ih]
      unfold oweZ
      rw [hr, show ((k + 1 : Nat) : Int) * (s.cents / (s.fr.length : Int)) = (k : Int) * (s.cents / (s.fr.length : Int)) + s.cents / (s.fr.length : Int) by rw [Int.natCast_add, Int.add_mul]; simp]
      split <;> omega
  rw [e, show min s.fr.length r = r by omega]
  have := Int.mul_ediv_add_emod s.cents (s.fr.length : Int)
  rw [hr] at this
  exact this
/-- All balances are together nothing. -/
theorem spend_zeroN {m : Nat} {l : List SpZ} {N : Nat} (h : ∀ k, k < N → SpOk m (spAt l k)) {k : Nat} (hk : k ≤ N) : sumN (wAt (spendN m l k)) m = 0 := by
  have e1 : sumN (wAt (spendN m l k)) m = sumN (fun j => sumN (fun q => movZ (spAt l q) j) k) m := sumN_congr _ fun j hj => spendN_at h hj k hk
  have e2 : ∀ k, k ≤ N → sumN (fun j => sumN (fun q => movZ (spAt l q) j) k) m = 0 := by
    intro k
    induction k with
    | zero =>
      intro _
      have : ∀ n, sumN (fun _ => sumN (fun _ : Nat => (0 : Int)) 0) n = 0 := by
        intro n
        induction n with
        | zero => rfl
        | succ n ih => simp only [sumN] at ih ⊢; omega
      exact this m
    | succ k ih =>
      intro hk
      have e : sumN (fun j => sumN (fun q => movZ (spAt l q) j) (k + 1)) m = sumN (fun j => sumN (fun q => movZ (spAt l q) j) k + movZ (spAt l k) j) m := rfl
      rw [e, sumN_add, ih (by omega)]
      have a := dlt_sum (h k (by omega)) (spAt l k).fr.length (Nat.le_refl _)
      rw [owe_sum (h k (by omega))] at a
      show 0 + sumN (fun j => movZ (spAt l k) j) m = 0
      unfold movZ
      omega
  rw [e1, e2 k hk]
theorem spend_zeroW {m : Nat} (hm : m ≤ 10) {l : List SpZ} (h60 : l.length ≤ 60) (h : ∀ k, k < l.length → SpOk m (spAt l k)) : sumW (spendN m l l.length) = 0 := by
  have e := spend_zeroN h (Nat.le_refl _)
  have := sumW_abs (zs := spendN m l l.length) (b := 1000000000000) (by omega) (by rw [spendN_len]; omega) fun i hi => by
    rw [spendN_len] at hi
    have := spendN_bd hm h l.length (Nat.le_refl _) i hi
    omega
  rw [this, spendN_len, e]
/-- Has person i a part in one of the first spendings? -/
def touF (fr : List Int) (i : Int) : Nat → Bool
  | 0 => false
  | j + 1 => touF fr i j || decide (wAt fr j = i)
def touN (l : List SpZ) (i : Int) : Nat → Bool
  | 0 => false
  | k + 1 => touN l i k || decide ((spAt l k).by_ = i) || touF (spAt l k).fr i (spAt l k).fr.length
theorem dlt_far {m : Nat} {s : SpZ} (h : SpOk m s) {i : Nat} (hb : decide (s.by_ = (i : Int)) = false) : ∀ j, j ≤ s.fr.length → touF s.fr i j = false → dltZ s i j = 0 := by
  intro j
  induction j with
  | zero =>
    intro _ _
    obtain ⟨f, hf, _⟩ := h.f
    simp only [decide_eq_false_iff_not] at hb
    simp only [dltZ]
    rw [if_neg (by omega)]
  | succ j ih =>
    intro hj ht
    simp only [touF, Bool.or_eq_false_iff, decide_eq_false_iff_not] at ht
    obtain ⟨p, hp, _⟩ := h.p j (by omega)
    simp only [dltZ]
    rw [ih (by omega) ht.1, if_neg (by omega)]; rfl
theorem spend_far {m : Nat} {l : List SpZ} {N : Nat} (h : ∀ k, k < N → SpOk m (spAt l k)) {i : Nat} (hi : i < m) : ∀ k, k ≤ N → touN l i k = false → wAt (spendN m l k) i = 0 := by
  intro k hk ht
  rw [spendN_at h hi k hk]
  induction k with
  | zero => rfl
  | succ k ih =>
    simp only [touN, Bool.or_eq_false_iff] at ht
    simp only [sumN]
    rw [ih (by omega) ht.1.1]
    unfold movZ
    rw [dlt_far (h k (by omega)) ht.1.2 _ (Nat.le_refl _) ht.2]; rfl
theorem chkS_both {n : Int} {l l2 : List SpZ} (h : chkS n l = 0) (h2 : chkS n l2 = 0) (hl : l.length + l2.length ≤ 60) : chkS n (l ++ l2) = 0 := by
  unfold chkS at h h2 ⊢
  by_cases a1 : inB n 1 10 = false
  · rw [if_pos a1] at h; cases h
  rw [if_neg a1] at h h2 ⊢
  rw [if_neg (by omega)] at h h2
  rw [List.length_append, if_neg (by omega)]
  have b1 : spsB n l l.length = true := by
    rcases e : spsB n l l.length with _ | _
    · rw [e] at h; simp at h
    · rfl
  have b2 : spsB n l2 l2.length = true := by
    rcases e : spsB n l2 l2.length with _ | _
    · rw [e] at h2; simp at h2
    · rfl
  have c1 : ∀ k, k ≤ l.length → spsB n (l ++ l2) k = spsB n l k := by
    intro k
    induction k with
    | zero => intro _; rfl
    | succ k ih => intro hk; simp only [spsB]; rw [ih (by omega), spAt_left l l2 (by omega)]
  have c2 : ∀ k, k ≤ l2.length → spsB n (l ++ l2) (l.length + k) = spsB n l2 k := by
    intro k
    induction k with
    | zero => intro _; rw [Nat.add_zero, c1 _ (Nat.le_refl _), b1]; rfl
    | succ k ih =>
      intro hk
      rw [← Nat.add_assoc]
      simp only [spsB]
      rw [ih (by omega), spAt_right]
  rw [c2 _ (Nat.le_refl _), b2]; rfl
end Go.Proofs.Ytdechfjlbdbbnaa
