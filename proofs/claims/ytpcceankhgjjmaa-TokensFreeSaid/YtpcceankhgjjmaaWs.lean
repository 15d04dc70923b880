/- Plain facts: the ways that purchases finds are chains of bundles. No program, no memory. -/
import Derived.Test.YtpcceankhgjjmaaWp
namespace Go.Proofs.Ytpcceankhgjjmaa
open Go.RowKit

theorem getw_set (ws : List Way) (t u : Nat) (x : Way) (h : t < ws.length) : getw (ws.set t x) u = if u = t then x else getw ws u := by
  simp only [getw, List.getElem?_set]
  by_cases e : t = u
  · subst e; simp [h]
  · have : ¬ u = t := fun h => e h.symm
    simp [e, this]
theorem tryB_ne (ws : List Way) (t i u : Nat) (b : Bundle) (hu : u ≠ t) : getw (tryB ws t i b) u = getw ws u := by
  unfold tryB
  split
  · rfl
  · split
    · rcases Nat.lt_or_ge t ws.length with h | h
      · rw [getw_set _ _ _ _ h, if_neg hu]
      · rw [List.set_eq_of_length_le h]
    · rfl
theorem tryB_at (ws : List Way) (t i : Nat) (b : Bundle) (h : t < ws.length) : getw (tryB ws t i b) t =
    if (t : Int) < b.tokens || !(getw ws (t - b.tokens.toNat)).can then getw ws t else
    if !(getw ws t).can || decide (wrap64 ((getw ws (t - b.tokens.toNat)).price + b.price) < (getw ws t).price) then ⟨true, wrap64 ((getw ws (t - b.tokens.toNat)).price + b.price), i⟩ else getw ws t := by
  unfold tryB
  split
  · rfl
  · split
    · rw [getw_set _ _ _ _ h, if_pos rfl]
    · rfl
theorem rowB_ne (t u : Nat) (hu : u ≠ t) (l : List Bundle) : ∀ i ws, getw (rowB t l i ws) u = getw ws u := by
  induction l with
  | nil => intro i ws; rfl
  | cons b l ih => intro i ws; rw [rowB, ih, tryB_ne _ _ _ _ _ hu]
theorem start_at (most u : Nat) : getw (startW most) u = if u = 0 then ⟨true, 0, 0⟩ else ⟨false, 0, 0⟩ := by
  unfold startW
  rw [getw_set _ _ _ _ (by simp)]
  split
  · rfl
  · simp only [getw, List.getElem?_replicate]; split <;> rfl
theorem waysK_hi (l : List Bundle) (most : Nat) : ∀ k u, k < u → getw (waysK l most k) u = ⟨false, 0, 0⟩ := by
  intro k
  induction k with
  | zero => intro u hu; rw [waysK, start_at, if_neg (by omega)]
  | succ k ih => intro u hu; rw [waysK, rowB_ne _ _ (by omega), ih u (by omega)]
theorem waysK_zero (l : List Bundle) (most : Nat) : ∀ k, getw (waysK l most k) 0 = ⟨true, 0, 0⟩ := by
  intro k
  induction k with
  | zero => rw [waysK, start_at, if_pos rfl]
  | succ k ih => rw [waysK, rowB_ne _ _ (by omega), ih]
theorem waysK_fix (l : List Bundle) (most : Nat) : ∀ k j u, u ≤ k → getw (waysK l most (k + j)) u = getw (waysK l most k) u := by
  intro k j
  induction j with
  | zero => intro u _; rfl
  | succ j ih => intro u hu; rw [← Nat.add_assoc, waysK, rowB_ne _ _ (by omega), ih u hu]

/-- What a way at t tokens rests on: its last bundle, and a way without it. -/
def Link (l : List Bundle) (ws : List Way) (t : Nat) (x : Way) : Prop :=
  ∃ i tok : Nat, i < l.length ∧ x.bundle = i ∧ (getb l i).tokens = tok ∧ 1 ≤ tok ∧ tok ≤ t ∧ (getw ws (t - tok)).can = true ∧ x.price = wrap64 ((getw ws (t - tok)).price + (getb l i).price)
/-- The row of t tokens: what stands there behind the first j bundles. -/
theorem row_link (l : List Bundle) (hpos : ∀ k, k < l.length → 1 ≤ (getb l k).tokens) (ws : List Way) (t : Nat) (ht : t < ws.length) (h0 : (getw ws t).can = false) : ∀ j, j ≤ l.length →
    ((getw (rowB t (l.take j) 0 ws) t).can = true → Link l ws t (getw (rowB t (l.take j) 0 ws) t)) ∧
    (∀ i, i < j → (getb l i).tokens.toNat ≤ t → (getw ws (t - (getb l i).tokens.toNat)).can = true → (getw (rowB t (l.take j) 0 ws) t).can = true) := by
  intro j
  induction j with
  | zero => intro _; simp [rowB, h0]
  | succ j ih =>
    intro hj
    obtain ⟨ih1, ih2⟩ := ih (by omega)
    rw [rowB_succ t l j (by omega)]
    have hlen : t < (rowB t (l.take j) 0 ws).length := by rw [rowB_length]; exact ht
    have hp := hpos j (by omega)
    rw [tryB_at _ _ _ _ hlen]
    have hne : ∀ u, u ≠ t → getw (rowB t (l.take j) 0 ws) u = getw ws u := fun u hu => rowB_ne t u hu _ _ _
    generalize getw (rowB t (l.take j) 0 ws) t = x at *
    by_cases hbig : (t : Int) < (getb l j).tokens
    · simp only [hbig, decide_true, Bool.true_or, if_true]
      refine ⟨ih1, fun i hi hti hc => ?_⟩
      rcases Nat.lt_or_ge i j with h | h
      · exact ih2 i h hti hc
      · have : i = j := by omega
        subst this
        omega
    · have e : getw (rowB t (l.take j) 0 ws) (t - (getb l j).tokens.toNat) = getw ws (t - (getb l j).tokens.toNat) := hne _ (by omega)
      rw [e]
      cases hc : (getw ws (t - (getb l j).tokens.toNat)).can with
      | false =>
        simp only [Bool.not_false, Bool.or_true, if_true]
        refine ⟨ih1, fun i hi hti hcc => ?_⟩
        rcases Nat.lt_or_ge i j with h | h
        · exact ih2 i h hti hcc
        · have : i = j := by omega
          subst this
          rw [hc] at hcc
          cases hcc
      | true =>
        simp only [hbig, decide_false, Bool.not_true, Bool.or_self, Bool.false_eq_true, if_false]
        by_cases hx : (!x.can || decide (wrap64 ((getw ws (t - (getb l j).tokens.toNat)).price + (getb l j).price) < x.price)) = true
        · rw [if_pos hx]
          exact ⟨fun _ => ⟨j, (getb l j).tokens.toNat, by omega, rfl, by omega, by omega, by omega, hc, rfl⟩, fun _ _ _ _ => rfl⟩
        · rw [if_neg hx]
          have hxc : x.can = true := by
            cases h : x.can with
            | true => rfl
            | false => simp [h] at hx
          exact ⟨ih1, fun _ _ _ _ => hxc⟩
theorem ways_link (l : List Bundle) (hpos : ∀ k, k < l.length → 1 ≤ (getb l k).tokens) (most t : Nat) (ht0 : 0 < t) (ht : t ≤ most) :
    ((getw (waysK l most most) t).can = true → Link l (waysK l most most) t (getw (waysK l most most) t)) ∧
    (∀ i, i < l.length → (getb l i).tokens.toNat ≤ t → (getw (waysK l most most) (t - (getb l i).tokens.toNat)).can = true → (getw (waysK l most most) t).can = true) := by
  obtain ⟨k, rfl⟩ : ∃ k, t = k + 1 := ⟨t - 1, by omega⟩
  obtain ⟨d, hd⟩ : ∃ d, most = k + 1 + d := ⟨most - (k + 1), by omega⟩
  have hfix : ∀ u, u ≤ k + 1 → getw (waysK l most most) u = getw (waysK l most (k + 1)) u := fun u hu => by
    have := waysK_fix l most (k + 1) d u hu
    rw [← hd] at this
    exact this
  have hfix0 : ∀ u, u ≤ k → getw (waysK l most most) u = getw (waysK l most k) u := fun u hu => by
    have := waysK_fix l most k (1 + d) u hu
    rw [show k + (1 + d) = most from by omega] at this
    exact this
  obtain ⟨h1, h2⟩ := row_link l hpos (waysK l most k) (k + 1) (by rw [waysK_length]; omega) (by rw [waysK_hi l most k _ (by omega)]) l.length (Nat.le_refl _)
  rw [List.take_length] at h1 h2
  rw [hfix (k + 1) (Nat.le_refl _), waysK]
  refine ⟨fun hc => ?_, fun i hi hti hc => ?_⟩
  · obtain ⟨i, tok, a1, a2, a3, a4, a5, a6, a7⟩ := h1 hc
    exact ⟨i, tok, a1, a2, a3, a4, a5, by rw [hfix0 _ (by omega)]; exact a6, by rw [hfix0 _ (by omega)]; exact a7⟩
  · have := hpos i hi
    rw [hfix0 _ (by omega)] at hc
    exact h2 i hi hti hc
theorem can_mul (l : List Bundle) (hpos : ∀ k, k < l.length → 1 ≤ (getb l k).tokens) (most i : Nat) (hi : i < l.length) : ∀ j, j * (getb l i).tokens.toNat ≤ most → (getw (waysK l most most) (j * (getb l i).tokens.toNat)).can = true := by
  intro j
  induction j with
  | zero => intro _; rw [Nat.zero_mul, waysK_zero]
  | succ j ih =>
    intro hj
    rw [Nat.succ_mul] at hj ⊢
    have := hpos i hi
    have h1 := ih (by omega)
    exact (ways_link l hpos most _ (by omega) hj).2 i hi (by omega) (by rw [Nat.add_sub_cancel]; exact h1)
theorem bestK_can (ws : List Way) (n : Nat) : ∀ k, (∃ j, j < k ∧ (getw ws (n + j)).can = true) → (getw ws (bestK ws n k)).can = true := by
  intro k
  induction k with
  | zero => rintro ⟨j, h, _⟩; omega
  | succ k ih =>
    rintro ⟨j, hj, hc⟩
    simp only [bestK]
    by_cases hb : (getw ws (bestK ws n k)).can = true
    · split
      · rename_i h; simp only [Bool.and_eq_true] at h; exact h.1
      · exact hb
    · have hjk : j = k := by
        rcases Nat.lt_or_ge j k with h | h
        · exact absurd (ih ⟨j, h, hc⟩) hb
        · omega
      subst hjk
      have hb' : (getw ws (bestK ws n j)).can = false := by simpa using hb
      simp [hc, hb']
theorem best_can (l : List Bundle) (hpos : ∀ k, k < l.length → 1 ≤ (getb l k).tokens ∧ (getb l k).tokens ≤ 1000) (n : Nat) (h : n = 0 ∨ l.length ≠ 0) :
    (getw (waysK l (n + 999) (n + 999)) (bestK (waysK l (n + 999) (n + 999)) n 1000)).can = true := by
  refine bestK_can _ _ _ ?_
  rcases h with rfl | h
  · exact ⟨0, by omega, by rw [Nat.add_zero, waysK_zero]⟩
  · have hp := hpos 0 (by omega)
    obtain ⟨tok, htok⟩ : ∃ tok, tok = (getb l (0 : Nat)).tokens.toNat := ⟨_, rfl⟩
    have ht1 : 1 ≤ tok ∧ tok ≤ 1000 := by omega
    have hm := can_mul l (fun k hk => (hpos k hk).1) (n + 999) 0 (by omega) ((n + tok - 1) / tok)
    rw [← htok] at hm
    have h1 : (n + tok - 1) / tok * tok ≤ n + tok - 1 := Nat.div_mul_le_self _ _
    have h2 : n ≤ (n + tok - 1) / tok * tok := by
      have := Nat.lt_div_mul_add (a := n + tok - 1) (b := tok) (by omega)
      omega
    exact ⟨(n + tok - 1) / tok * tok - n, by omega, by rw [show n + ((n + tok - 1) / tok * tok - n) = (n + tok - 1) / tok * tok from by omega]; exact hm (by omega)⟩
end Go.Proofs.Ytpcceankhgjjmaa
