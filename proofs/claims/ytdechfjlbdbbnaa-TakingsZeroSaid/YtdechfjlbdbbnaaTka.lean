/- Plain facts: the library's insertion sort is stable on the numbers from 0; who gets a cent more. No program. -/
import Derived.Sort.LotA
namespace Go.Proofs.Ytdechfjlbdbbnaa
open Go.Sort

/-! ### Numbers of a strict order: how many come before one -/
section
variable {R : Nat → Nat → Bool}
/-- 'R' parts and orders all numbers. -/
structure Tot (R : Nat → Nat → Bool) : Prop where
  irr : ∀ x, R x x = false
  tri : ∀ x y, x ≠ y → R x y = false → R y x = true
  trans : ∀ x y z, R x y = true → R y z = true → R x z = true

theorem Tot.asym (h : Tot R) {x y : Nat} (hxy : R x y = true) : R y x = false := by
  cases hyx : R y x with
  | false => rfl
  | true => have := h.trans x y x hxy hyx; rw [h.irr] at this; cases this

theorem Tot.swo (h : Tot R) : SWO R where
  irrefl := h.irr
  trans := h.trans
  ntrans := fun x y z hxy hyz => by
    by_cases e1 : x = y
    · rw [e1]; exact hyz
    by_cases e2 : y = z
    · rw [← e2]; exact hxy
    have a := h.tri x y e1 hxy
    have b := h.tri y z e2 hyz
    exact h.asym (h.trans z y x b a)

/-- How many of the numbers below n come before x. -/
def rankN (R : Nat → Nat → Bool) (n x : Nat) : Nat := (List.range n).countP fun k => R k x

theorem countP_at (h : Tot R) : ∀ (l : List Nat), l.Pairwise (fun x y => R x y = true) → ∀ p (hp : p < l.length), l.countP (fun k => R k l[p]) = p := by
  intro l
  induction l with
  | nil => intro _ p hp; simp at hp
  | cons a l ih =>
    intro hl p hp
    rw [List.pairwise_cons] at hl
    obtain ⟨h1, h2⟩ := hl
    cases p with
    | zero =>
      simp only [List.getElem_cons_zero]
      rw [List.countP_eq_zero]
      intro y hy
      rcases List.mem_cons.1 hy with rfl | hy
      · simp [h.irr]
      · simp [h.asym (h1 y hy)]
    | succ p =>
      simp only [List.getElem_cons_succ]
      have hp' : p < l.length := by simpa using hp
      rw [List.countP_cons_of_pos (p := fun k => R k l[p]) (h1 _ (List.getElem_mem hp')), ih h2 p hp']

/-- A list of the numbers below n in their order. -/
structure Ordl (R : Nat → Nat → Bool) (n : Nat) (l : List Nat) : Prop where
  perm : l.Perm (List.range n)
  srt : l.Pairwise (fun x y => R x y = true)

section
variable {n : Nat} {l : List Nat}
theorem Ordl.len (h : Ordl R n l) : l.length = n := by simpa using h.perm.length_eq
theorem Ordl.lt (h : Ordl R n l) {p : Nat} (hp : p < l.length) : l[p] < n := by
  have := h.perm.mem_iff.1 (List.getElem_mem hp)
  simpa using this
theorem Ordl.rank (t : Tot R) (h : Ordl R n l) {p : Nat} (hp : p < l.length) : rankN R n l[p] = p := by
  unfold rankN
  rw [← h.perm.countP_eq]
  exact countP_at t l h.srt p hp
theorem Ordl.place (h : Ordl R n l) {x : Nat} (hx : x < n) : ∃ p, ∃ hp : p < l.length, l[p] = x := by
  have : x ∈ l := h.perm.mem_iff.2 (by simpa using hx)
  exact List.getElem_of_mem this
theorem Ordl.rank_lt (t : Tot R) (h : Ordl R n l) {x : Nat} (hx : x < n) : rankN R n x < n := by
  obtain ⟨p, hp, rfl⟩ := h.place hx
  rw [h.rank t hp, ← h.len]; exact hp
theorem Ordl.rank_inj (t : Tot R) (h : Ordl R n l) {x y : Nat} (hx : x < n) (hy : y < n) (e : rankN R n x = rankN R n y) : x = y := by
  obtain ⟨p, hp, rfl⟩ := h.place hx
  obtain ⟨q, hq, rfl⟩ := h.place hy
  rw [h.rank t hp, h.rank t hq] at e
  subst e; rfl
theorem Ordl.rank_of (t : Tot R) (h : Ordl R n l) {x y : Nat} (hx : x < n) (hy : y < n) (e : R x y = true) : rankN R n x < rankN R n y := by
  obtain ⟨p, hp, rfl⟩ := h.place hx
  obtain ⟨q, hq, rfl⟩ := h.place hy
  rw [h.rank t hp, h.rank t hq]
  rcases Nat.lt_trichotomy p q with h1 | h1 | h1
  · exact h1
  · subst h1; rw [t.irr] at e; cases e
  · have := List.pairwise_iff_getElem.1 h.srt q p hq hp h1
    rw [t.asym this] at e; cases e
theorem Ordl.count (t : Tot R) (h : Ordl R n l) {m : Nat} (hm : m ≤ n) : (List.range n).countP (fun x => decide (rankN R n x < m)) = m := by
  have e : (l.map fun x => rankN R n x) = List.range n := by
    apply List.ext_getElem (by simp [h.len])
    intro p h1 h2
    simp only [List.getElem_map, List.getElem_range]
    exact h.rank t (by simpa using h1)
  rw [← h.perm.countP_eq]
  have e2 : l.countP (fun x => decide (rankN R n x < m)) = (l.map fun x => rankN R n x).countP (fun r => decide (r < m)) := by rw [List.countP_map]; rfl
  rw [e2, e]
  clear e e2 h
  induction n generalizing m with
  | zero => simp; omega
  | succ n ih =>
    rw [List.range_succ, List.countP_append]
    by_cases hmn : m ≤ n
    · rw [ih hmn]; simp; omega
    · have hm' : m = n + 1 := by omega
      subst hm'
      have : (List.range n).countP (fun r => decide (r < n + 1)) = n := by
        rw [List.countP_eq_length.2 (by intro x hx; simp at hx ⊢; omega)]; simp
      rw [this]; simp
end

/-! ### The library's insertion sort -/
theorem inner_same {lt : Nat → Nat → Bool} (i : Nat) (hs : ∀ x, x < i → lt i x = R i x) : ∀ (j : Nat) (d : Array Nat), j < d.size → d[j]! = i → (∀ q, q < j → d[q]! < i) → insInner lt 0 j d = insInner R 0 j d := by
  intro j
  induction j with
  | zero => intro d _ _ _; simp [insInner]
  | succ j ih =>
    intro d hj hi hq
    have e : lt d[j + 1]! d[j]! = R d[j + 1]! d[j]! := by rw [hi]; exact hs _ (hq j (by omega))
    simp only [insInner]
    rw [e]
    by_cases hc : (j + 1 > 0 && R d[j + 1]! d[j]!) = true
    · rw [if_pos hc, if_pos hc]
      refine ih _ (by rw [size_swp]; omega) ?_ fun q hqj => ?_
      · rw [swp_right d (j + 1) j (by omega)]; exact hi
      · rw [swp_other d (j + 1) j q (by omega) (by omega)]; exact hq q (by omega)
    · rw [if_neg hc, if_neg hc]

theorem outer_same {lt : Nat → Nat → Bool} (_ : Tot R) (n : Nat) (hs : ∀ i x, i < n → x < i → lt i x = R i x) : ∀ (k i : Nat) (d : Array Nat), n - i = k → d.size = n → (∀ q, i ≤ q → q < n → d[q]! = q) → (∀ q, q < i → q < n → d[q]! < i) →
    insOuter lt 0 n i d = insOuter R 0 n i d := by
  intro k
  induction k with
  | zero =>
    intro i d hk _ _ _
    rw [insOuter.eq_def lt, insOuter.eq_def R, if_neg (by omega), if_neg (by omega)]
  | succ k ih =>
    intro i d hk hd h1 h2
    have hin : i < n := by omega
    rw [insOuter.eq_def lt, insOuter.eq_def R, if_pos hin, if_pos hin]
    rw [inner_same i (fun x hx => hs i x hin hx) i d (by omega) (h1 i (Nat.le_refl _) hin) (fun q hq => h2 q hq (by omega))]
    have hp : PermIn 0 (i + 1) d (insInner R 0 i d) := by
      exact inner_perm i d (by omega)
    refine ih (i + 1) _ (by omega) (by rw [hp.1, hd]) (fun q hq hqn => ?_) (fun q hq _ => ?_)
    · rw [hp.2.1 q (Or.inr hq)]; exact h1 q (by omega) hqn
    · refine permIn_all d _ 0 (i + 1) (fun x => x < i + 1) (by omega) hp (fun q' _ hq' => ?_) q (by omega) hq
      by_cases e : q' = i
      · subst e; rw [h1 q' (Nat.le_refl _) hin]; omega
      · have := h2 q' (by omega) (by omega); omega
where
  inner_perm : ∀ (i : Nat) (d : Array Nat), i < d.size → PermIn 0 (i + 1) d (insInner R 0 i d) := by
    intro i
    induction i with
    | zero => intro d _; simp only [insInner]; exact permIn_refl d 0 1
    | succ i ih =>
      intro d hd
      simp only [insInner]
      split
      · have h1 : PermIn 0 (i + 2) d (swp d (i + 1) i) := swp_permIn d 0 (i + 2) (i + 1) i (by omega) (by omega) (by omega) (by omega) (by omega)
        have h2 := ih (swp d (i + 1) i) (by rw [size_swp]; omega)
        exact permIn_trans _ _ _ _ _ h1 (permIn_mono _ _ 0 (i + 1) 0 (i + 2) (by omega) (by omega) (by rw [size_swp]; omega) h2)
      · exact permIn_refl d 0 (i + 2)

/-- The numbers below n, sorted by the library's insertion sort with a test that does not tell equals apart: their order, of equals the lower one first. -/
theorem sort_ordl {lt : Nat → Nat → Bool} (t : Tot R) (n : Nat) (hs : ∀ i x, i < n → x < i → lt i x = R i x) : Ordl R n (insertionSort lt (Array.range n) 0 n).toList ∧ (insertionSort lt (Array.range n) 0 n).size = n := by
  have hr : ∀ q, q < n → (Array.range n)[q]! = q := fun q hq => by simp [hq]
  have e : insertionSort lt (Array.range n) 0 n = insertionSort R (Array.range n) 0 n := by
    unfold insertionSort
    refine outer_same t n hs _ 1 (Array.range n) rfl (by simp) (fun q _ hq => hr q hq) (fun q hq hqn => ?_)
    rw [hr q hqn]; omega
  rw [e]
  obtain ⟨hp, hS⟩ := insertionSort_holds (lt := R) t.swo (Array.range n) 0 n (by omega) (by simp)
  have hsz : (insertionSort R (Array.range n) 0 n).size = n := by rw [hp.1]; simp
  have hpm : (insertionSort R (Array.range n) 0 n).toList.Perm (List.range n) := by
    have := hp.2.2
    rw [extract_toList _ _ _ (by rw [hsz]; exact Nat.le_refl _), extract_toList _ _ _ (by simp)] at this
    have f1 : (List.range' 0 (n - 0)).map (fun i => (insertionSort R (Array.range n) 0 n)[i]!) = (insertionSort R (Array.range n) 0 n).toList := by
      apply List.ext_getElem (by simp [hsz])
      intro i h1 h2
      have : i < n := by simpa using h1
      simp [hsz, this]
    have f2 : (List.range' 0 (n - 0)).map (fun i => (Array.range n)[i]!) = List.range n := by
      apply List.ext_getElem (by simp)
      intro i h1 h2
      have : i < n := by simpa using h1
      simp [this]
    rwa [f1, f2] at this
  refine ⟨⟨hpm, ?_⟩, hsz⟩
  rw [List.pairwise_iff_getElem]
  intro i j hi hj hij
  have hnd : (insertionSort R (Array.range n) 0 n).toList.Nodup := hpm.nodup_iff.2 List.nodup_range
  have hne := (List.pairwise_iff_getElem.1 hnd) i j hi hj hij
  have h0 := hS i j (Nat.zero_le _) hij (by rw [← hsz]; simpa using hj)
  simp only [Array.length_toList] at hi hj
  rw [getElem!_pos _ i hi, getElem!_pos _ j hj] at h0
  exact t.tri _ _ (fun e => hne e.symm) h0
end
end Go.Proofs.Ytdechfjlbdbbnaa
