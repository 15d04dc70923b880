/- Plain functions: what the specification's prices and Buy compute, and that it is what cheapest finds. No program, no memory. -/
import Derived.Test.YtonbaikdpcmbiaaPa
import Derived.Test.YtonbaikdpcmbiaaPo
namespace Go.Proofs.Ytonbaikdpcmbiaa
open Go.RowKit

def BOk (bs : List Bundle) : Prop := ∀ b ∈ bs, 1 ≤ b.tokens ∧ b.tokens ≤ 1000 ∧ 1 ≤ b.price ∧ b.price ≤ 1000000
theorem prL_lo (bs : List Bundle) (k t : Nat) (h : t ≤ k) : geti (prL bs (k + 1)) t = geti (prL bs k) t := by
  rw [prL, geti_app _ _ _ (by rw [prL_length]; omega)]
theorem prL_top (bs : List Bundle) (k : Nat) : geti (prL bs (k + 1)) ((k + 1 : Nat) : Int) = minB (prL bs k) (k + 1) bs 1125899906842624 := by
  have h := prL_length bs k
  simp only [prL, geti, Int.toNat_natCast]
  rw [List.getElem?_append_right (by omega), h]
  simp
theorem prL_fix (bs : List Bundle) (k j t : Nat) (h : t ≤ k) : geti (prL bs (k + j)) t = geti (prL bs k) t := by
  induction j with
  | zero => rfl
  | succ j ih => rw [← Nat.add_assoc, prL_lo _ _ _ (by omega), ih]
theorem minB_le (os : List Int) (t : Nat) (bs : List Bundle) : ∀ a, minB os t bs a ≤ a ∧ (∀ b ∈ bs, b.tokens ≤ t → minB os t bs a ≤ wrap64 (geti os ((t : Int) - b.tokens) + b.price)) := by
  induction bs with
  | nil => intro a; exact ⟨Int.le_refl _, fun b h => by cases h⟩
  | cons x bs ih =>
    intro a
    simp only [minB]
    obtain ⟨h1, h2⟩ := ih (if x.tokens ≤ t then min a (wrap64 (geti os ((t : Int) - x.tokens) + x.price)) else a)
    refine ⟨?_, fun b hb hbt => ?_⟩
    · refine Int.le_trans h1 ?_
      split <;> omega
    · rcases List.mem_cons.1 hb with rfl | hb
      · refine Int.le_trans h1 ?_
        rw [if_pos hbt]; omega
      · exact h2 b hb hbt
theorem minB_is (os : List Int) (t : Nat) (bs : List Bundle) : ∀ a, minB os t bs a = a ∨ ∃ b ∈ bs, b.tokens ≤ t ∧ minB os t bs a = wrap64 (geti os ((t : Int) - b.tokens) + b.price) := by
  induction bs with
  | nil => intro a; exact Or.inl rfl
  | cons x bs ih =>
    intro a
    simp only [minB]
    rcases ih (if x.tokens ≤ t then min a (wrap64 (geti os ((t : Int) - x.tokens) + x.price)) else a) with h | ⟨b, hb, h1, h2⟩
    · rw [h]
      split
      · rename_i hx
        rcases Int.le_total a (wrap64 (geti os ((t : Int) - x.tokens) + x.price)) with h3 | h3
        · left; omega
        · right; exact ⟨x, List.mem_cons_self, hx, by omega⟩
      · left; rfl
    · right; exact ⟨b, List.mem_cons_of_mem _ hb, h1, h2⟩
theorem getb_in (l : List Bundle) (b : Bundle) (h : b ∈ l) : ∃ i, i < l.length ∧ getb l i = b := by
  obtain ⟨i, hi, rfl⟩ := List.mem_iff_getElem.1 h
  exact ⟨i, hi, by simp [getb, List.getElem?_eq_getElem hi]⟩

section
variable {bs : List Bundle} (hb : BOk bs)
include hb
theorem nnT : ∀ y ∈ toks bs, 0 ≤ y := fun y hy => by
  obtain ⟨b, hbm, rfl⟩ := List.mem_map.1 hy
  have := (hb b hbm).1; omega
theorem nnP : ∀ y ∈ prs bs, 0 ≤ y := fun y hy => by
  obtain ⟨b, hbm, rfl⟩ := List.mem_map.1 hy
  have := (hb b hbm).2.2.1; omega
/-- One bundle less. -/
theorem less_l (cs : List Int) (hl : cs.length = bs.length) (hn : ∀ c ∈ cs, 0 ≤ c) (hp : 0 < dot cs (toks bs)) :
    ∃ (b : Bundle) (cs' : List Int), b ∈ bs ∧ cs'.length = bs.length ∧ (∀ c ∈ cs', 0 ≤ c) ∧
      dot cs' (toks bs) = dot cs (toks bs) - b.tokens ∧ dot cs' (prs bs) = dot cs (prs bs) - b.price ∧ 0 ≤ dot cs (toks bs) - b.tokens := by
  obtain ⟨i, h1, h2, h3⟩ := dot_pos cs _ hn hp
  rw [toks_len] at h2
  have hn' := nn_set' (i := i) (x := geti cs i - 1) hn (by omega)
  have e1 := dot_set cs (toks bs) i (geti cs i - 1) h1 (by rw [toks_len]; exact h2)
  have e2 := dot_set cs (prs bs) i (geti cs i - 1) h1 (by rw [prs_len]; exact h2)
  rw [toks_at _ _ h2, show geti cs i - 1 - geti cs i = -1 from by omega] at e1
  rw [prs_at _ _ h2, show geti cs i - 1 - geti cs i = -1 from by omega] at e2
  have hnn := dot_nn _ _ hn' (nnT hb)
  exact ⟨getb bs i, cs.set i (geti cs i - 1), getb_mem bs i h2, by simpa using hl, hn', by omega, by omega, by omega⟩
omit hb in
/-- One bundle more. -/
theorem more_l (cs : List Int) (hl : cs.length = bs.length) (hn : ∀ c ∈ cs, 0 ≤ c) (b : Bundle) (hbm : b ∈ bs) :
    ∃ cs' : List Int, cs'.length = bs.length ∧ (∀ c ∈ cs', 0 ≤ c) ∧ dot cs' (toks bs) = dot cs (toks bs) + b.tokens ∧ dot cs' (prs bs) = dot cs (prs bs) + b.price := by
  obtain ⟨i, hi, rfl⟩ := getb_in bs b hbm
  have h0 := geti_nn hn i (by omega)
  have e1 := dot_set cs (toks bs) i (geti cs i + 1) (by omega) (by rw [toks_len]; exact hi)
  have e2 := dot_set cs (prs bs) i (geti cs i + 1) (by omega) (by rw [prs_len]; exact hi)
  rw [toks_at _ _ hi, show geti cs i + 1 - geti cs i = 1 from by omega, Int.one_mul] at e1
  rw [prs_at _ _ hi, show geti cs i + 1 - geti cs i = 1 from by omega, Int.one_mul] at e2
  exact ⟨cs.set i (geti cs i + 1), by simpa using hl, nn_set' hn (by omega), by omega, by omega⟩
omit hb in
theorem dot_zero (ys : List Int) : ∀ m, dot (List.replicate m 0) ys = 0 := by
  induction ys with
  | nil => intro m; cases m <;> simp [dot, List.replicate]
  | cons y ys ih => intro m; cases m with
    | zero => simp [dot]
    | succ m => simp [dot, List.replicate_succ, ih m]
/-- A price in the list is the least one of just so many tokens, or there is none. -/
theorem pr_spec : ∀ t : Nat, ∀ k, t ≤ k → 0 ≤ geti (prL bs k) t ∧ geti (prL bs k) t ≤ 1125899906842624 ∧
    (geti (prL bs k) t = 1125899906842624 ∨ ∃ cs : List Int, cs.length = bs.length ∧ (∀ c ∈ cs, 0 ≤ c) ∧ dot cs (toks bs) = t ∧ dot cs (prs bs) = geti (prL bs k) t) ∧
    (∀ cs : List Int, cs.length = bs.length → (∀ c ∈ cs, 0 ≤ c) → dot cs (toks bs) = t → geti (prL bs k) t ≤ dot cs (prs bs)) := by
  intro t
  induction t using Nat.strongRecOn with
  | ind t ih =>
    intro k hk
    obtain ⟨d, rfl⟩ : ∃ d, k = t + d := ⟨k - t, by omega⟩
    rw [prL_fix _ _ _ _ (Nat.le_refl _)]
    cases t with
    | zero =>
      have e : geti (prL bs 0) ((0 : Nat) : Int) = 0 := by simp [prL, geti]
      rw [e]
      exact ⟨by omega, by omega, Or.inr ⟨List.replicate bs.length 0, by simp, fun c hc => by have := List.eq_of_mem_replicate hc; omega, by rw [dot_zero]; rfl, by rw [dot_zero]⟩, fun cs hl hn _ => dot_nn _ _ hn (nnP hb)⟩
    | succ t =>
      rw [prL_top]
      obtain ⟨m1, m2⟩ := minB_le (prL bs t) (t + 1) bs 1125899906842624
      have hat : ∀ b ∈ bs, b.tokens ≤ ((t + 1 : Nat) : Int) → ∃ u : Nat, u ≤ t ∧ ((t + 1 : Nat) : Int) - b.tokens = u ∧ wrap64 (geti (prL bs t) (((t + 1 : Nat) : Int) - b.tokens) + b.price) = geti (prL bs t) u + b.price := by
        intro b hbm hbt
        have hbo := hb b hbm
        obtain ⟨u, hu⟩ := Int.eq_ofNat_of_zero_le (show 0 ≤ ((t + 1 : Nat) : Int) - b.tokens by omega)
        refine ⟨u, by omega, hu, ?_⟩
        rw [hu]
        obtain ⟨g1, g2, _⟩ := ih u (by omega) t (by omega)
        exact wrap64_id (by omega) (by omega)
      rcases minB_is (prL bs t) (t + 1) bs 1125899906842624 with he | ⟨b, hbm, hbt, he⟩
      · refine ⟨by omega, by omega, Or.inl he, fun cs hl hn hd => ?_⟩
        obtain ⟨b, cs', hbm, hl', hn', e1, e2, e3⟩ := less_l hb cs hl hn (by omega)
        obtain ⟨u, hu, hu2, hu3⟩ := hat b hbm (by omega)
        have h1 := m2 b hbm (by omega)
        rw [hu3] at h1
        obtain ⟨_, _, _, g4⟩ := ih u (by omega) t (by omega)
        have := g4 cs' hl' hn' (by omega)
        omega
      · obtain ⟨u, hu, hu2, hu3⟩ := hat b hbm hbt
        rw [hu3] at he
        have hbo := hb b hbm
        obtain ⟨g1, g2, g3, _⟩ := ih u (by omega) t (by omega)
        refine ⟨by omega, by omega, Or.inr ?_, fun cs hl hn hd => ?_⟩
        · rcases g3 with g3 | ⟨cs, hl, hn, d1, d2⟩
          · omega
          · obtain ⟨cs', hl', hn', e1, e2⟩ := more_l cs hl hn b hbm
            exact ⟨cs', hl', hn', by omega, by omega⟩
        · obtain ⟨b', cs', hbm', hl', hn', e1, e2, e3⟩ := less_l hb cs hl hn (by omega)
          obtain ⟨u', hu', hu2', hu3'⟩ := hat b' hbm' (by omega)
          have h1 := m2 b' hbm' (by omega)
          rw [hu3'] at h1
          obtain ⟨_, _, _, g4⟩ := ih u' (by omega) t (by omega)
          have := g4 cs' hl' hn' (by omega)
          omega
end
theorem bok_of {F : Fair} (hb : Bounds F) : BOk F.bundles := fun b h => by have := hb.bu b h; omega
/-- The specification's prices are those of the ways. -/
theorem pr_ways {F : Fair} (hb : Bounds F) (most : Nat) (hm : most ≤ 2000) (t k : Nat) (ht : t ≤ most) (hk : t ≤ k) :
    geti (prL F.bundles k) t = if (getw (waysK F.bundles most most) t).can = true then (getw (waysK F.bundles most most) t).price else 1125899906842624 := by
  obtain ⟨h1, h2, h3, h4⟩ := pr_spec (bok_of hb) t k hk
  by_cases hc : (getw (waysK F.bundles most most) t).can = true
  · rw [if_pos hc]
    obtain ⟨r, hr, r1, r2, r3, r4⟩ := trace_sum hb most hm (t + 1) t (List.replicate F.bundles.length 0) 0 (by omega) ht hc (by simp) (fun c hc => by have := List.eq_of_mem_replicate hc; omega) (by omega) (by omega)
    rw [dot_zero, Int.zero_add] at r3 r4
    have a1 := h4 r r1 r2 r3
    obtain ⟨g1, g2, g3⟩ := ways_refund hb most hm t ht hc
    rcases h3 with h3 | ⟨cs, hl, hn, d1, d2⟩
    · omega
    · have := (ways_le hb most hm t ht cs hl hn d1).2
      omega
  · rw [if_neg hc]
    rcases h3 with h3 | ⟨cs, hl, hn, d1, d2⟩
    · exact h3
    · exact absurd (ways_le hb most hm t ht cs hl hn d1).1 hc

theorem bestR_bd (os : List Int) (n : Nat) : ∀ k, n ≤ bestR os n k ∧ bestR os n k ≤ n + (k - 1) := by
  intro k
  induction k with
  | zero => simp [bestR]
  | succ k ih => simp only [bestR]; split <;> omega
theorem bestR_eq {F : Fair} (hb : Bounds F) (n : Nat) (hn : n ≤ 1000) : ∀ k, k ≤ 1000 → bestR (prL F.bundles (n + 1000)) n k = bestK (waysK F.bundles (n + 999) (n + 999)) n k := by
  intro k
  induction k with
  | zero => intro _; rfl
  | succ k ih =>
    intro hk
    have hbd := bestK_bd (waysK F.bundles (n + 999) (n + 999)) n k
    simp only [bestR, bestK, ih (by omega)]
    rw [pr_ways hb (n + 999) (by omega) (n + k) (n + 1000) (by omega) (by omega), pr_ways hb (n + 999) (by omega) _ (n + 1000) (by omega) (by omega)]
    have r1 := fun h => (ways_refund hb (n + 999) (by omega) (n + k) (by omega) h).2.2
    have r2 := fun h => (ways_refund hb (n + 999) (by omega) (bestK (waysK F.bundles (n + 999) (n + 999)) n k) (by omega) h).2.2
    generalize bestK (waysK F.bundles (n + 999) (n + 999)) n k = b at *
    cases c1 : (getw (waysK F.bundles (n + 999) (n + 999)) (n + k)).can
    · cases c2 : (getw (waysK F.bundles (n + 999) (n + 999)) b).can
      · simp
      · have := r2 c2
        simp; omega
    · have := r1 c1
      cases c2 : (getw (waysK F.bundles (n + 999) (n + 999)) b).can
      · simp; omega
      · simp
theorem best_last {F : Fair} (hb : Bounds F) (n : Nat) (hn : n ≤ 1000) (_h : n = 0 ∨ F.bundles.length ≠ 0) : bestR (prL F.bundles (n + 1000)) n 1001 = bestK (waysK F.bundles (n + 999) (n + 999)) n 1000 := by
  rw [bestR, bestR_eq hb n hn 1000 (Nat.le_refl _)]
  rw [if_neg]
  have hbd := bestK_bd (waysK F.bundles (n + 999) (n + 999)) n 1000
  obtain ⟨h1, h2, h3, h4⟩ := pr_spec (bok_of hb) (bestK (waysK F.bundles (n + 999) (n + 999)) n 1000) (n + 1000) (by omega)
  obtain ⟨g1, g2, g3, g4⟩ := pr_spec (bok_of hb) (n + 1000) (n + 1000) (by omega)
  rcases g3 with g3 | ⟨cs, hl, hcn, d1, d2⟩
  · omega
  · obtain ⟨b, cs', hbm, hl', hn', e1, e2, e3⟩ := less_l (bok_of hb) cs hl hcn (by omega)
    have hbo := bok_of hb b hbm
    obtain ⟨t, ht⟩ := Int.eq_ofNat_of_zero_le e3
    obtain ⟨c1, c2⟩ := ways_le hb (n + 999) (by omega) t (by omega) cs' hl' hn' (by omega)
    obtain ⟨u1, u2, _⟩ := bestK_min (waysK F.bundles (n + 999) (n + 999)) n 1000 (t - n) (by omega) (by rw [show n + (t - n) = t from by omega]; exact c1)
    rw [show n + (t - n) = t from by omega] at u2
    rw [pr_ways hb (n + 999) (by omega) (bestK (waysK F.bundles (n + 999) (n + 999)) n 1000) (n + 1000) (by omega) (by omega), if_pos u1]
    omega

theorem cnt_eq (rest : List Int) (left price : Int) (b : Bundle) (r : Nat) (hy : 0 < r → ¬ price < wrap64 ((r : Int) * b.price) ∧ geti rest (wrap64 (left - wrap64 ((r : Int) * b.tokens))) = wrap64 (price - wrap64 ((r : Int) * b.price))) :
    ∀ m, r ≤ m → (∀ c : Nat, r < c → c ≤ m → ¬ price < wrap64 ((c : Int) * b.price) → geti rest (wrap64 (left - wrap64 ((c : Int) * b.tokens))) = wrap64 (price - wrap64 ((c : Int) * b.price)) → False) → cntS rest left price b m = r := by
  intro m
  induction m with
  | zero => intro h _; simp [cntS]; omega
  | succ m ih =>
    intro h hno
    rw [cntS]
    rcases Nat.lt_or_ge r (m + 1) with h1 | h1
    · have e := ih (by omega) (fun c h2 h3 => hno c h2 (by omega))
      by_cases h2 : price < wrap64 (((m + 1 : Nat) : Int) * b.price)
      · rw [if_pos h2, e]
      · rw [if_neg h2, if_neg (fun h3 => hno (m + 1) h1 (Nat.le_refl _) h2 h3), e]
    · have : r = m + 1 := by omega
      subst this
      obtain ⟨y1, y2⟩ := hy (by omega)
      rw [if_neg y1, if_pos y2]
theorem dot_split (i : Nat) : ∀ xs ys : List Int, dot xs ys = dot (xs.take i) ys + dot (xs.drop i) (ys.drop i) := by
  induction i with
  | zero => intro xs ys; simp [dot]
  | succ i ih =>
    intro xs ys
    cases xs with
    | nil => simp [dot]
    | cons x xs =>
      cases ys with
      | nil => simp [dot]
      | cons y ys =>
        simp only [List.take_succ_cons, List.drop_succ_cons, dot]
        rw [ih xs ys]; omega
theorem dot_nil (xs : List Int) : dot xs [] = 0 := by cases xs <;> rfl
end Go.Proofs.Ytonbaikdpcmbiaa
