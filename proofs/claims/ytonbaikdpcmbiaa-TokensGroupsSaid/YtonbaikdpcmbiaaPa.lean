/- Plain facts of TokensBuys: of all numbers of bundles with just the tokens and the price, cheapest finds those with most of the first bundle, then of the next one. No program, no memory. -/
import Derived.Test.YtonbaikdpcmbiaaGd
namespace Go.Proofs.Ytonbaikdpcmbiaa
open Go.RowKit

theorem geti_put (l : List Int) (i k : Nat) (x : Int) (h : i < l.length) : geti (l.set i x) k = if k = i then x else geti l k := by
  simp only [geti, Int.toNat_natCast, List.getElem?_set]
  by_cases e : i = k
  · subst e; simp [h]
  · have : ¬ k = i := fun h => e h.symm
    simp [e, this]
/-- The bundle that stands in a row is the first that is as cheap. -/
theorem row_first (l : List Bundle) (hpos : ∀ k, k < l.length → 1 ≤ (getb l k).tokens) (ws : List Way) (t : Nat) (ht : t < ws.length) (h0 : (getw ws t).can = false) : ∀ j, j ≤ l.length →
    (getw (rowB t (l.take j) 0 ws) t).can = true → ∀ i : Nat, (i : Int) < (getw (rowB t (l.take j) 0 ws) t).bundle → i < j → (getb l i).tokens.toNat ≤ t → (getw ws (t - (getb l i).tokens.toNat)).can = true →
      (getw (rowB t (l.take j) 0 ws) t).price < wrap64 ((getw ws (t - (getb l i).tokens.toNat)).price + (getb l i).price) := by
  intro j
  induction j with
  | zero => intro _ _ i _ hi; omega
  | succ j ih =>
    intro hj
    have ih1 := ih (by omega)
    have ih2 := (row_link l hpos ws t ht h0 j (by omega)).2
    have ih3 := row_min l hpos ws t ht h0 j (by omega)
    have ih4 := (row_link l hpos ws t ht h0 j (by omega)).1
    have hb4 : (getw (rowB t (l.take j) 0 ws) t).can = true → (getw (rowB t (l.take j) 0 ws) t).bundle < j := fun h => by
      have : ∀ j, j ≤ l.length → (getw (rowB t (l.take j) 0 ws) t).can = true → (getw (rowB t (l.take j) 0 ws) t).bundle < j := by
        intro j
        induction j with
        | zero => intro _ h; simp [rowB, h0] at h
        | succ j ihj =>
          intro hj
          rw [rowB_succ t l j (by omega)]
          have hlen : t < (rowB t (l.take j) 0 ws).length := by rw [rowB_length]; exact ht
          rw [tryB_at _ _ _ _ hlen]
          intro h
          split at h
          · rename_i hc; rw [if_pos hc]; have := ihj (by omega) h; omega
          · rename_i hc
            rw [if_neg hc]
            split at h
            · rename_i hd; rw [if_pos hd]; dsimp only; omega
            · rename_i hd; rw [if_neg hd]; have := ihj (by omega) h; omega
      exact this j (by omega) h
    rw [rowB_succ t l j (by omega)]
    have hlen : t < (rowB t (l.take j) 0 ws).length := by rw [rowB_length]; exact ht
    have hp := hpos j (by omega)
    rw [tryB_at _ _ _ _ hlen]
    have hne : ∀ u, u ≠ t → getw (rowB t (l.take j) 0 ws) u = getw ws u := fun u hu => rowB_ne t u hu _ _ _
    generalize getw (rowB t (l.take j) 0 ws) t = x at *
    by_cases hbig : (t : Int) < (getb l j).tokens
    · simp only [hbig, decide_true, Bool.true_or, if_true]
      intro hc i hi hij hti hcc
      have := hb4 hc
      exact ih1 hc i hi (by omega) hti hcc
    · have e : getw (rowB t (l.take j) 0 ws) (t - (getb l j).tokens.toNat) = getw ws (t - (getb l j).tokens.toNat) := hne _ (by omega)
      rw [e]
      cases hc : (getw ws (t - (getb l j).tokens.toNat)).can with
      | false =>
        simp only [Bool.not_false, Bool.or_true, if_true]
        intro hc i hi hij hti hcc
        have := hb4 hc
        exact ih1 hc i hi (by omega) hti hcc
      | true =>
        simp only [hbig, decide_false, Bool.not_true, Bool.or_self, Bool.false_eq_true, if_false]
        by_cases hx : (!x.can || decide (wrap64 ((getw ws (t - (getb l j).tokens.toNat)).price + (getb l j).price) < x.price)) = true
        · rw [if_pos hx]
          dsimp only
          intro _ i hi hij hti hcc
          have hxc := ih2 i (by omega) hti hcc
          have := ih3 i (by omega) hti hcc
          simp only [hxc, Bool.not_true, Bool.false_or, decide_eq_true_eq] at hx
          omega
        · rw [if_neg hx]
          intro hc i hi hij hti hcc
          have := hb4 hc
          exact ih1 hc i hi (by omega) hti hcc
theorem ways_first (l : List Bundle) (hpos : ∀ k, k < l.length → 1 ≤ (getb l k).tokens) (most t : Nat) (ht0 : 0 < t) (ht : t ≤ most) (hc : (getw (waysK l most most) t).can = true) :
    ∀ i : Nat, (i : Int) < (getw (waysK l most most) t).bundle → i < l.length → (getb l i).tokens.toNat ≤ t → (getw (waysK l most most) (t - (getb l i).tokens.toNat)).can = true → (getw (waysK l most most) t).price < wrap64 ((getw (waysK l most most) (t - (getb l i).tokens.toNat)).price + (getb l i).price) := by
  obtain ⟨k, rfl⟩ : ∃ k, t = k + 1 := ⟨t - 1, by omega⟩
  obtain ⟨d, hd⟩ : ∃ d, most = k + 1 + d := ⟨most - (k + 1), by omega⟩
  have hfix : ∀ u, u ≤ k + 1 → getw (waysK l most most) u = getw (waysK l most (k + 1)) u := fun u hu => by
    have := waysK_fix l most (k + 1) d u hu
    rw [← hd] at this
    exact this
  have hfix0 : ∀ u, u ≤ k → getw (waysK l most most) u = getw (waysK l most k) u := fun u hu => by
    have := waysK_fix l most k (1 + d) u hu
    rw [show k + (1 + d) = most from by omega] at this
    exact this
  have h1 := row_first l hpos (waysK l most k) (k + 1) (by rw [waysK_length]; omega) (by rw [waysK_hi l most k _ (by omega)]) l.length (Nat.le_refl _)
  rw [List.take_length] at h1
  rw [hfix (k + 1) (Nat.le_refl _), waysK] at hc ⊢
  intro i hi hil hti hc'
  have := hpos i hil
  rw [hfix0 _ (by omega)] at hc' ⊢
  exact h1 hc i hi hil hti hc'

/-- Numbers of bundles that have just t tokens for the least price. -/
def OptAt (F : Fair) (most t : Nat) (cs : List Int) : Prop :=
  cs.length = F.bundles.length ∧ (∀ c ∈ cs, 0 ≤ c) ∧ dot cs (toks F.bundles) = t ∧ dot cs (prs F.bundles) = (getw (waysK F.bundles most most) t).price
section
variable {F : Fair} (hb : Bounds F)
include hb
theorem toks_nn : ∀ y ∈ toks F.bundles, 0 ≤ y := fun y hy => by
  obtain ⟨b, hbm, rfl⟩ := List.mem_map.1 hy
  have := (hb.bu b hbm).1; omega
/-- One bundle less of a cheapest choice leaves a cheapest choice. -/
theorem opt_less (most : Nat) (hm : most ≤ 2000) (t : Nat) (ht : t ≤ most) (cs : List Int) (h : OptAt F most t cs) (i : Nat) (hi : i < F.bundles.length) (hp : 0 < geti cs i) :
    ∃ tok : Nat, (getb F.bundles i).tokens = tok ∧ 1 ≤ tok ∧ tok ≤ t ∧ (getw (waysK F.bundles most most) (t - tok)).can = true ∧ wrap64 ((getw (waysK F.bundles most most) (t - tok)).price + (getb F.bundles i).price) = (getw (waysK F.bundles most most) t).price ∧
      OptAt F most (t - tok) (cs.set i (geti cs i - 1)) := by
  obtain ⟨hl, hn, ht1, hp1⟩ := h
  obtain ⟨t0, t1, p0, p1, _⟩ := hb.bu _ (getb_mem F.bundles i hi)
  obtain ⟨tok, htok⟩ := Int.eq_ofNat_of_zero_le (show 0 ≤ (getb F.bundles i).tokens by omega)
  have hn' := nn_set' (i := i) (x := geti cs i - 1) hn (by omega)
  have e1 := dot_set cs (toks F.bundles) i (geti cs i - 1) (by omega) (by rw [toks_len]; exact hi)
  have e2 := dot_set cs (prs F.bundles) i (geti cs i - 1) (by omega) (by rw [prs_len]; exact hi)
  rw [toks_at _ _ hi, show geti cs i - 1 - geti cs i = -1 from by omega] at e1
  rw [prs_at _ _ hi, show geti cs i - 1 - geti cs i = -1 from by omega] at e2
  have hnn := dot_nn _ _ hn' (toks_nn hb)
  have hle : tok ≤ t := by omega
  obtain ⟨c1, c2⟩ := ways_le hb most hm (t - tok) (by omega) (cs.set i (geti cs i - 1)) (by simpa using hl) hn' (by omega)
  have hmn := ways_min F.bundles (hpos1 hb) most t (by omega) ht i hi (by omega) (by rw [htok, Int.toNat_natCast]; exact c1)
  rw [htok, Int.toNat_natCast] at hmn
  obtain ⟨g1, g2, g3⟩ := ways_refund hb most hm (t - tok) (by omega) c1
  have ew : wrap64 ((getw (waysK F.bundles most most) (t - tok)).price + (getb F.bundles i).price) = (getw (waysK F.bundles most most) (t - tok)).price + (getb F.bundles i).price := wrap64_id (by omega) (by omega)
  rw [ew] at hmn
  exact ⟨tok, htok, by omega, hle, c1, by rw [ew]; omega, by simpa using hl, hn', by omega, by omega⟩
theorem trace_lex (most : Nat) (hm : most ≤ 2000) : ∀ (f t : Nat) (acc : List Int) (M : Int), t < f → t ≤ most → (getw (waysK F.bundles most most) t).can = true → acc.length = F.bundles.length → (∀ c ∈ acc, 0 ≤ c ∧ c ≤ M) → 0 ≤ M → M + f ≤ 1000000000 →
    (∀ i, i < F.bundles.length → geti acc i ≤ geti (traceB F.bundles (waysK F.bundles most most) f t acc) i) ∧
    (∀ cs, OptAt F most t cs → ∀ i, i < F.bundles.length → (∀ j, j < i → geti cs j + geti acc j = geti (traceB F.bundles (waysK F.bundles most most) f t acc) j) → geti cs i + geti acc i ≤ geti (traceB F.bundles (waysK F.bundles most most) f t acc) i) := by
  intro f
  induction f with
  | zero => intro t acc M h; omega
  | succ f ih =>
    intro t acc M hf ht hc hl hcs hM0 hM
    rcases Nat.eq_zero_or_pos t with h0 | h0
    · subst h0
      have e : traceB F.bundles (waysK F.bundles most most) (f + 1) ((0 : Nat) : Int) acc = acc := by simp [traceB]
      rw [e]
      refine ⟨fun _ _ => Int.le_refl _, fun cs hcs' i hi _ => ?_⟩
      rcases Int.lt_or_le 0 (geti cs i) with hp | hp
      · obtain ⟨tok, _, h1, h2, _⟩ := opt_less hb most hm 0 (by omega) cs hcs' i hi hp
        omega
      · omega
    · obtain ⟨i0, tok, hi, hbn, htk, k1, k2, hcan, hp⟩ := (ways_link F.bundles (hpos1 hb) most t h0 ht).1 hc
      have hci := geti_in hcs i0 (by omega)
      have e0 : addi acc (i0 : Int) 1 = acc.set i0 (geti acc i0 + 1) := by
        unfold addi
        rw [wrap64_id (by omega) (by omega), Int.toNat_natCast]
      have et : traceB F.bundles (waysK F.bundles most most) (f + 1) (t : Int) acc = traceB F.bundles (waysK F.bundles most most) f ((t - tok : Nat) : Int) (acc.set i0 (geti acc i0 + 1)) := by
        rw [traceB, if_pos (by omega), Int.toNat_natCast, hbn, e0, htk, show (t : Int) - (tok : Int) = ((t - tok : Nat) : Int) from by omega]
      obtain ⟨q1, q2⟩ := ih (t - tok) (acc.set i0 (geti acc i0 + 1)) (M + 1) (by omega) (by omega) hcan (by simpa using hl) (fun c hc => by
        rcases List.mem_or_eq_of_mem_set hc with h | rfl
        · have := hcs c h; omega
        · omega) (by omega) (by omega)
      rw [et]
      generalize traceB F.bundles (waysK F.bundles most most) f ((t - tok : Nat) : Int) (acc.set i0 (geti acc i0 + 1)) = r at *
      have hset : ∀ i : Nat, geti (acc.set i0 (geti acc i0 + 1)) i = if i = i0 then geti acc i0 + 1 else geti acc i := fun i => geti_put acc i0 i _ (by omega)
      refine ⟨fun i hil => ?_, fun cs hopt i hil hpre => ?_⟩
      · have h1 := q1 i hil
        rw [hset] at h1
        split at h1
        · subst_vars; omega
        · exact h1
      · rcases Int.lt_or_le 0 (geti cs i0) with hp0 | hp0
        · obtain ⟨tok', htok', _, _, _, _, hopt'⟩ := opt_less hb most hm t ht cs hopt i0 hi hp0
          have : tok' = tok := by omega
          subst this
          have hset' : ∀ i : Nat, geti (cs.set i0 (geti cs i0 - 1)) i = if i = i0 then geti cs i0 - 1 else geti cs i := fun i => geti_put cs i0 i _ (by have := hopt.1; omega)
          have h2 := q2 _ hopt' i hil (fun j hj => by
            rw [hset, hset', ← hpre j hj]
            split
            · subst_vars; omega
            · rfl)
          rw [hset, hset'] at h2
          split at h2
          · subst_vars; omega
          · exact h2
        · have hnn : ∀ j : Nat, j < F.bundles.length → 0 ≤ geti cs j := fun j hj => geti_nn hopt.2.1 j (by have := hopt.1; omega)
          have hz0 := hnn i0 hi
          have h1 := q1 i hil
          rw [hset] at h1
          rcases Nat.lt_trichotomy i i0 with hlt | rfl | hgt
          · rw [if_neg (by omega)] at h1
            rcases Int.lt_or_le 0 (geti cs i) with hpi | hpi
            · exfalso
              obtain ⟨tok', htok', a1, a2, a3, a4, _⟩ := opt_less hb most hm t ht cs hopt i hil hpi
              have := ways_first F.bundles (hpos1 hb) most t h0 ht hc i (by rw [hbn]; omega) hil (by rw [htok', Int.toNat_natCast]; exact a2) (by rw [htok', Int.toNat_natCast]; exact a3)
              rw [htok', Int.toNat_natCast] at this
              omega
            · have := hnn i hil; omega
          · rw [if_pos rfl] at h1; omega
          · exfalso
            have h3 := hpre i0 hgt
            have h4 := q1 i0 hi
            rw [hset, if_pos rfl] at h4
            omega
end
end Go.Proofs.Ytonbaikdpcmbiaa
