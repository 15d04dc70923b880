/- Plain facts: the specification's Buy finds what cheapest finds. No program, no memory. -/
import Derived.Test.YtonbaikdpcmbiaaPb
namespace Go.Proofs.Ytonbaikdpcmbiaa
open Go.RowKit

theorem mem_drop_nn {l : List Int} (h : ∀ x ∈ l, 0 ≤ x) (i : Nat) : ∀ x ∈ l.drop i, 0 ≤ x := fun x hx => h x (List.mem_of_mem_drop hx)
theorem mem_take_nn {l : List Int} (h : ∀ x ∈ l, 0 ≤ x) (i : Nat) : ∀ x ∈ l.take i, 0 ≤ x := fun x hx => h x (List.mem_of_mem_take hx)
theorem geti_lt (l : List Int) (i : Nat) (h : i < l.length) : geti l i = l[i] := by simp [geti, List.getElem?_eq_getElem h]
/-- A choice that begins as another one. -/
theorem dot_mix (r cs ys : List Int) (c : Int) (i : Nat) (hi : i < ys.length) (hr : i ≤ r.length) :
    dot (r.take i ++ c :: cs) ys = dot (r.take i) ys + (c * geti ys i + dot cs (ys.drop (i + 1))) := by
  rw [dot_split i]
  have h1 : (r.take i ++ c :: cs).take i = r.take i := by
    rw [List.take_append_of_le_length (by simp; omega), List.take_of_length_le (by simp; omega)]
  have h2 : (r.take i ++ c :: cs).drop i = c :: cs := by
    rw [List.drop_append_of_le_length (by simp; omega), List.drop_of_length_le (by simp; omega), List.nil_append]
  rw [h1, h2, List.drop_eq_getElem_cons hi, dot, geti_lt _ _ hi]
theorem dot_self (r ys : List Int) (i : Nat) (hi : i < ys.length) (hr : i < r.length) :
    dot (r.drop i) (ys.drop i) = geti r i * geti ys i + dot (r.drop (i + 1)) (ys.drop (i + 1)) := by
  rw [List.drop_eq_getElem_cons hi, List.drop_eq_getElem_cons hr, dot, geti_lt _ _ hi, geti_lt _ _ hr]
theorem toks_drop (l : List Bundle) (i : Nat) : toks (l.drop i) = (toks l).drop i := by simp [toks, List.map_drop]
theorem prs_drop (l : List Bundle) (i : Nat) : prs (l.drop i) = (prs l).drop i := by simp [prs, List.map_drop]

theorem st_inv {F : Fair} (hb : Bounds F) (most : Nat) (hm : most ≤ 2000) (b : Nat) (hbm : b ≤ most) (hc : (getw (waysK F.bundles most most) b).can = true) :
    ∃ r, traceB F.bundles (waysK F.bundles most most) (b + 1) b (List.replicate F.bundles.length 0) = r ∧ r.length = F.bundles.length ∧ ∀ i, i ≤ F.bundles.length →
      (stR F.bundles b (getw (waysK F.bundles most most) b).price i).out = r.take i ∧
      (stR F.bundles b (getw (waysK F.bundles most most) b).price i).left = dot (r.drop i) ((toks F.bundles).drop i) ∧
      (stR F.bundles b (getw (waysK F.bundles most most) b).price i).price = dot (r.drop i) ((prs F.bundles).drop i) ∧
      0 ≤ dot (r.drop i) ((toks F.bundles).drop i) ∧ dot (r.drop i) ((toks F.bundles).drop i) ≤ b ∧
      0 ≤ dot (r.drop i) ((prs F.bundles).drop i) ∧ dot (r.drop i) ((prs F.bundles).drop i) ≤ 2000000000 := by
  have z0 : (List.replicate F.bundles.length (0 : Int)).length = F.bundles.length := by simp
  have z1 : ∀ c ∈ List.replicate F.bundles.length (0 : Int), 0 ≤ c ∧ c ≤ 0 := fun c hc => by have := List.eq_of_mem_replicate hc; omega
  have z2 : ∀ j : Nat, geti (List.replicate F.bundles.length (0 : Int)) j = 0 := fun j => by
    simp only [geti, Int.toNat_natCast, List.getElem?_replicate]; split <;> rfl
  obtain ⟨r, hr, r1, r2, r3, r4⟩ := trace_sum hb most hm (b + 1) b (List.replicate F.bundles.length 0) 0 (by omega) hbm hc z0 z1 (by omega) (by omega)
  obtain ⟨_, lex⟩ := trace_lex hb most hm (b + 1) b (List.replicate F.bundles.length 0) 0 (by omega) hbm hc z0 z1 (by omega) (by omega)
  rw [hr] at lex
  rw [dot_zero, Int.zero_add] at r3 r4
  obtain ⟨g1, g2, g3⟩ := ways_refund hb most hm b hbm hc
  have wle := ways_le hb most hm b hbm
  have hopt : ∀ cs, cs.length = F.bundles.length → (∀ c ∈ cs, 0 ≤ c) → dot cs (toks F.bundles) = b → dot cs (prs F.bundles) = (getw (waysK F.bundles most most) b).price → OptAt F most b cs := fun cs a1 a2 a3 a4 => ⟨a1, a2, a3, a4⟩
  generalize (getw (waysK F.bundles most most) b).price = P at *
  have hT := nnT (bok_of hb)
  have hP := nnP (bok_of hb)
  have lT := toks_len F.bundles
  have lP := prs_len F.bundles
  have bd : ∀ i, 0 ≤ dot (r.drop i) ((toks F.bundles).drop i) ∧ dot (r.drop i) ((toks F.bundles).drop i) ≤ b ∧ 0 ≤ dot (r.drop i) ((prs F.bundles).drop i) ∧ dot (r.drop i) ((prs F.bundles).drop i) ≤ 2000000000 := fun i => by
    have h1 := dot_nn _ _ (mem_drop_nn r2 i) (mem_drop_nn hT i)
    have h2 := dot_nn _ _ (mem_drop_nn r2 i) (mem_drop_nn hP i)
    have h3 := dot_nn _ _ (mem_take_nn r2 i) hT
    have h4 := dot_nn _ _ (mem_take_nn r2 i) hP
    have h5 := dot_split i r (toks F.bundles)
    have h6 := dot_split i r (prs F.bundles)
    refine ⟨h1, by omega, h2, by omega⟩
  refine ⟨r, hr, r1, fun i => ?_⟩
  induction i with
  | zero => intro _; exact ⟨rfl, by simp [stR, r3], by simp [stR, r4], bd 0⟩
  | succ i ih =>
    intro hi
    obtain ⟨i1, i2, i3, _⟩ := ih (by omega)
    obtain ⟨t0, t1, p0, p1, _⟩ := hb.bu _ (getb_mem F.bundles i (by omega))
    obtain ⟨b1, b2, b3, b4⟩ := bd i
    obtain ⟨c1, c2, c3, c4⟩ := bd (i + 1)
    have sT := dot_self r (toks F.bundles) i (by omega) (by omega)
    have sP := dot_self r (prs F.bundles) i (by omega) (by omega)
    rw [toks_at _ _ (by omega)] at sT
    rw [prs_at _ _ (by omega)] at sP
    have spT := dot_split i r (toks F.bundles)
    have spP := dot_split i r (prs F.bundles)
    have hri := geti_nn r2 i (by omega)
    have hbs : BOk (F.bundles.drop (i + 1)) := fun x hx => bok_of hb x (List.mem_of_mem_drop hx)
    have hlb : (F.bundles.drop (i + 1)).length = F.bundles.length - (i + 1) := by simp
    simp only [stR, i1, i2, i3]
    -- a choice for the rest makes a choice of all
    have mix : ∀ (c : Int) (cs : List Int), 0 ≤ c → cs.length = F.bundles.length - (i + 1) → (∀ x ∈ cs, 0 ≤ x) →
        (r.take i ++ c :: cs).length = F.bundles.length ∧ (∀ x ∈ r.take i ++ c :: cs, 0 ≤ x) ∧
        dot (r.take i ++ c :: cs) (toks F.bundles) = dot (r.take i) (toks F.bundles) + (c * (getb F.bundles i).tokens + dot cs ((toks F.bundles).drop (i + 1))) ∧
        dot (r.take i ++ c :: cs) (prs F.bundles) = dot (r.take i) (prs F.bundles) + (c * (getb F.bundles i).price + dot cs ((prs F.bundles).drop (i + 1))) := by
      intro c cs hc0 hcl hcn
      refine ⟨by simp; omega, fun x hx => ?_, ?_, ?_⟩
      · rcases List.mem_append.1 hx with h | h
        · exact r2 x (List.mem_of_mem_take h)
        · rcases List.mem_cons.1 h with rfl | h
          · exact hc0
          · exact hcn x h
      · rw [dot_mix _ _ _ _ _ (by omega) (by omega), toks_at _ _ (by omega)]
      · rw [dot_mix _ _ _ _ _ (by omega) (by omega), prs_at _ _ (by omega)]
    generalize hL : dot (r.drop i) ((toks F.bundles).drop i) = L at *
    generalize hQ : dot (r.drop i) ((prs F.bundles).drop i) = Q at *
    generalize dot (r.take i) (toks F.bundles) = TT at *
    generalize dot (r.take i) (prs F.bundles) = TP at *
    obtain ⟨ri, hrie⟩ := Int.eq_ofNat_of_zero_le hri
    obtain ⟨LN, rfl⟩ := Int.eq_ofNat_of_zero_le b1
    have hdiv : ∀ c : Nat, c ≤ ((LN : Int).tdiv (getb F.bundles i).tokens).toNat → (c : Int) * (getb F.bundles i).tokens ≤ LN ∧ c ≤ 2000 ∧ (c : Int) * (getb F.bundles i).price ≤ 2000000000 ∧ 0 ≤ (c : Int) * (getb F.bundles i).tokens ∧ 0 ≤ (c : Int) * (getb F.bundles i).price := by
      intro c hcm
      rw [Int.tdiv_eq_ediv_of_nonneg (by omega)] at hcm
      have h0 : 0 ≤ (LN : Int) / (getb F.bundles i).tokens := Int.ediv_nonneg (by omega) (by omega)
      have h1 : (c : Int) * (getb F.bundles i).tokens ≤ LN := Int.mul_le_of_le_ediv (by omega) (by omega)
      have h2 : (c : Int) * 1 ≤ (c : Int) * (getb F.bundles i).tokens := Int.mul_le_mul_of_nonneg_left t0 (by omega)
      have h3 := mul_bd (show 0 ≤ (c : Int) by omega) (show (c : Int) ≤ 2000 by omega) (show 0 ≤ (getb F.bundles i).price by omega) p1
      have h4 := Int.mul_nonneg (show 0 ≤ (c : Int) by omega) (show 0 ≤ (getb F.bundles i).tokens by omega)
      exact ⟨h1, by omega, by omega, h4, h3.1⟩
    have hrm : ri ≤ ((LN : Int).tdiv (getb F.bundles i).tokens).toNat := by
      rw [Int.tdiv_eq_ediv_of_nonneg (by omega)]
      have : (ri : Int) ≤ (LN : Int) / (getb F.bundles i).tokens := Int.le_ediv_of_mul_le (by omega) (by rw [← hrie]; omega)
      omega
    have hcnt : cntS (prL (F.bundles.drop (i + 1)) (LN : Int).toNat) LN Q (getb F.bundles i) ((LN : Int).tdiv (getb F.bundles i).tokens).toNat = ri := by
      rw [Int.toNat_natCast]
      refine cnt_eq _ _ _ _ _ (fun hpos => ?_) _ hrm (fun c hc1 hc2 hc3 hc4 => ?_)
      · obtain ⟨d1, d2, d3, d4, d5⟩ := hdiv ri hrm
        rw [hrie] at sT sP
        rw [wrap64_id (n := (ri : Int) * (getb F.bundles i).price) (by omega) (by omega), wrap64_id (n := (ri : Int) * (getb F.bundles i).tokens) (by omega) (by omega), wrap64_id (n := (LN : Int) - _) (by omega) (by omega), wrap64_id (n := Q - _) (by omega) (by omega)]
        refine ⟨by omega, ?_⟩
        obtain ⟨u, hu⟩ := Int.eq_ofNat_of_zero_le (show 0 ≤ (LN : Int) - (ri : Int) * (getb F.bundles i).tokens by omega)
        rw [hu]
        have e9 : dot (r.drop (i + 1)) ((toks F.bundles).drop (i + 1)) = u := by omega
        have e8 : (r.drop (i + 1)).length = (F.bundles.drop (i + 1)).length := by simp; omega
        obtain ⟨s1, s2, s3, s4⟩ := pr_spec hbs u LN (by omega)
        have le1 := s4 (r.drop (i + 1)) e8 (mem_drop_nn r2 _) (by rw [toks_drop]; exact e9)
        rw [prs_drop] at le1
        rcases s3 with s3 | ⟨cs, q1, q2, q3, q4⟩
        · omega
        · rw [toks_drop] at q3
          rw [prs_drop] at q4
          obtain ⟨m1, m2, m3, m4⟩ := mix ri cs (Int.natCast_nonneg ri) (q1.trans hlb) q2
          have := (wle _ m1 m2 (by omega)).2
          omega
      · obtain ⟨d1, d2, d3, d4, d5⟩ := hdiv c hc2
        rw [wrap64_id (n := (c : Int) * (getb F.bundles i).price) (by omega) (by omega)] at hc3 hc4
        rw [wrap64_id (n := (c : Int) * (getb F.bundles i).tokens) (by omega) (by omega), wrap64_id (n := (LN : Int) - _) (by omega) (by omega), wrap64_id (n := Q - _) (by omega) (by omega)] at hc4
        obtain ⟨u, hu⟩ := Int.eq_ofNat_of_zero_le (show 0 ≤ (LN : Int) - (c : Int) * (getb F.bundles i).tokens by omega)
        rw [hu] at hc4
        obtain ⟨s1, s2, s3, s4⟩ := pr_spec hbs u LN (by omega)
        rcases s3 with s3 | ⟨cs, q1, q2, q3, q4⟩
        · omega
        · rw [toks_drop] at q3
          rw [prs_drop] at q4
          obtain ⟨m1, m2, m3, m4⟩ := mix c cs (Int.natCast_nonneg c) (q1.trans hlb) q2
          have hl := lex _ (hopt _ m1 m2 (by omega) (by omega)) i (by omega) (fun j hj => by
            rw [z2, Int.add_zero, geti_app _ _ _ (by simp; omega)]
            simp only [geti, Int.toNat_natCast, List.getElem?_take, if_pos hj])
          rw [z2, Int.add_zero] at hl
          have : geti (r.take i ++ (c : Int) :: cs) i = c := by
            simp only [geti, Int.toNat_natCast]
            rw [List.getElem?_append_right (by simp; omega)]
            simp [show i - min i r.length = 0 from by omega]
          omega
    rw [hcnt]
    obtain ⟨d1, d2, d3, d4, d5⟩ := hdiv ri hrm
    rw [hrie] at sT sP
    rw [wrap64_id (n := (ri : Int) * (getb F.bundles i).price) (by omega) (by omega), wrap64_id (n := (ri : Int) * (getb F.bundles i).tokens) (by omega) (by omega), wrap64_id (n := (LN : Int) - _) (by omega) (by omega), wrap64_id (n := Q - _) (by omega) (by omega)]
    refine ⟨?_, by omega, by omega, c1, c2, c3, c4⟩
    rw [List.take_succ_eq_append_getElem (by omega), ← geti_lt r i (by omega), hrie]

/-- What the specification's Buy answers. -/
def rbuyS (F : Fair) (n : Int) : List Int × Int × Int :=
  if validB F = false then ([], 0, 10) else if inB n 0 1000 = false then ([], 0, 1) else if 0 < n ∧ F.bundles.length = 0 then ([], 0, 3) else
  ((stR F.bundles (bestR (prL F.bundles (n.toNat + 1000)) n.toNat 1001) (geti (prL F.bundles (n.toNat + 1000)) (bestR (prL F.bundles (n.toNat + 1000)) n.toNat 1001 : Nat)) F.bundles.length).out,
    geti (prL F.bundles (n.toNat + 1000)) (bestR (prL F.bundles (n.toNat + 1000)) n.toNat 1001 : Nat), 0)
theorem rbuy_eq (F : Fair) (n : Int) : rbuyS F n = buyS F n := by
  unfold rbuyS buyS
  by_cases hv : validB F = false
  · rw [if_pos hv, if_pos hv]
  rw [if_neg hv, if_neg hv]
  have hv : validB F = true := by simpa using hv
  by_cases hn : inB n 0 1000 = false
  · rw [if_pos hn, if_pos hn]
  rw [if_neg hn, if_neg hn]
  have hn : inB n 0 1000 = true := by simpa using hn
  by_cases hz : 0 < n ∧ F.bundles.length = 0
  · rw [if_pos hz, if_pos hz]
  rw [if_neg hz, if_neg hz]
  have hb := bounds_of hv
  obtain ⟨n0, n1⟩ := inB_iff.1 hn
  obtain ⟨k, rfl⟩ := Int.eq_ofNat_of_zero_le n0
  rw [Int.toNat_natCast]
  have hc := best_can F.bundles (fun k hk => ⟨(hb.bu _ (getb_mem F.bundles k hk)).1, (hb.bu _ (getb_mem F.bundles k hk)).2.1⟩) k (by omega)
  obtain ⟨q1, q2⟩ := bestK_bd (waysK F.bundles (k + 999) (k + 999)) k 1000
  rw [best_last hb k (by omega) (by omega), pr_ways hb (k + 999) (by omega) _ (k + 1000) (by omega) (by omega), if_pos hc]
  obtain ⟨r, hr, hrl, hst⟩ := st_inv hb (k + 999) (by omega) _ (by omega) hc
  obtain ⟨h1, _⟩ := hst F.bundles.length (Nat.le_refl _)
  dsimp only [cheapS]
  rw [h1, hr, List.take_of_length_le (by omega)]
end Go.Proofs.Ytonbaikdpcmbiaa
