/- Plain facts of TokensCheap: what cheapest finds has the price that it says, and no other numbers of bundles are cheaper. No program, no memory. -/
import Derived.Test.YtonbaikdpcmbiaaGa
namespace Go.Proofs.Ytonbaikdpcmbiaa
open Go.RowKit

def dot : List Int → List Int → Int
  | x :: xs, y :: ys => x * y + dot xs ys
  | _, _ => 0
def toks (l : List Bundle) : List Int := l.map (·.tokens)
def prs (l : List Bundle) : List Int := l.map (·.price)
theorem toks_at (l : List Bundle) (k : Nat) (h : k < l.length) : geti (toks l) k = (getb l k).tokens := by simp [geti, getb, toks, List.getElem?_eq_getElem h]
theorem prs_at (l : List Bundle) (k : Nat) (h : k < l.length) : geti (prs l) k = (getb l k).price := by simp [geti, getb, prs, List.getElem?_eq_getElem h]
theorem toks_len (l : List Bundle) : (toks l).length = l.length := by simp [toks]
theorem prs_len (l : List Bundle) : (prs l).length = l.length := by simp [prs]
theorem dot_set (xs : List Int) : ∀ (ys : List Int) (i : Nat) (x : Int), i < xs.length → i < ys.length → dot (xs.set i x) ys = dot xs ys + (x - geti xs i) * geti ys i := by
  induction xs with
  | nil => intro ys i x h; simp at h
  | cons a xs ih =>
    intro ys i x h1 h2
    cases ys with
    | nil => simp at h2
    | cons y ys =>
      cases i with
      | zero => simp only [List.set_cons_zero, dot, geti, Int.toNat_natCast, List.getElem?_cons_zero, Option.getD_some]; rw [Int.sub_mul]; omega
      | succ i =>
        have := ih ys i x (by simpa using h1) (by simpa using h2)
        simp only [List.set_cons_succ, dot, geti, Int.toNat_natCast, List.getElem?_cons_succ] at *
        omega
theorem dot_nn (xs : List Int) : ∀ ys : List Int, (∀ x ∈ xs, 0 ≤ x) → (∀ y ∈ ys, 0 ≤ y) → 0 ≤ dot xs ys := by
  induction xs with
  | nil => intro ys _ _; simp [dot]
  | cons a xs ih =>
    intro ys h1 h2
    cases ys with
    | nil => simp [dot]
    | cons y ys =>
      have := ih ys (fun x hx => h1 x (List.mem_cons_of_mem _ hx)) (fun x hx => h2 x (List.mem_cons_of_mem _ hx))
      have := Int.mul_nonneg (h1 a List.mem_cons_self) (h2 y List.mem_cons_self)
      simp only [dot]; omega
theorem dot_pos (xs : List Int) : ∀ ys : List Int, (∀ x ∈ xs, 0 ≤ x) → 0 < dot xs ys → ∃ i, i < xs.length ∧ i < ys.length ∧ 0 < geti xs i := by
  induction xs with
  | nil => intro ys _ h; simp [dot] at h
  | cons a xs ih =>
    intro ys h1 h
    cases ys with
    | nil => simp [dot] at h
    | cons y ys =>
      by_cases ha : 0 < a
      · exact ⟨0, by simp, by simp, by simpa [geti] using ha⟩
      · have h0 : a = 0 := by have := h1 a List.mem_cons_self; omega
        subst h0
        simp only [dot, Int.zero_mul, Int.zero_add] at h
        obtain ⟨i, q1, q2, q3⟩ := ih ys (fun x hx => h1 x (List.mem_cons_of_mem _ hx)) h
        exact ⟨i + 1, by simpa using q1, by simpa using q2, by simpa [geti] using q3⟩
theorem dot_add (xs : List Int) : ∀ zs ys : List Int, xs.length = zs.length → dot (List.zipWith (· + ·) xs zs) ys = dot xs ys + dot zs ys := by
  induction xs with
  | nil => intro zs ys h; have : zs = [] := List.length_eq_zero_iff.1 h.symm; subst this; simp [dot]
  | cons a xs ih =>
    intro zs ys h
    cases zs with
    | nil => simp at h
    | cons z zs =>
      cases ys with
      | nil => simp [dot]
      | cons y ys =>
        have := ih zs ys (by simpa using h)
        simp only [List.zipWith_cons_cons, dot, Int.add_mul]; omega
theorem dot_take (xs : List Int) : ∀ (ys : List Int) (k : Nat), k < xs.length → k < ys.length → dot (xs.take (k + 1)) ys = dot (xs.take k) ys + geti xs k * geti ys k := by
  induction xs with
  | nil => intro ys k h; simp at h
  | cons a xs ih =>
    intro ys k h1 h2
    cases ys with
    | nil => simp at h2
    | cons y ys =>
      cases k with
      | zero => simp [dot, geti]
      | succ k =>
        have := ih ys k (by simpa using h1) (by simpa using h2)
        simp only [List.take_succ_cons, dot, geti, Int.toNat_natCast, List.getElem?_cons_succ] at *
        omega
theorem geti_in {l : List Int} {lo hi : Int} (h : ∀ x ∈ l, lo ≤ x ∧ x ≤ hi) (k : Nat) (hk : k < l.length) : lo ≤ geti l k ∧ geti l k ≤ hi := by
  refine h _ ?_
  simp only [geti, Int.toNat_natCast, List.getElem?_eq_getElem hk, Option.getD_some]; exact List.getElem_mem hk
theorem geti_nn {l : List Int} (h : ∀ x ∈ l, 0 ≤ x) (k : Nat) (hk : k < l.length) : 0 ≤ geti l k := by
  refine h _ ?_
  simp only [geti, Int.toNat_natCast, List.getElem?_eq_getElem hk, Option.getD_some]; exact List.getElem_mem hk
theorem nn_set' {l : List Int} {i : Nat} {x : Int} (h : ∀ y ∈ l, 0 ≤ y) (hx : 0 ≤ x) : ∀ y ∈ l.set i x, 0 ≤ y := fun y hy => by
  rcases List.mem_or_eq_of_mem_set hy with h1 | rfl
  · exact h y h1
  · exact hx

theorem row_min (l : List Bundle) (hpos : ∀ k, k < l.length → 1 ≤ (getb l k).tokens) (ws : List Way) (t : Nat) (ht : t < ws.length) (h0 : (getw ws t).can = false) : ∀ j, j ≤ l.length →
    ∀ i, i < j → (getb l i).tokens.toNat ≤ t → (getw ws (t - (getb l i).tokens.toNat)).can = true → (getw (rowB t (l.take j) 0 ws) t).price ≤ wrap64 ((getw ws (t - (getb l i).tokens.toNat)).price + (getb l i).price) := by
  intro j
  induction j with
  | zero => intro _ i hi; omega
  | succ j ih =>
    intro hj
    have ih1 := ih (by omega)
    have ih2 := (row_link l hpos ws t ht h0 j (by omega)).2
    rw [rowB_succ t l j (by omega)]
    have hlen : t < (rowB t (l.take j) 0 ws).length := by rw [rowB_length]; exact ht
    have hp := hpos j (by omega)
    rw [tryB_at _ _ _ _ hlen]
    have hne : ∀ u, u ≠ t → getw (rowB t (l.take j) 0 ws) u = getw ws u := fun u hu => rowB_ne t u hu _ _ _
    generalize getw (rowB t (l.take j) 0 ws) t = x at *
    intro i hi hti hcc
    by_cases hbig : (t : Int) < (getb l j).tokens
    · simp only [hbig, decide_true, Bool.true_or, if_true]
      rcases Nat.lt_or_ge i j with h | h
      · exact ih1 i h hti hcc
      · have : i = j := by omega
        subst this
        omega
    · have e : getw (rowB t (l.take j) 0 ws) (t - (getb l j).tokens.toNat) = getw ws (t - (getb l j).tokens.toNat) := hne _ (by omega)
      rw [e]
      cases hc : (getw ws (t - (getb l j).tokens.toNat)).can with
      | false =>
        simp only [Bool.not_false, Bool.or_true, if_true]
        rcases Nat.lt_or_ge i j with h | h
        · exact ih1 i h hti hcc
        · have : i = j := by omega
          subst this
          rw [hc] at hcc
          cases hcc
      | true =>
        simp only [hbig, decide_false, Bool.not_true, Bool.or_self, Bool.false_eq_true, if_false]
        by_cases hx : (!x.can || decide (wrap64 ((getw ws (t - (getb l j).tokens.toNat)).price + (getb l j).price) < x.price)) = true
        · rw [if_pos hx]
          dsimp only
          rcases Nat.lt_or_ge i j with h | h
          · have hxc := ih2 i h hti hcc
            have := ih1 i h hti hcc
            simp only [hxc, Bool.not_true, Bool.false_or, decide_eq_true_eq] at hx
            omega
          · have : i = j := by omega
            subst this
            exact Int.le_refl _
        · rw [if_neg hx]
          rcases Nat.lt_or_ge i j with h | h
          · exact ih1 i h hti hcc
          · have : i = j := by omega
            subst this
            simp only [Bool.or_eq_true, decide_eq_true_eq, not_or] at hx
            omega
theorem ways_min (l : List Bundle) (hpos : ∀ k, k < l.length → 1 ≤ (getb l k).tokens) (most t : Nat) (ht0 : 0 < t) (ht : t ≤ most) :
    ∀ i, i < l.length → (getb l i).tokens.toNat ≤ t → (getw (waysK l most most) (t - (getb l i).tokens.toNat)).can = true → (getw (waysK l most most) t).price ≤ wrap64 ((getw (waysK l most most) (t - (getb l i).tokens.toNat)).price + (getb l i).price) := by
  obtain ⟨k, rfl⟩ : ∃ k, t = k + 1 := ⟨t - 1, by omega⟩
  obtain ⟨d, hd⟩ : ∃ d, most = k + 1 + d := ⟨most - (k + 1), by omega⟩
  have hfix : ∀ u, u ≤ k + 1 → getw (waysK l most most) u = getw (waysK l most (k + 1)) u := fun u hu => by
    have := waysK_fix l most (k + 1) d u hu
    rw [← hd] at this
    exact this
  have hfix0 : ∀ u, u ≤ k → getw (waysK l most most) u = getw (waysK l most k) u := fun u hu => by
    have := waysK_fix l most k (1 + d) u hu
    rw [show k + (1 + d) = most from by omega] at this
    exact this
  have h1 := row_min l hpos (waysK l most k) (k + 1) (by rw [waysK_length]; omega) (by rw [waysK_hi l most k _ (by omega)]) l.length (Nat.le_refl _)
  rw [List.take_length] at h1
  rw [hfix (k + 1) (Nat.le_refl _), waysK]
  intro i hi hti hc
  have := hpos i hi
  rw [hfix0 _ (by omega)] at hc ⊢
  exact h1 i hi hti hc

section
variable {F : Fair} (hb : Bounds F)
include hb
theorem hpos1 : ∀ k, k < F.bundles.length → 1 ≤ (getb F.bundles k).tokens := fun k hk => (hb.bu _ (getb_mem F.bundles k hk)).1
/-- One bundle less. -/
theorem less_one (cs : List Int) (hl : cs.length = F.bundles.length) (hn : ∀ c ∈ cs, 0 ≤ c) (hp : 0 < dot cs (toks F.bundles)) :
    ∃ (i tok : Nat) (cs' : List Int), i < F.bundles.length ∧ (getb F.bundles i).tokens = tok ∧ 1 ≤ tok ∧ tok ≤ 1000 ∧ 1 ≤ (getb F.bundles i).price ∧ cs'.length = F.bundles.length ∧ (∀ c ∈ cs', 0 ≤ c) ∧
      dot cs' (toks F.bundles) = dot cs (toks F.bundles) - tok ∧ dot cs' (prs F.bundles) = dot cs (prs F.bundles) - (getb F.bundles i).price ∧ 0 ≤ dot cs (toks F.bundles) - tok := by
  obtain ⟨i, h1, h2, h3⟩ := dot_pos cs _ hn hp
  rw [toks_len] at h2
  obtain ⟨t0, t1, p0, p1, _⟩ := hb.bu _ (getb_mem F.bundles i h2)
  have hn' := nn_set' (i := i) (x := geti cs i - 1) hn (by omega)
  have e1 := dot_set cs (toks F.bundles) i (geti cs i - 1) h1 (by rw [toks_len]; exact h2)
  have e2 := dot_set cs (prs F.bundles) i (geti cs i - 1) h1 (by rw [prs_len]; exact h2)
  rw [toks_at _ _ h2, show geti cs i - 1 - geti cs i = -1 from by omega] at e1
  rw [prs_at _ _ h2, show geti cs i - 1 - geti cs i = -1 from by omega] at e2
  have ht : ∀ y ∈ toks F.bundles, 0 ≤ y := fun y hy => by
    obtain ⟨b, hbm, rfl⟩ := List.mem_map.1 hy
    have := (hb.bu b hbm).1; omega
  have hnn := dot_nn _ _ hn' ht
  exact ⟨i, (getb F.bundles i).tokens.toNat, cs.set i (geti cs i - 1), h2, by omega, by omega, by omega, p0, by simpa using hl, hn', by omega, by omega, by omega⟩
theorem ways_le (most : Nat) (hm : most ≤ 2000) : ∀ t : Nat, t ≤ most → ∀ cs : List Int, cs.length = F.bundles.length → (∀ c ∈ cs, 0 ≤ c) → dot cs (toks F.bundles) = t →
    (getw (waysK F.bundles most most) t).can = true ∧ (getw (waysK F.bundles most most) t).price ≤ dot cs (prs F.bundles) := by
  intro t
  induction t using Nat.strongRecOn with
  | ind t ih =>
    intro ht cs hl hn hd
    rcases Nat.eq_zero_or_pos t with h0 | h0
    · subst h0
      rw [waysK_zero]
      refine ⟨rfl, dot_nn _ _ hn fun y hy => ?_⟩
      obtain ⟨b, hbm, rfl⟩ := List.mem_map.1 hy
      have := (hb.bu b hbm).2.2.1; omega
    · obtain ⟨i, tok, cs', hi, htk, k1, k2, k3, hl', hn', e1, e2, e3⟩ := less_one hb cs hl hn (by omega)
      obtain ⟨c1, c2⟩ := ih (t - tok) (by omega) (by omega) cs' hl' hn' (by omega)
      have hc := (ways_link F.bundles (hpos1 hb) most t h0 ht).2 i hi (by omega) (by rw [htk]; exact c1)
      have hmn := ways_min F.bundles (hpos1 hb) most t h0 ht i hi (by omega) (by rw [htk]; exact c1)
      rw [htk, Int.toNat_natCast] at hmn
      obtain ⟨g1, g2, g3⟩ := ways_refund hb most hm (t - tok) (by omega) c1
      have := (hb.bu _ (getb_mem F.bundles i hi)).2.2.2.1
      rw [wrap64_id (by omega) (by omega)] at hmn
      exact ⟨hc, by omega⟩
theorem trace_sum (most : Nat) (hm : most ≤ 2000) : ∀ (f t : Nat) (cs : List Int) (M : Int), t < f → t ≤ most → (getw (waysK F.bundles most most) t).can = true → cs.length = F.bundles.length → (∀ c ∈ cs, 0 ≤ c ∧ c ≤ M) → 0 ≤ M → M + f ≤ 1000000000 →
    ∃ r, traceB F.bundles (waysK F.bundles most most) f t cs = r ∧ r.length = F.bundles.length ∧ (∀ c ∈ r, 0 ≤ c) ∧ dot r (toks F.bundles) = dot cs (toks F.bundles) + t ∧ dot r (prs F.bundles) = dot cs (prs F.bundles) + (getw (waysK F.bundles most most) t).price := by
  intro f
  induction f with
  | zero => intro t cs M h; omega
  | succ f ih =>
    intro t cs M hf ht hc hl hcs hM0 hM
    rcases Nat.eq_zero_or_pos t with h0 | h0
    · subst h0
      rw [waysK_zero]
      exact ⟨cs, by simp [traceB], hl, fun c hc => (hcs c hc).1, by simp, by simp⟩
    · obtain ⟨i, tok, hi, hbn, htk, k1, k2, hcan, hp⟩ := (ways_link F.bundles (hpos1 hb) most t h0 ht).1 hc
      obtain ⟨g1, g2, g3⟩ := ways_refund hb most hm (t - tok) (by omega) hcan
      have hpp := (hb.bu _ (getb_mem F.bundles i hi)).2.2.2.1
      have hpl := (hb.bu _ (getb_mem F.bundles i hi)).2.2.1
      rw [wrap64_id (by omega) (by omega)] at hp
      have hci := geti_in hcs i (by omega)
      have e0 : addi cs (i : Int) 1 = cs.set i (geti cs i + 1) := by
        unfold addi
        rw [wrap64_id (by omega) (by omega), Int.toNat_natCast]
      have e1 := dot_set cs (toks F.bundles) i (geti cs i + 1) (by omega) (by rw [toks_len]; exact hi)
      have e2 := dot_set cs (prs F.bundles) i (geti cs i + 1) (by omega) (by rw [prs_len]; exact hi)
      rw [toks_at _ _ hi, show geti cs i + 1 - geti cs i = 1 from by omega, Int.one_mul] at e1
      rw [prs_at _ _ hi, show geti cs i + 1 - geti cs i = 1 from by omega, Int.one_mul] at e2
      obtain ⟨r, hr, r1, r2, r3, r4⟩ := ih (t - tok) (cs.set i (geti cs i + 1)) (M + 1) (by omega) (by omega) hcan (by simpa using hl) (fun c hc => by
        rcases List.mem_or_eq_of_mem_set hc with h | rfl
        · have := hcs c h; omega
        · omega) (by omega) (by omega)
      refine ⟨r, ?_, r1, r2, by omega, by omega⟩
      rw [← hr, traceB, if_pos (by omega), Int.toNat_natCast, hbn, e0, htk, show (t : Int) - (tok : Int) = ((t - tok : Nat) : Int) from by omega]
end
theorem bestK_min (ws : List Way) (n : Nat) : ∀ k j, j < k → (getw ws (n + j)).can = true → (getw ws (bestK ws n k)).can = true ∧ (getw ws (bestK ws n k)).price ≤ (getw ws (n + j)).price ∧ (n + j < bestK ws n k → (getw ws (bestK ws n k)).price < (getw ws (n + j)).price) := by
  intro k
  induction k with
  | zero => intro j h; omega
  | succ k ih =>
    intro j hj hc
    have hbd := bestK_bd ws n k
    simp only [bestK]
    by_cases hx : ((getw ws (n + k)).can && (!(getw ws (bestK ws n k)).can || decide ((getw ws (n + k)).price < (getw ws (bestK ws n k)).price))) = true
    · rw [if_pos hx]
      simp only [Bool.and_eq_true, Bool.or_eq_true, decide_eq_true_eq] at hx
      obtain ⟨hx1, hx2⟩ := hx
      rcases Nat.lt_or_ge j k with h | h
      · obtain ⟨q1, q2, q3⟩ := ih j h hc
        have hlt : (getw ws (n + k)).price < (getw ws (bestK ws n k)).price := by
          rcases hx2 with h | h
          · rw [q1] at h; simp at h
          · exact h
        exact ⟨hx1, by omega, fun _ => by omega⟩
      · have : j = k := by omega
        subst this
        exact ⟨hx1, Int.le_refl _, fun h => by omega⟩
    · rw [if_neg hx]
      rcases Nat.lt_or_ge j k with h | h
      · exact ih j h hc
      · have : j = k := by omega
        subst this
        simp only [Bool.and_eq_true, Bool.or_eq_true, decide_eq_true_eq, hc, true_and, not_or] at hx
        obtain ⟨x1, x2⟩ := hx
        have x1' : (getw ws (bestK ws n j)).can = true := by simpa using x1
        exact ⟨x1', by omega, fun h => by omega⟩

/-- What Buy finds: numbers of bundles that have the tokens and the price, and none are better. -/
structure Best (F : Fair) (n : Int) (r : List Int) (P : Int) (b : Int) : Prop where
  val : validB F = true
  n0 : 0 ≤ n
  n1 : n ≤ 1000
  len : r.length = F.bundles.length
  nn : ∀ c ∈ r, 0 ≤ c
  tk : dot r (toks F.bundles) = b
  pr : dot r (prs F.bundles) = P
  has : n ≤ b
  top : b ≤ 2000
  le : ∀ cs : List Int, cs.length = F.bundles.length → (∀ c ∈ cs, 0 ≤ c) → n ≤ dot cs (toks F.bundles) → P ≤ dot cs (prs F.bundles) ∧ (dot cs (prs F.bundles) = P → b ≤ dot cs (toks F.bundles))
theorem best_of {F : Fair} {n : Int} (h : (buyS F n).2.2 = 0) : ∃ b, Best F n (buyS F n).1 (buyS F n).2.1 b := by
  unfold buyS at h ⊢
  by_cases hv : validB F = false
  · rw [if_pos hv] at h; cases h
  rw [if_neg hv] at h ⊢
  have hv : validB F = true := by simpa using hv
  by_cases hn : inB n 0 1000 = false
  · rw [if_pos hn] at h; cases h
  rw [if_neg hn] at h ⊢
  have hn : inB n 0 1000 = true := by simpa using hn
  by_cases hz : 0 < n ∧ F.bundles.length = 0
  · rw [if_pos hz] at h; cases h
  rw [if_neg hz]
  have hb := bounds_of hv
  obtain ⟨n0, n1⟩ := inB_iff.1 hn
  obtain ⟨k, rfl⟩ := Int.eq_ofNat_of_zero_le n0
  have hc := best_can F.bundles (fun k hk => ⟨(hb.bu _ (getb_mem F.bundles k hk)).1, (hb.bu _ (getb_mem F.bundles k hk)).2.1⟩) k (by omega)
  obtain ⟨q1, q2⟩ := bestK_bd (waysK F.bundles (k + 999) (k + 999)) k 1000
  have hmin := bestK_min (waysK F.bundles (k + 999) (k + 999)) k 1000
  dsimp only [cheapS]
  rw [Int.toNat_natCast]
  generalize bestK (waysK F.bundles (k + 999) (k + 999)) k 1000 = b at *
  obtain ⟨r, hr, r1, r2, r3, r4⟩ := trace_sum hb (k + 999) (by omega) (b + 1) b (List.replicate F.bundles.length 0) 0 (by omega) (by omega) hc (by simp) (fun c hc => by
    have := List.eq_of_mem_replicate hc; omega) (by omega) (by omega)
  have hz0 : ∀ ys : List Int, ∀ m, dot (List.replicate m 0) ys = 0 := by
    intro ys
    induction ys with
    | nil => intro m; cases m <;> simp [dot, List.replicate]
    | cons y ys ih => intro m; cases m with
      | zero => simp [dot]
      | succ m => simp [dot, List.replicate_succ, ih m]
  rw [hz0, Int.zero_add] at r3 r4
  rw [hr]
  refine ⟨b, hv, n0, n1, r1, r2, r3, r4, by omega, by omega, ?_⟩
  intro cs
  obtain ⟨T, hT⟩ : ∃ T, T = (dot cs (toks F.bundles)).toNat := ⟨_, rfl⟩
  induction T using Nat.strongRecOn generalizing cs with
  | ind T ih =>
    intro hl hcn hge
    rcases Nat.lt_or_ge (k + 999) T with h | h
    · obtain ⟨i, tok, cs', hi, htk, k1, k2, k3, hl', hn', e1, e2, e3⟩ := less_one hb cs hl hcn (by omega)
      obtain ⟨u1, u2⟩ := ih (T - tok) (by omega) cs' (by omega) hl' hn' (by omega)
      exact ⟨by omega, fun hx => by omega⟩
    · obtain ⟨c1, c2⟩ := ways_le hb (k + 999) (by omega) T h cs hl hcn (by omega)
      obtain ⟨u1, u2, u3⟩ := hmin (T - k) (by omega) (by rw [show k + (T - k) = T from by omega]; exact c1)
      rw [show k + (T - k) = T from by omega] at u2 u3
      refine ⟨by omega, fun hx => ?_⟩
      rcases Nat.lt_or_ge T b with h3 | h3
      · have := u3 h3; omega
      · omega
theorem best_small {F : Fair} {n P b : Int} {r : List Int} (h : Best F n r P b) : allB r 0 1000 = true := by
  have hb := bounds_of h.val
  refine List.all_eq_true.2 fun c hc => ?_
  obtain ⟨i, hi, rfl⟩ := List.mem_iff_getElem.1 hc
  have hg : geti r i = r[i] := by simp [geti, List.getElem?_eq_getElem hi]
  have h0 := geti_nn h.nn i hi
  have hi' : i < F.bundles.length := by rw [← h.len]; exact hi
  rw [← hg]
  refine inB_iff.2 ⟨h0, ?_⟩
  rcases Int.lt_or_le 0 (geti r i) with hp | hp
  · obtain ⟨t0, t1, p0, p1, _⟩ := hb.bu _ (getb_mem F.bundles i hi')
    have ht : ∀ y ∈ toks F.bundles, 0 ≤ y := fun y hy => by
      obtain ⟨b, hbm, rfl⟩ := List.mem_map.1 hy
      have := (hb.bu b hbm).1; omega
    have e1 := dot_set r (toks F.bundles) i (geti r i - 1) hi (by rw [toks_len]; exact hi')
    have e2 := dot_set r (prs F.bundles) i (geti r i - 1) hi (by rw [prs_len]; exact hi')
    have e3 := dot_set r (toks F.bundles) i 0 hi (by rw [toks_len]; exact hi')
    rw [toks_at _ _ hi', show geti r i - 1 - geti r i = -1 from by omega] at e1
    rw [prs_at _ _ hi', show geti r i - 1 - geti r i = -1 from by omega] at e2
    rw [toks_at _ _ hi'] at e3
    have g3 := dot_nn _ _ (nn_set' (i := i) (x := 0) h.nn (by omega)) ht
    have hle := h.le (r.set i (geti r i - 1)) (by simpa using h.len) (nn_set' h.nn (by omega))
    have htk := h.tk
    have hpr := h.pr
    have hlt : dot (r.set i (geti r i - 1)) (toks F.bundles) < n := by
      rcases Int.lt_or_le (dot (r.set i (geti r i - 1)) (toks F.bundles)) n with h1 | h1
      · exact h1
      · have := (hle h1).1; omega
    have hn1 := h.n1
    rw [show (0 - geti r i) * (getb F.bundles i).tokens = -(geti r i * (getb F.bundles i).tokens) from by rw [Int.zero_sub, Int.neg_mul]] at e3
    have hm : (geti r i - 1) * (getb F.bundles i).tokens < 1000 := by rw [Int.sub_mul]; omega
    have hm2 : (geti r i - 1) * 1 ≤ (geti r i - 1) * (getb F.bundles i).tokens := Int.mul_le_mul_of_nonneg_left t0 (by omega)
    omega
  · omega
theorem cost_dot {F : Fair} (hb : Bounds F) (cs : List Int) (hl : cs.length = F.bundles.length) (ha : allB cs 0 1000 = true) : ∀ k, k ≤ cs.length → costN F.bundles cs k = dot (cs.take k) (toks F.bundles) ∧ costP F.bundles cs k = dot (cs.take k) (prs F.bundles) := by
  intro k
  induction k with
  | zero => intro _; cases hc : F.bundles <;> simp [costN, costP, dot, toks, prs]
  | succ k ih =>
    intro hk
    obtain ⟨i1, i2⟩ := ih (by omega)
    obtain ⟨h1, h2, h3, h4, _⟩ := cost_bd hb cs hl ha k (by omega)
    have h6 := hb.b
    obtain ⟨c0, c1⟩ := allB_at ha k (by omega)
    obtain ⟨t0, t1, p0, p1, _⟩ := hb.bu _ (getb_mem F.bundles k (by omega))
    have m1 := mul_bd c0 c1 (show 0 ≤ (getb F.bundles k).tokens by omega) t1
    have m2 := mul_bd c0 c1 (show 0 ≤ (getb F.bundles k).price by omega) p1
    rw [dot_take _ _ _ (by omega) (by rw [toks_len]; omega), dot_take _ _ _ (by omega) (by rw [prs_len]; omega), toks_at _ _ (by omega), prs_at _ _ (by omega), ← i1, ← i2]
    simp only [costN, costP]
    rw [wrap64_id (n := geti cs k * (getb F.bundles k).tokens) (by omega) (by omega), wrap64_id (n := geti cs k * (getb F.bundles k).price) (by omega) (by omega), wrap64_id (by omega) (by omega), wrap64_id (by omega) (by omega)]
    exact ⟨rfl, rfl⟩
theorem cost_yes {F : Fair} (hv : validB F = true) {cs : List Int} (h : (costS F cs).2.2 = true) : cs.length = F.bundles.length ∧ (∀ c ∈ cs, 0 ≤ c) ∧ (costS F cs).1 = dot cs (toks F.bundles) ∧ (costS F cs).2.1 = dot cs (prs F.bundles) := by
  have hb := bounds_of hv
  unfold costS at h ⊢
  by_cases hl : cs.length = F.bundles.length
  · rw [if_pos hl] at h ⊢
    by_cases ha : allB cs 0 1000 = true
    · rw [if_pos ha]
      obtain ⟨e1, e2⟩ := cost_dot hb cs hl ha cs.length (Nat.le_refl _)
      rw [List.take_length] at e1 e2
      exact ⟨hl, fun c hc => (allB_get ha c hc).1, e1, e2⟩
    · rw [if_neg ha] at h; cases h
  · rw [if_neg hl] at h; cases h
theorem best_cost {F : Fair} {n P b : Int} {r : List Int} (h : Best F n r P b) : costS F r = (b, P, true) := by
  have hb := bounds_of h.val
  have ha := best_small h
  obtain ⟨e1, e2⟩ := cost_dot hb r h.len ha r.length (Nat.le_refl _)
  rw [List.take_length, h.tk] at e1
  rw [List.take_length, h.pr] at e2
  unfold costS
  rw [if_pos h.len, if_pos ha, e1, e2]
theorem best_mono {F : Fair} {n m P Q b c : Int} {r s : List Int} (h : Best F n r P b) (k : Best F m s Q c) (hnm : n ≤ m) : P ≤ Q := by
  have := (h.le s k.len k.nn (by have := k.tk; have := k.has; omega)).1
  have := k.pr
  omega
theorem best_both {F : Fair} {n m P Q S b c d : Int} {r s u : List Int} (h : Best F n r P b) (k : Best F m s Q c) (j : Best F (n + m) u S d) : S ≤ P + Q := by
  have hl : r.length = s.length := by rw [h.len, k.len]
  have e1 := dot_add r s (toks F.bundles) hl
  have e2 := dot_add r s (prs F.bundles) hl
  have := (j.le (List.zipWith (· + ·) r s) (by rw [List.length_zipWith, h.len, k.len]; simp) (fun c hc => by
    obtain ⟨i, hi, rfl⟩ := List.mem_iff_getElem.1 hc
    rw [List.length_zipWith] at hi
    rw [List.getElem_zipWith]
    have := h.nn _ (List.getElem_mem (show i < r.length by omega))
    have := k.nn _ (List.getElem_mem (show i < s.length by omega))
    omega) (by have := h.tk; have := h.has; have := k.tk; have := k.has; omega)).1
  have := h.pr
  have := k.pr
  omega
end Go.Proofs.Ytonbaikdpcmbiaa
