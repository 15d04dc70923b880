/- Plain facts: what payments do to balances. No program. -/
import Derived.Test.YtdechfjlbdbbnaaTki
import Derived.Test.YtdechfjlbdbbnaaTkp
namespace Go.Proofs.Ytdechfjlbdbbnaa

theorem sumN_abs {f : Nat → Int} {b : Int} : ∀ n, (∀ i, i < n → -b ≤ f i ∧ f i ≤ b) → -(n * b) ≤ sumN f n ∧ sumN f n ≤ n * b := by
  intro n
  induction n with
  | zero => intro _; simp [sumN]
  | succ n ih =>
    intro h
    have h1 := ih fun i hi => h i (by omega)
    have h2 := h n (by omega)
    simp only [sumN]
    rw [show ((n + 1 : Nat) : Int) * b = n * b + b by rw [Int.natCast_add, Int.add_mul]; simp]
    omega
theorem sumW_takeA (zs : List Int) (b : Int) (hb : 0 ≤ b) (hm : (zs.length : Int) * b ≤ 4000000000000000000) (hz : ∀ i, i < zs.length → -b ≤ wAt zs i ∧ wAt zs i ≤ b) : ∀ k, k ≤ zs.length → sumW (zs.take k) = sumN (wAt zs) k := by
  intro k
  induction k with
  | zero => intro _; rfl
  | succ k ih =>
    intro hk
    have h1 := ih (by omega)
    have h2 := sumN_abs (k + 1) fun i hi => hz i (by omega)
    have h3 : ((k + 1 : Nat) : Int) * b ≤ zs.length * b := Int.mul_le_mul_of_nonneg_right (by omega) hb
    simp only [sumN] at h2
    unfold sumW at h1 ⊢
    rw [List.take_succ_eq_append_getElem (by omega), List.foldl_append, h1]
    simp only [List.foldl_cons, List.foldl_nil, sumN]
    have e : zs[k] = wAt zs k := by unfold wAt; rw [List.getElem?_eq_getElem (by omega)]; rfl
    rw [e]
    exact wrap64_id (by omega) (by omega)
theorem sumW_abs {zs : List Int} {b : Int} (hb : 0 ≤ b) (hm : (zs.length : Int) * b ≤ 4000000000000000000) (hz : ∀ i, i < zs.length → -b ≤ wAt zs i ∧ wAt zs i ≤ b) : sumW zs = sumN (wAt zs) zs.length := by
  have := sumW_takeA zs b hb hm hz zs.length (Nat.le_refl _)
  rwa [List.take_length] at this
theorem wAt_set (l : List Int) (i j : Nat) (x : Int) (hi : i < l.length) : wAt (l.set i x) j = if i = j then x else wAt l j := by
  unfold wAt
  rw [List.getElem?_set]
  by_cases e : i = j
  · subst e; rw [if_pos rfl, if_pos hi, if_pos rfl]; rfl
  · rw [if_neg e, if_neg e]
theorem sumN_set (l : List Int) (i : Nat) (x : Int) (hi : i < l.length) : ∀ n, sumN (wAt (l.set i x)) n = sumN (wAt l) n + if i < n then x - wAt l i else 0 := by
  intro n
  induction n with
  | zero => simp [sumN]
  | succ n ih =>
    simp only [sumN]
    rw [ih, wAt_set l i n x hi]
    by_cases e : i = n
    · subst e; rw [if_pos rfl, if_neg (by omega), if_pos (by omega)]; omega
    · rw [if_neg e]
      by_cases h : i < n
      · rw [if_pos h, if_pos (by omega)]; omega
      · rw [if_neg h, if_neg (by omega)]; omega

/-- A payment that may be made. -/
def pyB (n : Int) (p : PyZ) : Bool := allB [p.frm, p.dst] 0 (n - 1) && !decide (p.frm = p.dst) && inB p.cents 1 100000000000
def pyAt (l : List PyZ) (k : Nat) : PyZ := l[k]?.getD ⟨0, 0, 0⟩
def payS (b : List Int) (p : PyZ) : List Int :=
  let b1 := b.set p.frm.toNat (wAt b p.frm.toNat + p.cents)
  b1.set p.dst.toNat (wAt b1 p.dst.toNat - p.cents)
def payN (b : List Int) (l : List PyZ) : Nat → List Int
  | 0 => b
  | k + 1 => payS (payN b l k) (pyAt l k)
def pysB (n : Int) (l : List PyZ) : Nat → Bool
  | 0 => true
  | k + 1 => pysB n l k && pyB n (pyAt l k)
def balB (b : List Int) : Bool := inB b.length 1 10 && allB b (-10000000000) 10000000000
/-- What Pay returns. -/
def payR (b : List Int) (l : List PyZ) : List Int × Int := if balB b = false then ([], 1) else if 60 < l.length then ([], 2) else if pysB b.length l l.length = false then ([], 110) else (payN b l l.length, 0)

theorem pysB_out {n : Int} {l : List PyZ} {k : Nat} (h : pyB n (pyAt l k) = false) : ∀ m, k < m → pysB n l m = false := by
  intro m
  induction m with
  | zero => intro hm; omega
  | succ m ih =>
    intro hm
    simp only [pysB]
    by_cases e : k = m
    · subst e; rw [h]; simp
    · rw [ih (by omega)]; rfl
theorem pysB_at {n : Int} {l : List PyZ} : ∀ {m : Nat}, pysB n l m = true → ∀ k, k < m → pyB n (pyAt l k) = true := by
  intro m
  induction m with
  | zero => intro _ k hk; omega
  | succ m ih =>
    intro h k hk
    simp only [pysB, Bool.and_eq_true] at h
    by_cases e : k = m
    · subst e; exact h.2
    · exact ih h.1 k (by omega)
/-- A right payment. -/
structure PyOk (n : Nat) (p : PyZ) : Prop where
  f : ∃ i : Nat, p.frm = (i : Int) ∧ i < n
  t : ∃ i : Nat, p.dst = (i : Int) ∧ i < n
  ne : p.frm ≠ p.dst
  c : 1 ≤ p.cents ∧ p.cents ≤ 100000000000
theorem pyB_ok {n : Nat} {p : PyZ} (h : pyB n p = true) : PyOk n p := by
  unfold pyB allB inB at h
  simp only [List.all_cons, List.all_nil, Bool.and_true, Bool.and_eq_true, decide_eq_true_eq, Bool.not_eq_true', decide_eq_false_iff_not] at h
  obtain ⟨⟨⟨h1, h2⟩, h3⟩, h4⟩ := h
  exact ⟨⟨p.frm.toNat, by omega, by omega⟩, ⟨p.dst.toNat, by omega, by omega⟩, h3, h4⟩
theorem payS_len (b : List Int) (p : PyZ) : (payS b p).length = b.length := by simp [payS]
theorem payN_len (b : List Int) (l : List PyZ) : ∀ k, (payN b l k).length = b.length := by
  intro k
  induction k with
  | zero => rfl
  | succ k ih => simp only [payN]; rw [payS_len, ih]
theorem payS_at {b : List Int} {p : PyZ} (h : PyOk b.length p) (i : Nat) : wAt (payS b p) i = if p.frm = (i : Int) then wAt b i + p.cents else if p.dst = (i : Int) then wAt b i - p.cents else wAt b i := by
  obtain ⟨f, hf, hfl⟩ := h.f
  obtain ⟨t, ht, htl⟩ := h.t
  have hne := h.ne
  unfold payS
  rw [hf, ht, Int.toNat_natCast, Int.toNat_natCast]
  rw [wAt_set _ _ _ _ (by simpa using htl), wAt_set _ _ _ _ hfl, wAt_set _ _ _ _ hfl]
  have hft : f ≠ t := by omega
  rw [if_neg hft]
  by_cases e1 : f = i
  · subst e1
    rw [if_neg (fun e => hft e.symm), if_pos rfl, if_pos rfl]
  · rw [if_neg e1, if_neg (show ¬ (f : Int) = (i : Int) by omega)]
    by_cases e2 : t = i
    · subst e2; rw [if_pos rfl, if_pos rfl]
    · rw [if_neg e2, if_neg (show ¬ (t : Int) = (i : Int) by omega)]
theorem payS_sum {b : List Int} {p : PyZ} (h : PyOk b.length p) : sumN (wAt (payS b p)) b.length = sumN (wAt b) b.length := by
  obtain ⟨f, hf, hfl⟩ := h.f
  obtain ⟨t, ht, htl⟩ := h.t
  have hne := h.ne
  have hft : f ≠ t := by omega
  unfold payS
  rw [hf, ht, Int.toNat_natCast, Int.toNat_natCast]
  rw [sumN_set _ _ _ (by simpa using htl), sumN_set _ _ _ hfl, if_pos htl, if_pos hfl, wAt_set _ _ _ _ hfl, if_neg hft]
  omega
section
variable {b : List Int} {l : List PyZ} (hb : ∀ i, i < b.length → -10000000000 ≤ wAt b i ∧ wAt b i ≤ 10000000000) (hl : ∀ k, k < l.length → PyOk b.length (pyAt l k))
include hb hl
theorem payN_bd : ∀ k, k ≤ l.length → ∀ i, i < b.length → -(10000000000 + 100000000000 * (k : Int)) ≤ wAt (payN b l k) i ∧ wAt (payN b l k) i ≤ 10000000000 + 100000000000 * (k : Int) := by
  intro k
  induction k with
  | zero => intro _ i hi; have := hb i hi; simp only [payN]; omega
  | succ k ih =>
    intro hk i hi
    have h1 := ih (by omega) i hi
    have ho := hl k (by omega)
    simp only [payN]
    rw [payS_at (by rw [payN_len]; exact ho)]
    have hc := ho.c
    split
    · omega
    · split <;> omega
end
theorem payN_sum {b : List Int} {l : List PyZ} (hl : ∀ k, k < l.length → PyOk b.length (pyAt l k)) : ∀ k, k ≤ l.length → sumN (wAt (payN b l k)) b.length = sumN (wAt b) b.length := by
  intro k
  induction k with
  | zero => intro _; rfl
  | succ k ih =>
    intro hk
    simp only [payN]
    have h := payS_sum (b := payN b l k) (p := pyAt l k) (by rw [payN_len]; exact hl k (by omega))
    rw [payN_len] at h
    rw [h]
    exact ih (by omega)
theorem payR_cases (b : List Int) (l : List PyZ) : ((payR b l).1 = [] ∧ (payR b l).2 ≠ 0) ∨ (payR b l = (payN b l l.length, 0) ∧ b.length ≤ 10 ∧ 1 ≤ b.length ∧ l.length ≤ 60 ∧ (∀ i, i < b.length → -10000000000 ≤ wAt b i ∧ wAt b i ≤ 10000000000) ∧ ∀ k, k < l.length → PyOk b.length (pyAt l k)) := by
  unfold payR
  by_cases h1 : balB b = false
  · rw [if_pos h1]; exact .inl ⟨rfl, by decide⟩
  rw [if_neg h1]
  by_cases h2 : 60 < l.length
  · rw [if_pos h2]; exact .inl ⟨rfl, by decide⟩
  rw [if_neg h2]
  by_cases h3 : pysB b.length l l.length = false
  · rw [if_pos h3]; exact .inl ⟨rfl, by decide⟩
  rw [if_neg h3]
  have hb : balB b = true := by simpa using h1
  unfold balB at hb
  simp only [Bool.and_eq_true] at hb
  have h10 : 1 ≤ b.length ∧ b.length ≤ 10 := by have := hb.1; unfold inB at this; simp at this; omega
  exact .inr ⟨rfl, h10.2, h10.1, by omega, fun i hi => allB_at hb.2 hi, fun k hk => pyB_ok (pysB_at (by simpa using h3) k hk)⟩
theorem payR_sum {b : List Int} {l : List PyZ} (h : (payR b l).2 = 0) : sumW (payR b l).1 = sumW b := by
  rcases payR_cases b l with ⟨_, h2⟩ | ⟨h1, h10, _, h60, hb, hl⟩
  · exact absurd h h2
  rw [h1]
  have h5 := payN_bd hb hl l.length (Nat.le_refl _)
  have e1 : sumW (payN b l l.length) = sumN (wAt (payN b l l.length)) (payN b l l.length).length := sumW_abs (b := 10000000000000) (by decide) (by rw [payN_len]; omega) (fun i hi => by rw [payN_len] at hi; have := h5 i hi; omega)
  have e2 : sumW b = sumN (wAt b) b.length := sumW_abs (b := 10000000000) (by decide) (by omega) hb
  rw [e1, e2, payN_len]
  exact payN_sum hl l.length (Nat.le_refl _)
end Go.Proofs.Ytdechfjlbdbbnaa
