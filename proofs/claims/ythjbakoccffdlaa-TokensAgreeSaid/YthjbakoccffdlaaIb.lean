/- Plain facts: the account agrees: what was sold is what was taken, given back, held and lost; the cash is what was paid. No program, no memory. -/
import Derived.Test.YthjbakoccffdlaaIa
import Derived.Test.YthjbakoccffdlaaWo
namespace Go.Proofs.Ythjbakoccffdlaa
open Go.RowKit

/-- What one deal brings into the tills, in cents. -/
def paidS (F : Fair) (d : Deal) (p : Int) : Int :=
  if d.kind = 1 then wrap64 (p + (getb F.bundles d.n).price) else if d.kind = 3 then wrap64 (p + F.band) else if d.kind = 4 then wrap64 (p - wrap64 (d.n * F.refund)) else p
def paidK (F : Fair) (l : List Deal) : Int := l.foldl (fun p d => paidS F d p) 0

structure Agr (F : Fair) (C : Count) (a : Int × Int × Int) (p m : Int) : Prop where
  a1 : 0 ≤ a.1 ∧ a.1 ≤ m
  a2 : 0 ≤ a.2.1 ∧ a.2.1 ≤ m
  a3 : 0 ≤ a.2.2 ∧ a.2.2 ≤ m
  p1 : -m ≤ p ∧ p ≤ m
  s : a.1 = a.2.1 + a.2.2 + tot (ptok C.purses) + C.lost
  c : tot C.cash = tot F.cash + p

section
variable {F : Fair} {C C' : Count} {T m q p : Int} {d : Deal} {a : Int × Int × Int}
theorem agr_step (hb : Bounds F) (h : Inv F C T q) (hT : T ≤ 800000) (hq : 0 ≤ q ∧ q ≤ 1000000000000) (g : Agr F C a p m) (hm : 0 ≤ m ∧ m ≤ 1000000000000000) (hs : stepS F C d = some C') :
    Agr F C' (tallyS F C' d a) (paidS F d p) (m + 100000000) := by
  obtain ⟨g1, g2, g3, g4, g5, g6⟩ := g
  obtain ⟨m1, m2⟩ := hm
  unfold stepS at hs
  by_cases k1 : d.kind = 1
  · rw [if_pos k1] at hs
    have hbk := hb
    unfold sellS at hs
    split at hs
    · cases hs
    rename_i h1
    split at hs
    · cases hs
    injection hs with hs
    subst hs
    simp only [Bool.or_eq_true, Bool.not_eq_true', not_or, Bool.not_eq_false] at h1
    obtain ⟨⟨ht, hp⟩, hn⟩ := h1
    obtain ⟨i, ei, hi⟩ := isTill_nat ht
    obtain ⟨b, eb, hbb⟩ := isPurse_nat hp
    have hn' := inB_iff.1 hn
    obtain ⟨n, en⟩ := Int.eq_ofNat_of_zero_le hn'.1
    have hbu := hb.bu (getb F.bundles n) (by
      simp only [getb, Int.toNat_natCast, List.getElem?_eq_getElem (show n < F.bundles.length by omega), Option.getD_some]; exact List.getElem_mem _)
    simp only [tallyS, paidS, k1, if_true]
    rw [ei, eb, en]
    generalize getb F.bundles n = bn at *
    have p1 := purse_bd h hT hbb
    have c1 := cash_bd h hi
    have w1 : wrap64 (a.1 + bn.tokens) = a.1 + bn.tokens := wrap64_id (by omega) (by omega)
    have w2 : wrap64 ((getp C.purses b).tokens + bn.tokens) = (getp C.purses b).tokens + bn.tokens := wrap64_id (by omega) (by omega)
    have w3 : wrap64 (geti C.cash i + bn.price) = geti C.cash i + bn.price := wrap64_id (by omega) (by omega)
    have w4 : wrap64 (p + bn.price) = p + bn.price := wrap64_id (by omega) (by omega)
    rw [w1, w4]
    refine ⟨by dsimp only; omega, by dsimp only; omega, by dsimp only; omega, by omega, ?_, ?_⟩
    · simp only [addp, Int.toNat_natCast, w2]; rw [tot_p h hbb]; omega
    · simp only [addi, Int.toNat_natCast, w3]; rw [tot_set _ _ _ (by rw [h.n2]; exact hi)]; omega
  rw [if_neg k1] at hs
  by_cases k2 : d.kind = 2
  · rw [if_pos k2] at hs
    unfold rideS at hs
    split at hs
    · cases hs
    rename_i h1
    split at hs
    · cases hs
    rename_i h2
    injection hs with hs
    simp only [Bool.or_eq_true, Bool.not_eq_true', not_or, Bool.not_eq_false] at h1
    obtain ⟨⟨hp, hx⟩, hn⟩ := h1
    obtain ⟨i, ei, hi⟩ := isPurse_nat hp
    have hn' := inB_iff.1 hn
    have hfe : fareS C' d = fareS C d := by
      subst hs
      simp only [fareS, subp, ei, Int.toNat_natCast, getp]
      rw [List.getElem?_set]
      simp only [if_true]
      split <;> simp_all [getp]
    have hf : 0 ≤ fareS C d ∧ fareS C d ≤ 1000 := by unfold fareS; split <;> omega
    simp only [tallyS, paidS, k2, if_true, hfe]
    subst hs
    rw [ei]
    rw [ei] at h2
    generalize fareS C d = f at *
    have p1 := purse_bd h hT hi
    have w1 : wrap64 ((getp C.purses i).tokens - f) = (getp C.purses i).tokens - f := wrap64_id (by omega) (by omega)
    have w2 : wrap64 (a.2.1 + f) = a.2.1 + f := wrap64_id (by omega) (by omega)
    have e3 : ¬ (2 : Int) = 1 := by omega
    have e4 : ¬ (2 : Int) = 3 := by omega
    have e5 : ¬ (2 : Int) = 4 := by omega
    simp only [e3, e4, e5, if_false, w2]
    refine ⟨by dsimp only; omega, by dsimp only; omega, by dsimp only; omega, by omega, ?_, g6⟩
    simp only [subp, Int.toNat_natCast, w1]; rw [tot_p h hi]; omega
  rw [if_neg k2] at hs
  by_cases k3 : d.kind = 3
  · rw [if_pos k3] at hs
    unfold bandS at hs
    split at hs
    · cases hs
    rename_i h1
    injection hs with hs
    subst hs
    simp only [Bool.or_eq_true, Bool.not_eq_true', not_or, Bool.not_eq_false] at h1
    obtain ⟨⟨ht, hp⟩, _⟩ := h1
    obtain ⟨i, ei, hi⟩ := isTill_nat ht
    obtain ⟨b, eb, hbb⟩ := isPurse_nat hp
    have c1 := cash_bd h hi
    have e1 := hb.d1
    have e2 := hb.d2
    have t3 : ∀ C1, tallyS F C1 d a = a := fun C1 => by simp [tallyS, k3]
    have q3 : paidS F d p = wrap64 (p + F.band) := by simp [paidS, k3]
    rw [t3, q3]
    rw [ei, eb]
    have w3 : wrap64 (geti C.cash i + F.band) = geti C.cash i + F.band := wrap64_id (by omega) (by omega)
    have w4 : wrap64 (p + F.band) = p + F.band := wrap64_id (by omega) (by omega)
    rw [w4]
    refine ⟨by omega, by omega, by omega, by omega, ?_, ?_⟩
    · simp only [Int.toNat_natCast]; rw [tot_p h hbb]; omega
    · simp only [addi, Int.toNat_natCast, w3]; rw [tot_set _ _ _ (by rw [h.n2]; exact hi)]; omega
  rw [if_neg k3] at hs
  by_cases k4 : d.kind = 4
  · rw [if_pos k4] at hs
    unfold backS at hs
    split at hs
    · cases hs
    rename_i h1
    split at hs
    · cases hs
    rename_i h2
    injection hs with hs
    subst hs
    simp only [Bool.or_eq_true, Bool.not_eq_true', not_or, Bool.not_eq_false] at h1
    obtain ⟨⟨ht, hp⟩, hn⟩ := h1
    obtain ⟨i, ei, hi⟩ := isTill_nat ht
    obtain ⟨b, eb, hbb⟩ := isPurse_nat hp
    have hn' := has_bd hn
    rw [eb] at hn'
    rw [ei] at h2
    have hmul := mul_bd (show 0 ≤ d.n by omega) hn'.2.2 hb.r1 hb.r2
    have w0 : wrap64 (d.n * F.refund) = d.n * F.refund := wrap64_id (by omega) (by omega)
    have t4 : ∀ C1, tallyS F C1 d a = (a.1, a.2.1, wrap64 (a.2.2 + d.n)) := fun C1 => by simp [tallyS, k4]
    have q4 : paidS F d p = wrap64 (p - wrap64 (d.n * F.refund)) := by simp [paidS, k4]
    rw [t4, q4, ei, eb]
    rw [w0] at h2 ⊢
    generalize d.n * F.refund = z at *
    generalize d.n = n at *
    have p1 := purse_bd h hT hbb
    have c1 := cash_bd h hi
    have w1 : wrap64 ((getp C.purses b).tokens - n) = (getp C.purses b).tokens - n := wrap64_id (by omega) (by omega)
    have w2 : wrap64 (a.2.2 + n) = a.2.2 + n := wrap64_id (by omega) (by omega)
    have w3 : wrap64 (geti C.cash i - z) = geti C.cash i - z := wrap64_id (by omega) (by omega)
    have w4 : wrap64 (p - z) = p - z := wrap64_id (by omega) (by omega)
    rw [w2, w4]
    refine ⟨by dsimp only; omega, by dsimp only; omega, by dsimp only; omega, by omega, ?_, ?_⟩
    · simp only [subp, Int.toNat_natCast, w1]; rw [tot_p h hbb]; omega
    · simp only [subi, Int.toNat_natCast, w3]; rw [tot_set _ _ _ (by rw [h.n2]; exact hi)]; omega
  rw [if_neg k4] at hs
  have tn : ∀ C1, tallyS F C1 d a = a := fun C1 => by simp [tallyS, k1, k2, k4]
  have qn : paidS F d p = p := by simp [paidS, k1, k3, k4]
  rw [tn, qn]
  have fin : tot (ptok C'.purses) + C'.lost = tot (ptok C.purses) + C.lost ∧ tot C'.cash = tot C.cash := by
    by_cases k5 : d.kind = 5
    · rw [if_pos k5] at hs
      unfold emptyS at hs
      split at hs
      · cases hs
      injection hs with hs
      subst hs
      exact ⟨rfl, rfl⟩
    rw [if_neg k5] at hs
    have e1 := h.t
    by_cases k6 : d.kind = 6
    · rw [if_pos k6] at hs
      have h2 := give_inv h hT hq.1 hs
      have e2 := h2.t
      unfold giveS at hs
      split at hs
      · cases hs
      injection hs with hs
      subst hs
      dsimp only at e2 ⊢
      exact ⟨by omega, rfl⟩
    rw [if_neg k6] at hs
    by_cases k7 : d.kind = 7
    · rw [if_pos k7] at hs
      have h2 := lose_inv h hT hq.1 hs
      have e2 := h2.t
      unfold loseS at hs
      split at hs
      · cases hs
      injection hs with hs
      subst hs
      dsimp only at e2 ⊢
      exact ⟨by omega, rfl⟩
    rw [if_neg k7] at hs
    cases hs
  exact ⟨by omega, by omega, by omega, by omega, by omega, by omega⟩
end
theorem agr_run {F : Fair} (hb : Bounds F) {T : Int} (hT : T ≤ 800000) (l : List Deal) : ∀ (C : Count) (t q p m : Int) (a : Int × Int × Int) (C' : Count) (t' : Int), Inv F C T q → 0 ≤ q → q + 1000000 * l.length ≤ 1000000000000 → Agr F C a p m → 0 ≤ m → m + 100000000 * l.length ≤ 1000000000000000 → runS F l C t = some (C', t') →
    Agr F C' (nightR F l C a) (l.foldl (fun p d => paidS F d p) p) (m + 100000000 * l.length) := by
  induction l with
  | nil => intro C t q p m a C' t' _ _ _ g _ _ hr; simp only [runS, Option.some.injEq, Prod.mk.injEq] at hr; obtain ⟨rfl, rfl⟩ := hr; simpa [nightR] using g
  | cons d l ih =>
    intro C t q p m a C' t' h h0 hq g hm hmm hr
    simp only [runS] at hr
    simp only [List.length_cons] at hq hmm
    split at hr
    · cases hs : stepS F C d with
      | none => rw [hs] at hr; cases hr
      | some C1 =>
        rw [hs] at hr
        have g1 := agr_step hb h hT ⟨h0, by omega⟩ g ⟨hm, by omega⟩ hs
        have h1 := ih C1 d.at_ (q + 1000000) (paidS F d p) (m + 100000000) (tallyS F C1 d a) C' t' (step_inv hb h hT ⟨h0, by omega⟩ hs) (by omega) (by omega) g1 (by omega) (by omega) hr
        simp only [nightR, hs, List.foldl_cons, List.length_cons]
        rw [show m + 100000000 * ((l.length + 1 : Nat) : Int) = m + 100000000 + 100000000 * l.length by omega]
        exact h1
    · cases hr
end Go.Proofs.Ythjbakoccffdlaa
