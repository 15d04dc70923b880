/- Plain facts: no token vanishes, and no number falls below 0, behind right deals. No program, no memory. -/
import Derived.Test.YtpcceankhgjjmaaWl
namespace Go.Proofs.Ytpcceankhgjjmaa
open Go.RowKit

def tot : List Int → Int
  | [] => 0
  | x :: l => x + tot l
def ptok (l : List Purse) : List Int := l.map (·.tokens)
theorem tot_set (l : List Int) : ∀ (i : Nat) (x : Int), i < l.length → tot (l.set i x) = tot l - geti l i + x := by
  induction l with
  | nil => intro i x h; simp at h
  | cons y l ih =>
    intro i x h
    cases i with
    | zero => simp [tot, geti]; omega
    | succ i =>
      have := ih i x (by simpa using h)
      simp only [List.set_cons_succ, tot, geti, Int.toNat_natCast, List.getElem?_cons_succ] at *
      omega
theorem tot_nn (l : List Int) (h : ∀ x ∈ l, 0 ≤ x) : 0 ≤ tot l := by
  induction l with
  | nil => exact Int.le_refl _
  | cons y l ih =>
    have h1 := ih fun x hx => h x (List.mem_cons_of_mem _ hx)
    have h2 := h y List.mem_cons_self
    simp only [tot]; omega
theorem le_tot (l : List Int) (h : ∀ x ∈ l, 0 ≤ x) : ∀ x ∈ l, x ≤ tot l := by
  induction l with
  | nil => intro x hx; cases hx
  | cons y l ih =>
    have hn := tot_nn l fun x hx => h x (List.mem_cons_of_mem _ hx)
    have h2 := h y List.mem_cons_self
    intro x hx
    simp only [tot]
    rcases List.mem_cons.1 hx with rfl | hx
    · omega
    · have := ih (fun x hx => h x (List.mem_cons_of_mem _ hx)) x hx; omega
theorem geti_mem (l : List Int) (i : Nat) (h : i < l.length) : geti l i ∈ l := by
  simp only [geti, Int.toNat_natCast, List.getElem?_eq_getElem h, Option.getD_some]; exact List.getElem_mem h
theorem ptok_set (l : List Purse) (i : Nat) (x t : Int) : ptok (l.set i ⟨x, t⟩) = (ptok l).set i x := by simp [ptok, List.map_set]
theorem ptok_get (l : List Purse) (i : Nat) (h : i < l.length) : geti (ptok l) i = (getp l i).tokens := by
  simp [geti, getp, ptok, List.getElem?_eq_getElem h]
theorem nn_set {l : List Int} {i : Nat} {x : Int} (h : ∀ y ∈ l, 0 ≤ y) (hx : 0 ≤ x) : ∀ y ∈ l.set i x, 0 ≤ y := fun y hy => by
  rcases List.mem_or_eq_of_mem_set hy with h1 | rfl
  · exact h y h1
  · exact hx

structure Inv (F : Fair) (C : Count) (T m : Int) : Prop where
  n1 : C.stock.length = F.stock.length
  n2 : C.cash.length = F.stock.length
  n3 : C.purses.length = F.purses.toNat
  n4 : C.boxes.length = F.boxes.toNat
  s : ∀ x ∈ C.stock, 0 ≤ x
  c : ∀ x ∈ C.cash, 0 ≤ x
  c' : ∀ x ∈ C.cash, x ≤ m
  p : ∀ x ∈ ptok C.purses, 0 ≤ x
  b : ∀ x ∈ C.boxes, 0 ≤ x
  l : 0 ≤ C.lost
  t : tot C.stock + tot (ptok C.purses) + tot C.boxes + C.lost = T

/-- What a step may be: the same tokens, moved; and cash that stays within its bounds. -/
theorem Inv.mk' {F : Fair} {C C' : Count} {T m : Int} (h : Inv F C T m) (n1 : C'.stock.length = C.stock.length) (n2 : C'.cash.length = C.cash.length) (n3 : C'.purses.length = C.purses.length) (n4 : C'.boxes.length = C.boxes.length)
    (s : ∀ x ∈ C'.stock, 0 ≤ x) (c : ∀ x ∈ C'.cash, 0 ≤ x) (c' : ∀ x ∈ C'.cash, x ≤ m + 1000000) (p : ∀ x ∈ ptok C'.purses, 0 ≤ x) (b : ∀ x ∈ C'.boxes, 0 ≤ x) (l : 0 ≤ C'.lost)
    (t : tot C'.stock + tot (ptok C'.purses) + tot C'.boxes + C'.lost = tot C.stock + tot (ptok C.purses) + tot C.boxes + C.lost) : Inv F C' T (m + 1000000) :=
  ⟨n1.trans h.n1, n2.trans h.n2, n3.trans h.n3, n4.trans h.n4, s, c, c', p, b, l, t.trans h.t⟩
theorem le_set {l : List Int} {i : Nat} {x m m' : Int} (h : ∀ y ∈ l, y ≤ m) (hm : m ≤ m') (hx : x ≤ m') : ∀ y ∈ l.set i x, y ≤ m' := fun y hy => by
  rcases List.mem_or_eq_of_mem_set hy with h1 | rfl
  · have := h y h1; omega
  · exact hx

theorem isTill_nat {F : Fair} {i : Int} (h : isTill F i = true) : ∃ k : Nat, i = k ∧ k < F.stock.length := by
  have := inB_iff.1 h
  exact ⟨i.toNat, by omega, by omega⟩
theorem isPurse_nat {F : Fair} {i : Int} (h : isPurse F i = true) : ∃ k : Nat, i = k ∧ k < F.purses.toNat := by
  have := inB_iff.1 h
  exact ⟨i.toNat, by omega, by omega⟩
theorem isBox_nat {F : Fair} {i : Int} (h : isBox F i = true) : ∃ k : Nat, i = k ∧ k < F.boxes.toNat := by
  have := inB_iff.1 h
  exact ⟨i.toNat, by omega, by omega⟩

section
variable {F : Fair} {C C' : Count} {T m : Int} {d : Deal}
theorem stock_bd (h : Inv F C T m) (hT : T ≤ 800000) {k : Nat} (hk : k < F.stock.length) : 0 ≤ geti C.stock k ∧ geti C.stock k ≤ 800000 := by
  have h1 := geti_mem C.stock k (by rw [h.n1]; exact hk)
  have h2 := le_tot _ h.s _ h1
  have := tot_nn _ h.p; have := tot_nn _ h.b; have := h.l; have := h.t; have := h.s _ h1
  omega
theorem purse_bd (h : Inv F C T m) (hT : T ≤ 800000) {k : Nat} (hk : k < F.purses.toNat) : 0 ≤ (getp C.purses k).tokens ∧ (getp C.purses k).tokens ≤ 800000 := by
  have hl : k < (ptok C.purses).length := by simp [ptok]; rw [h.n3]; exact hk
  have h1 := geti_mem (ptok C.purses) k hl
  rw [ptok_get _ _ (by rw [h.n3]; exact hk)] at h1
  have h2 := le_tot _ h.p _ h1
  have := tot_nn _ h.s; have := tot_nn _ h.b; have := h.l; have := h.t; have := h.p _ h1
  omega
theorem box_bd (h : Inv F C T m) (hT : T ≤ 800000) {k : Nat} (hk : k < F.boxes.toNat) : 0 ≤ geti C.boxes k ∧ geti C.boxes k ≤ 800000 := by
  have h1 := geti_mem C.boxes k (by rw [h.n4]; exact hk)
  have h2 := le_tot _ h.b _ h1
  have := tot_nn _ h.s; have := tot_nn _ h.p; have := h.l; have := h.t; have := h.b _ h1
  omega
theorem cash_bd (h : Inv F C T m) {k : Nat} (hk : k < F.stock.length) : 0 ≤ geti C.cash k ∧ geti C.cash k ≤ m := by
  have h1 := geti_mem C.cash k (by rw [h.n2]; exact hk)
  exact ⟨h.c _ h1, h.c' _ h1⟩
theorem lost_bd (h : Inv F C T m) (hT : T ≤ 800000) : 0 ≤ C.lost ∧ C.lost ≤ 800000 := by
  have := tot_nn _ h.s; have := tot_nn _ h.p; have := tot_nn _ h.b; have := h.t; have := h.l
  omega
theorem tot_p (h : Inv F C T m) {k : Nat} (hk : k < F.purses.toNat) (x t : Int) : tot (ptok (C.purses.set k ⟨x, t⟩)) = tot (ptok C.purses) - (getp C.purses k).tokens + x := by
  rw [ptok_set, tot_set _ _ _ (by simp [ptok]; rw [h.n3]; exact hk), ptok_get _ _ (by rw [h.n3]; exact hk)]

theorem sell_inv (hb : Bounds F) (h : Inv F C T m) (hT : T ≤ 800000) (hm : 0 ≤ m ∧ m ≤ 1000000000000) (hs : sellS F C d = some C') : Inv F C' T (m + 1000000) := by
  unfold sellS at hs
  split at hs
  · cases hs
  · rename_i h1
    split at hs
    · cases hs
    · rename_i h2
      injection hs with hs
      subst hs
      simp only [Bool.or_eq_true, Bool.not_eq_true', not_or, Bool.not_eq_false] at h1
      obtain ⟨⟨ht, hp⟩, hn⟩ := h1
      obtain ⟨a, ea, ha⟩ := isTill_nat ht
      obtain ⟨b, eb, hbb⟩ := isPurse_nat hp
      have hn' := inB_iff.1 hn
      obtain ⟨n, en⟩ := Int.eq_ofNat_of_zero_le hn'.1
      rw [ea, en] at h2
      rw [ea, eb, en]
      have hbu := hb.bu (getb F.bundles n) (by
        simp only [getb, Int.toNat_natCast, List.getElem?_eq_getElem (show n < F.bundles.length by omega), Option.getD_some]; exact List.getElem_mem _)
      generalize getb F.bundles n = bn at *
      have s1 := stock_bd h hT ha
      have p1 := purse_bd h hT hbb
      have c1 := cash_bd h ha
      have w1 : wrap64 (geti C.stock a - bn.tokens) = geti C.stock a - bn.tokens := wrap64_id (by omega) (by omega)
      have w2 : wrap64 ((getp C.purses b).tokens + bn.tokens) = (getp C.purses b).tokens + bn.tokens := wrap64_id (by omega) (by omega)
      have w3 : wrap64 (geti C.cash a + bn.price) = geti C.cash a + bn.price := wrap64_id (by omega) (by omega)
      refine h.mk' (by simp [subi]) (by simp [addi]) (by simp [addp]) rfl ?_ ?_ ?_ ?_ h.b h.l ?_
      · simp only [subi, Int.toNat_natCast, w1]; exact nn_set h.s (by omega)
      · simp only [addi, Int.toNat_natCast, w3]; exact nn_set h.c (by omega)
      · simp only [addi, Int.toNat_natCast, w3]; exact le_set h.c' (by omega) (by omega)
      · simp only [addp, Int.toNat_natCast, w2, ptok_set]; exact nn_set h.p (by omega)
      · simp only [subi, addp, Int.toNat_natCast, w1, w2]
        rw [tot_set _ _ _ (by rw [h.n1]; exact ha), tot_p h hbb]
        omega

theorem ride_inv (_hb : Bounds F) (h : Inv F C T m) (hT : T ≤ 800000) (_hm : 0 ≤ m) (hs : rideS F C d = some C') : Inv F C' T (m + 1000000) := by
  unfold rideS at hs
  split at hs
  · cases hs
  · rename_i h1
    split at hs
    · cases hs
    · rename_i h2
      injection hs with hs
      subst hs
      simp only [Bool.or_eq_true, Bool.not_eq_true', not_or, Bool.not_eq_false] at h1
      obtain ⟨⟨hp, hx⟩, hn⟩ := h1
      obtain ⟨a, ea, ha⟩ := isPurse_nat hp
      obtain ⟨b, eb, hbb⟩ := isBox_nat hx
      have hn' := inB_iff.1 hn
      have hf : 0 ≤ fareS C d ∧ fareS C d ≤ 1000 := by unfold fareS; split <;> omega
      rw [ea] at h2
      rw [ea, eb]
      generalize fareS C d = f at *
      have p1 := purse_bd h hT ha
      have b1 := box_bd h hT hbb
      have w1 : wrap64 ((getp C.purses a).tokens - f) = (getp C.purses a).tokens - f := wrap64_id (by omega) (by omega)
      have w2 : wrap64 (geti C.boxes b + f) = geti C.boxes b + f := wrap64_id (by omega) (by omega)
      refine h.mk' rfl rfl (by simp [subp]) (by simp [addi]) h.s h.c (fun x hx => by have := h.c' x hx; omega) ?_ ?_ h.l ?_
      · simp only [subp, Int.toNat_natCast, w1, ptok_set]; exact nn_set h.p (by omega)
      · simp only [addi, Int.toNat_natCast, w2]; exact nn_set h.b (by omega)
      · simp only [subp, addi, Int.toNat_natCast, w1, w2]
        rw [tot_set _ _ _ (by rw [h.n4]; exact hbb), tot_p h ha]
        omega
theorem band_inv (hb : Bounds F) (h : Inv F C T m) (hm : 0 ≤ m ∧ m ≤ 1000000000000) (hs : bandS F C d = some C') : Inv F C' T (m + 1000000) := by
  unfold bandS at hs
  split at hs
  · cases hs
  · rename_i h1
    injection hs with hs
    subst hs
    simp only [Bool.or_eq_true, Bool.not_eq_true', not_or, Bool.not_eq_false] at h1
    obtain ⟨⟨ht, hp⟩, _⟩ := h1
    obtain ⟨a, ea, ha⟩ := isTill_nat ht
    obtain ⟨b, eb, hbb⟩ := isPurse_nat hp
    rw [ea, eb]
    have c1 := cash_bd h ha
    have e1 := hb.d1
    have e2 := hb.d2
    have w3 : wrap64 (geti C.cash a + F.band) = geti C.cash a + F.band := wrap64_id (by omega) (by omega)
    have hpn : 0 ≤ (getp C.purses b).tokens := by
      have h1 := geti_mem (ptok C.purses) b (by simp [ptok]; rw [h.n3]; exact hbb)
      rw [ptok_get _ _ (by rw [h.n3]; exact hbb)] at h1
      exact h.p _ h1
    refine h.mk' rfl (by simp [addi]) (by simp) rfl h.s ?_ ?_ ?_ h.b h.l ?_
    · simp only [addi, Int.toNat_natCast, w3]; exact nn_set h.c (by omega)
    · simp only [addi, Int.toNat_natCast, w3]; exact le_set h.c' (by omega) (by omega)
    · simp only [Int.toNat_natCast, ptok_set]; exact nn_set h.p hpn
    · simp only [Int.toNat_natCast]
      rw [tot_p h hbb]
      omega
theorem has_bd {p n : Int} (h : hasB C p n = true) : 1 ≤ n ∧ n ≤ (getp C.purses p).tokens ∧ n ≤ 100000 := by
  have := inB_iff.1 h; omega
theorem back_inv (hb : Bounds F) (h : Inv F C T m) (hT : T ≤ 800000) (_hm : 0 ≤ m ∧ m ≤ 1000000000000) (hs : backS F C d = some C') : Inv F C' T (m + 1000000) := by
  unfold backS at hs
  split at hs
  · cases hs
  · rename_i h1
    split at hs
    · cases hs
    · rename_i h2
      injection hs with hs
      subst hs
      simp only [Bool.or_eq_true, Bool.not_eq_true', not_or, Bool.not_eq_false] at h1
      obtain ⟨⟨ht, hp⟩, hn⟩ := h1
      obtain ⟨a, ea, ha⟩ := isTill_nat ht
      obtain ⟨b, eb, hbb⟩ := isPurse_nat hp
      have hn' := has_bd hn
      rw [eb] at hn'
      rw [ea] at h2
      rw [ea, eb]
      have hmul := mul_bd (show 0 ≤ d.n by omega) hn'.2.2 hb.r1 hb.r2
      have w0 : wrap64 (d.n * F.refund) = d.n * F.refund := wrap64_id (by omega) (by omega)
      rw [w0] at h2 ⊢
      generalize d.n * F.refund = q at *
      generalize d.n = n at *
      have s1 := stock_bd h hT ha
      have p1 := purse_bd h hT hbb
      have c1 := cash_bd h ha
      have w1 : wrap64 ((getp C.purses b).tokens - n) = (getp C.purses b).tokens - n := wrap64_id (by omega) (by omega)
      have w2 : wrap64 (geti C.stock a + n) = geti C.stock a + n := wrap64_id (by omega) (by omega)
      have w3 : wrap64 (geti C.cash a - q) = geti C.cash a - q := wrap64_id (by omega) (by omega)
      refine h.mk' (by simp [addi]) (by simp [subi]) (by simp [subp]) rfl ?_ ?_ ?_ ?_ h.b h.l ?_
      · simp only [addi, Int.toNat_natCast, w2]; exact nn_set h.s (by omega)
      · simp only [subi, Int.toNat_natCast, w3]; exact nn_set h.c (by omega)
      · simp only [subi, Int.toNat_natCast, w3]; exact le_set h.c' (by omega) (by omega)
      · simp only [subp, Int.toNat_natCast, w1, ptok_set]; exact nn_set h.p (by omega)
      · simp only [addi, subp, Int.toNat_natCast, w1, w2]
        rw [tot_set _ _ _ (by rw [h.n1]; exact ha), tot_p h hbb]
        omega
theorem empty_inv (h : Inv F C T m) (hT : T ≤ 800000) (_hm : 0 ≤ m) (hs : emptyS F C d = some C') : Inv F C' T (m + 1000000) := by
  unfold emptyS at hs
  split at hs
  · cases hs
  · rename_i h1
    injection hs with hs
    subst hs
    simp only [Bool.or_eq_true, Bool.not_eq_true', not_or, Bool.not_eq_false] at h1
    obtain ⟨⟨ht, hx⟩, _⟩ := h1
    obtain ⟨a, ea, ha⟩ := isTill_nat ht
    obtain ⟨b, eb, hbb⟩ := isBox_nat hx
    rw [ea, eb]
    have s1 := stock_bd h hT ha
    have b1 := box_bd h hT hbb
    have w1 : wrap64 (geti C.stock a + geti C.boxes b) = geti C.stock a + geti C.boxes b := wrap64_id (by omega) (by omega)
    refine h.mk' (by simp [addi]) rfl rfl (by simp) ?_ h.c (fun x hx => by have := h.c' x hx; omega) h.p ?_ h.l ?_
    · simp only [addi, Int.toNat_natCast, w1]; exact nn_set h.s (by omega)
    · exact nn_set h.b (Int.le_refl 0)
    · simp only [addi, Int.toNat_natCast, w1]
      rw [tot_set _ _ _ (by rw [h.n1]; exact ha), tot_set _ _ _ (by rw [h.n4]; exact hbb)]
      omega
theorem give_inv (h : Inv F C T m) (hT : T ≤ 800000) (_hm : 0 ≤ m) (hs : giveS F C d = some C') : Inv F C' T (m + 1000000) := by
  unfold giveS at hs
  split at hs
  · cases hs
  · rename_i h1
    injection hs with hs
    subst hs
    simp only [Bool.or_eq_true, Bool.not_eq_true', not_or, Bool.not_eq_false, beq_iff_eq] at h1
    obtain ⟨⟨⟨hp, hq⟩, hne⟩, hn⟩ := h1
    obtain ⟨a, ea, ha⟩ := isPurse_nat hp
    obtain ⟨b, eb, hbb⟩ := isPurse_nat hq
    have hn' := has_bd hn
    rw [ea] at hn'
    rw [ea, eb] at hne
    rw [ea, eb]
    have hab : ¬ a = b := by omega
    generalize d.n = n at *
    have p1 := purse_bd h hT ha
    have p2 := purse_bd h hT hbb
    have hg : getp (subp C.purses a n) b = getp C.purses b := by simp [getp, subp, hab]
    have w1 : wrap64 ((getp C.purses a).tokens - n) = (getp C.purses a).tokens - n := wrap64_id (by omega) (by omega)
    have w2 : wrap64 ((getp C.purses b).tokens + n) = (getp C.purses b).tokens + n := wrap64_id (by omega) (by omega)
    have h1 : Inv F { C with purses := subp C.purses a n } (T - n) (m + 1000000) := by
      refine ⟨h.n1, h.n2, by simp [subp]; exact h.n3, h.n4, h.s, h.c, fun x hx => by have := h.c' x hx; omega, ?_, h.b, h.l, ?_⟩
      · simp only [subp, Int.toNat_natCast, w1, ptok_set]; exact nn_set h.p (by omega)
      · simp only [subp, Int.toNat_natCast, w1]; rw [tot_p h ha]; have := h.t; omega
    have e : addp (subp C.purses a n) b n = (subp C.purses a n).set b ⟨(getp C.purses b).tokens + n, (getp C.purses b).til⟩ := by
      unfold addp; rw [hg, w2]; rfl
    rw [e]
    refine ⟨h.n1, h.n2, by simp [subp]; exact h.n3, h.n4, h.s, h.c, h1.c', ?_, h.b, h.l, ?_⟩
    · rw [ptok_set]; exact nn_set h1.p (by omega)
    · have := tot_p h1 hbb ((getp C.purses b).tokens + n) (getp C.purses b).til
      dsimp only at this
      rw [hg] at this
      have h2 := h1.t
      dsimp only at h2 ⊢
      rw [this]
      omega
theorem lose_inv (h : Inv F C T m) (hT : T ≤ 800000) (_hm : 0 ≤ m) (hs : loseS F C d = some C') : Inv F C' T (m + 1000000) := by
  unfold loseS at hs
  split at hs
  · cases hs
  · rename_i h1
    injection hs with hs
    subst hs
    simp only [Bool.or_eq_true, Bool.not_eq_true', not_or, Bool.not_eq_false] at h1
    obtain ⟨⟨hp, _⟩, hn⟩ := h1
    obtain ⟨a, ea, ha⟩ := isPurse_nat hp
    have hn' := has_bd hn
    rw [ea] at hn'
    rw [ea]
    generalize d.n = n at *
    have p1 := purse_bd h hT ha
    have l1 := lost_bd h hT
    have w1 : wrap64 ((getp C.purses a).tokens - n) = (getp C.purses a).tokens - n := wrap64_id (by omega) (by omega)
    have w2 : wrap64 (C.lost + n) = C.lost + n := wrap64_id (by omega) (by omega)
    refine h.mk' rfl rfl (by simp [subp]) rfl h.s h.c (fun x hx => by have := h.c' x hx; omega) ?_ h.b (by dsimp only; omega) ?_
    · simp only [subp, Int.toNat_natCast, w1, ptok_set]; exact nn_set h.p (by omega)
    · simp only [subp, Int.toNat_natCast, w1, w2]
      rw [tot_p h ha]
      omega
theorem step_inv (hb : Bounds F) (h : Inv F C T m) (hT : T ≤ 800000) (hm : 0 ≤ m ∧ m ≤ 1000000000000) (hs : stepS F C d = some C') : Inv F C' T (m + 1000000) := by
  unfold stepS at hs
  split at hs
  · exact sell_inv hb h hT hm hs
  split at hs
  · exact ride_inv hb h hT hm.1 hs
  split at hs
  · exact band_inv hb h hm hs
  split at hs
  · exact back_inv hb h hT hm hs
  split at hs
  · exact empty_inv h hT hm.1 hs
  split at hs
  · exact give_inv h hT hm.1 hs
  split at hs
  · exact lose_inv h hT hm.1 hs
  · cases hs
end
theorem run_inv {F : Fair} (hb : Bounds F) {T : Int} (hT : T ≤ 800000) (l : List Deal) : ∀ (C : Count) (t m : Int) (C' : Count) (t' : Int), Inv F C T m → 0 ≤ m → m + 1000000 * l.length ≤ 1000000000000 → runS F l C t = some (C', t') → Inv F C' T (m + 1000000 * l.length) := by
  induction l with
  | nil => intro C t m C' t' h _ _ hr; simp only [runS, Option.some.injEq, Prod.mk.injEq] at hr; obtain ⟨rfl, rfl⟩ := hr; simpa using h
  | cons d l ih =>
    intro C t m C' t' h h0 hm hr
    simp only [runS] at hr
    simp only [List.length_cons] at hm
    split at hr
    · cases hs : stepS F C d with
      | none => rw [hs] at hr; cases hr
      | some C1 =>
        rw [hs] at hr
        have h1 := ih C1 d.at_ (m + 1000000) C' t' (step_inv hb h hT ⟨h0, by omega⟩ hs) (by omega) (by omega) hr
        rw [List.length_cons, show m + 1000000 * ((l.length + 1 : Nat) : Int) = m + 1000000 + 1000000 * l.length by omega]
        exact h1
    · cases hr
theorem tot_repl (n : Nat) : tot (List.replicate n 0) = 0 := by
  induction n with
  | zero => rfl
  | succ n ih => rw [List.replicate_succ, tot, ih]; rfl
theorem tot_le (l : List Int) (M : Int) (h : ∀ x ∈ l, x ≤ M) : tot l ≤ M * l.length := by
  induction l with
  | nil => simp [tot]
  | cons y l ih =>
    have h1 := ih fun x hx => h x (List.mem_cons_of_mem _ hx)
    have h2 := h y List.mem_cons_self
    have e : M * ((y :: l).length : Int) = M * l.length + M := by rw [List.length_cons, Int.natCast_succ, Int.mul_add, Int.mul_one]
    rw [e]; simp only [tot]; omega
theorem begin_inv {F : Fair} (hb : Bounds F) : Inv F (beginS F) (tot F.stock) 1000000 ∧ 0 ≤ tot F.stock ∧ tot F.stock ≤ 800000 := by
  have hs : ∀ x ∈ F.stock, 0 ≤ x := fun x hx => (hb.st x hx).1
  have e : ptok (beginS F).purses = List.replicate F.purses.toNat 0 := by simp [ptok, beginS]
  refine ⟨⟨rfl, hb.c, by simp [beginS], by simp [beginS], hs, fun x hx => (hb.ca x hx).1, fun x hx => (hb.ca x hx).2, ?_, ?_, Int.le_refl 0, ?_⟩, tot_nn _ hs, ?_⟩
  · rw [e]; intro x hx; rw [List.eq_of_mem_replicate hx]; exact Int.le_refl 0
  · intro x hx; simp only [beginS] at hx; rw [List.eq_of_mem_replicate hx]; exact Int.le_refl 0
  · rw [e]; simp only [beginS, tot_repl]; omega
  · have := tot_le F.stock 100000 fun x hx => (hb.st x hx).2
    have := hb.s2
    omega
theorem go_inv {F : Fair} (hv : validB F = true) {l : List Deal} (hl : l.length ≤ 200) {k : Nat} {C : Count} {t : Int} (h : goS F l k = some (C, t)) : Inv F C (tot F.stock) 1000000000 ∧ tot F.stock ≤ 800000 := by
  have hb := bounds_of hv
  obtain ⟨h1, h2, h3⟩ := begin_inv hb
  have hk : (l.take k).length ≤ 200 := by rw [List.length_take]; omega
  have h4 := run_inv hb h3 (l.take k) (beginS F) 0 1000000 C t h1 (by omega) (by omega) h
  exact ⟨⟨h4.n1, h4.n2, h4.n3, h4.n4, h4.s, h4.c, fun x hx => by have := h4.c' x hx; omega, h4.p, h4.b, h4.l, h4.t⟩, h3⟩
/-- The wrapped sum of small numbers is their sum. -/
theorem sumW_tot (l : List Int) (h : ∀ x ∈ l, 0 ≤ x) (hM : tot l ≤ 9000000000000000000) : sumW l = tot l := by
  have : ∀ (l : List Int) (s : Int), (∀ x ∈ l, 0 ≤ x) → 0 ≤ s → s + tot l ≤ 9000000000000000000 → l.foldl (fun s z => wrap64 (s + z)) s = s + tot l := by
    intro l
    induction l with
    | nil => intro s _ _ _; simp [tot]
    | cons y l ih =>
      intro s h h0 hM
      have h2 := h y List.mem_cons_self
      have hn := tot_nn l fun x hx => h x (List.mem_cons_of_mem _ hx)
      simp only [tot] at hM
      rw [List.foldl_cons, wrap64_id (by omega) (by omega), ih _ (fun x hx => h x (List.mem_cons_of_mem _ hx)) (by omega) (by omega)]
      simp only [tot]; omega
  rw [sumW, this l 0 h (Int.le_refl 0) (by omega)]; omega
end Go.Proofs.Ytpcceankhgjjmaa
