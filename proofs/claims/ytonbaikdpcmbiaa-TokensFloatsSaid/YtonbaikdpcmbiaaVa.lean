/- Words for the specification's step: what it leaves. Plain facts. -/
import Derived.Test.YtonbaikdpcmbiaaUf
import Derived.Test.YtonbaikdpcmbiaaFa
import Derived.Test.YtonbaikdpcmbiaaUd
import Derived.Test.YtonbaikdpcmbiaaRd
import Derived.Test.YtonbaikdpcmbiaaRa
/- How the specification's count lies in memory while a step changes it: its own block, and its four slices, each in a block of its own. Plain facts, no program. -/
namespace Go.Proofs.Ytonbaikdpcmbiaa
open Go.RowKit

theorem Reads.put {w : World} {B size n b o k : Nat} {xs : List Value} (h : Reads w B size (some ⟨b, o, none⟩) n xs) (hk : k < n * size) (u : Value) : Reads (w.setCell ⟨b, o + k, none⟩ u) B size (some ⟨b, o, none⟩) n (xs.set k u) := by
  refine ⟨by simpa using h.1, fun hn => ?_⟩
  obtain ⟨b', o', e, hb, hc⟩ := h.2 hn
  injection e with e; injection e with e1 e2 _
  subst e1; subst e2
  refine ⟨b, o, rfl, hb, fun j v hv => ?_⟩
  rw [List.getElem?_set] at hv
  by_cases hkj : k = j
  · subst hkj
    have hl : k < xs.length := by rw [h.1]; exact hk
    rw [if_pos rfl, if_pos hl] at hv
    injection hv with hv
    subst hv
    refine World.cell?_setCell_same' _ _ _ ?_
    rw [hc k _ (List.getElem?_eq_getElem hl)]; rfl
  · rw [if_neg hkj] at hv
    rw [World.cell?_setCell_other _ _ _ _ (fun e => by injection e with _ e2 _; omega)]
    exact hc j v hv

/-- A count in its own block gc, its slices in blocks of their own, all from B on. -/
structure RS (w : World) (B gc : Nat) (C : Count) (K : CRefs) : Prop where
  box : Row w gc 35 (countL C K)
  inn : CountIn w w.heap.size C K
  f1 : Froz w K.A1
  f2 : Froz w K.A2
  f3 : Froz w K.A3
  f4 : Froz w K.A4
  g1 : ∀ b o, K.A1 = some ⟨b, o, none⟩ → B ≤ b ∧ b ≠ gc
  g2 : ∀ b o, K.A2 = some ⟨b, o, none⟩ → B ≤ b ∧ b ≠ gc
  g3 : ∀ b o, K.A3 = some ⟨b, o, none⟩ → B ≤ b ∧ b ≠ gc
  g4 : ∀ b o, K.A4 = some ⟨b, o, none⟩ → B ≤ b ∧ b ≠ gc
  lo : B ≤ gc
  d12 : ∀ b o b' o', K.A1 = some ⟨b, o, none⟩ → K.A2 = some ⟨b', o', none⟩ → b ≠ b'
  d13 : ∀ b o b' o', K.A1 = some ⟨b, o, none⟩ → K.A3 = some ⟨b', o', none⟩ → b ≠ b'
  d14 : ∀ b o b' o', K.A1 = some ⟨b, o, none⟩ → K.A4 = some ⟨b', o', none⟩ → b ≠ b'
  d23 : ∀ b o b' o', K.A2 = some ⟨b, o, none⟩ → K.A3 = some ⟨b', o', none⟩ → b ≠ b'
  d24 : ∀ b o b' o', K.A2 = some ⟨b, o, none⟩ → K.A4 = some ⟨b', o', none⟩ → b ≠ b'
  d34 : ∀ b o b' o', K.A3 = some ⟨b, o, none⟩ → K.A4 = some ⟨b', o', none⟩ → b ≠ b'

theorem Froz.set {w : World} {A : Option Addr} (h : Froz w A) (p : Addr) (u : Value) : Froz (w.setCell p u) A := fun b o e j => by rw [World.frozen?_setCell]; exact h b o e j

section
variable {w : World} {B gc : Nat} {C : Count} {K : CRefs}
/-- Behind the specification's Copy. -/
theorem RS.of_own {N : Nat} (h : Own4 w N C K) (hbox : Row w gc 35 (countL C K)) (hg : gc < N) (hB : B ≤ gc) : RS w B gc C K := by
  obtain ⟨N1, N2, N3, e1, e2, e3, e4, l1, l2, l3, l4⟩ := h.sep
  refine ⟨hbox, h.inn, h.f1, h.f2, h.f3, h.f4, ?_, ?_, ?_, ?_, hB, ?_, ?_, ?_, ?_, ?_, ?_⟩
  · intro b o e; have := l1 b o e; omega
  · intro b o e; have := l2 b o e; omega
  · intro b o e; have := l3 b o e; omega
  · intro b o e; have := l4 b o e; omega
  · intro b o b' o' e e'; have := l1 b o e; have := l2 b' o' e'; omega
  · intro b o b' o' e e'; have := l1 b o e; have := l3 b' o' e'; omega
  · intro b o b' o' e e'; have := l1 b o e; have := l4 b' o' e'; omega
  · intro b o b' o' e e'; have := l2 b o e; have := l3 b' o' e'; omega
  · intro b o b' o' e e'; have := l2 b o e; have := l4 b' o' e'; omega
  · intro b o b' o' e e'; have := l3 b o e; have := l4 b' o' e'; omega
/-- .. its own block laid behind the copy. -/
theorem RS.new {N : Nat} (h : Own4 w N C K) (hB : B ≤ N) : RS (w.alloc (.cells (countL C K).toArray 35)) B w.heap.size C K := by
  obtain ⟨N1, N2, N3, e1, e2, e3, e4, l1, l2, l3, l4⟩ := h.sep
  have hb : Below w.heap.size w (w.alloc (.cells (countL C K).toArray 35)) := (Below.refl _ _).alloc (Nat.le_refl _) _
  refine ⟨row_new _ _ _ _ rfl, (h.inn.keep fun p hp => hb.cell hp).more (by simp), h.f1.kept (N := N) (fun b o e => by have := l1 b o e; omega) hb, h.f2.kept (N := N) (fun b o e => by have := l2 b o e; omega) hb, h.f3.kept (N := N) (fun b o e => by have := l3 b o e; omega) hb, h.f4.kept (N := N) (fun b o e => by have := l4 b o e; omega) hb, ?_, ?_, ?_, ?_, by omega, ?_, ?_, ?_, ?_, ?_, ?_⟩
  · intro b o e; have := l1 b o e; omega
  · intro b o e; have := l2 b o e; omega
  · intro b o e; have := l3 b o e; omega
  · intro b o e; have := l4 b o e; omega
  · intro b o b' o' e e'; have := l1 b o e; have := l2 b' o' e'; omega
  · intro b o b' o' e e'; have := l1 b o e; have := l3 b' o' e'; omega
  · intro b o b' o' e e'; have := l1 b o e; have := l4 b' o' e'; omega
  · intro b o b' o' e e'; have := l2 b o e; have := l3 b' o' e'; omega
  · intro b o b' o' e e'; have := l2 b o e; have := l4 b' o' e'; omega
  · intro b o b' o' e e'; have := l3 b o e; have := l4 b' o' e'; omega
theorem RS.drewN (h : RS w B gc C K) (n : Nat) : RS (w.drewN n) B gc C K := { h with box := h.box.drewN n, inn := h.inn.keep fun _ _ => rfl }
theorem RS.drew (h : RS w B gc C K) : RS w.drew B gc C K := { h with box := h.box.drew, inn := h.inn.keep fun _ _ => rfl }
theorem RS.set1 (h : RS w B gc C K) {b o : Nat} (hA : K.A1 = some ⟨b, o, none⟩) (i : Nat) (hi : i < C.stock.length) (x : Int) : RS (w.setCell ⟨b, o + i, none⟩ (.int .i64 x)) B gc { C with stock := C.stock.set i x } K := by
  have q := h.inn
  have hs : (w.setCell ⟨b, o + i, none⟩ (.int .i64 x)).heap.size = w.heap.size := by simp [World.setCell]
  refine { h with box := ?_, inn := ?_, f1 := h.f1.set _ _, f2 := h.f2.set _ _, f3 := h.f3.set _ _, f4 := h.f4.set _ _ }
  · have := h.box.far (p := ⟨b, o + i, none⟩) (fun e => (h.g1 b o hA).2 e.symm) (.int .i64 x)
    simpa [countL] using this
  · rw [hs]
    refine ⟨?_, q.s2.far (fun b' o' e => h.d12 _ _ _ _ hA e) _, q.s3.far (fun b' o' e => h.d13 _ _ _ _ hA e) _, q.s4.far (fun b' o' e => h.d14 _ _ _ _ hA e) _, by simpa using q.l1, q.l2, q.l3, q.l4⟩
    have := q.s1
    rw [hA] at this ⊢
    have := this.put (k := i) (by omega) (.int .i64 x)
    rw [intCells_set] at this
    simpa using this
theorem RS.set2 (h : RS w B gc C K) {b o : Nat} (hA : K.A2 = some ⟨b, o, none⟩) (i : Nat) (hi : i < C.cash.length) (x : Int) : RS (w.setCell ⟨b, o + i, none⟩ (.int .i64 x)) B gc { C with cash := C.cash.set i x } K := by
  have q := h.inn
  have hs : (w.setCell ⟨b, o + i, none⟩ (.int .i64 x)).heap.size = w.heap.size := by simp [World.setCell]
  refine { h with box := ?_, inn := ?_, f1 := h.f1.set _ _, f2 := h.f2.set _ _, f3 := h.f3.set _ _, f4 := h.f4.set _ _ }
  · have := h.box.far (p := ⟨b, o + i, none⟩) (fun e => (h.g2 b o hA).2 e.symm) (.int .i64 x)
    simpa [countL] using this
  · rw [hs]
    refine ⟨q.s1.far (fun b' o' e => (h.d12 _ _ _ _ e hA).symm) _, ?_, q.s3.far (fun b' o' e => h.d23 _ _ _ _ hA e) _, q.s4.far (fun b' o' e => h.d24 _ _ _ _ hA e) _, q.l1, by simpa using q.l2, q.l3, q.l4⟩
    have := q.s2
    rw [hA] at this ⊢
    have := this.put (k := i) (by omega) (.int .i64 x)
    rw [intCells_set] at this
    simpa using this
theorem RS.set4 (h : RS w B gc C K) {b o : Nat} (hA : K.A4 = some ⟨b, o, none⟩) (i : Nat) (hi : i < C.boxes.length) (x : Int) : RS (w.setCell ⟨b, o + i, none⟩ (.int .i64 x)) B gc { C with boxes := C.boxes.set i x } K := by
  have q := h.inn
  have hs : (w.setCell ⟨b, o + i, none⟩ (.int .i64 x)).heap.size = w.heap.size := by simp [World.setCell]
  refine { h with box := ?_, inn := ?_, f1 := h.f1.set _ _, f2 := h.f2.set _ _, f3 := h.f3.set _ _, f4 := h.f4.set _ _ }
  · have := h.box.far (p := ⟨b, o + i, none⟩) (fun e => (h.g4 b o hA).2 e.symm) (.int .i64 x)
    simpa [countL] using this
  · rw [hs]
    refine ⟨q.s1.far (fun b' o' e => (h.d14 _ _ _ _ e hA).symm) _, q.s2.far (fun b' o' e => (h.d24 _ _ _ _ e hA).symm) _, q.s3.far (fun b' o' e => (h.d34 _ _ _ _ e hA).symm) _, ?_, q.l1, q.l2, q.l3, by simpa using q.l4⟩
    have := q.s4
    rw [hA] at this ⊢
    have := this.put (k := i) (by omega) (.int .i64 x)
    rw [intCells_set] at this
    simpa using this
theorem RS.set3 (h : RS w B gc C K) {b o : Nat} (hA : K.A3 = some ⟨b, o, none⟩) (i : Nat) (hi : i < C.purses.length) (x : Int) : RS (w.setCell ⟨b, o + i * 2, none⟩ (.int .i64 x)) B gc { C with purses := C.purses.set i ⟨x, (getp C.purses i).til⟩ } K := by
  have q := h.inn
  have hs : (w.setCell ⟨b, o + i * 2, none⟩ (.int .i64 x)).heap.size = w.heap.size := by simp [World.setCell]
  refine { h with box := ?_, inn := ?_, f1 := h.f1.set _ _, f2 := h.f2.set _ _, f3 := h.f3.set _ _, f4 := h.f4.set _ _ }
  · have := h.box.far (p := ⟨b, o + i * 2, none⟩) (fun e => (h.g3 b o hA).2 e.symm) (.int .i64 x)
    simpa [countL] using this
  · rw [hs]
    refine ⟨q.s1.far (fun b' o' e => (h.d13 _ _ _ _ e hA).symm) _, q.s2.far (fun b' o' e => (h.d23 _ _ _ _ e hA).symm) _, ?_, q.s4.far (fun b' o' e => h.d34 _ _ _ _ hA e) _, q.l1, q.l2, by simpa using q.l3, q.l4⟩
    have := q.s3
    rw [hA] at this ⊢
    have := this.put (k := i * 2) (by omega) (.int .i64 x)
    rw [purseCells_set1 _ _ hi] at this
    simpa using this
theorem RS.set3b (h : RS w B gc C K) {b o : Nat} (hA : K.A3 = some ⟨b, o, none⟩) (i : Nat) (hi : i < C.purses.length) (x : Int) : RS (w.setCell ⟨b, o + i * 2 + 1, none⟩ (.int .i64 x)) B gc { C with purses := C.purses.set i ⟨(getp C.purses i).tokens, x⟩ } K := by
  have q := h.inn
  have hs : (w.setCell ⟨b, o + i * 2 + 1, none⟩ (.int .i64 x)).heap.size = w.heap.size := by simp [World.setCell]
  refine { h with box := ?_, inn := ?_, f1 := h.f1.set _ _, f2 := h.f2.set _ _, f3 := h.f3.set _ _, f4 := h.f4.set _ _ }
  · have := h.box.far (p := ⟨b, o + i * 2 + 1, none⟩) (fun e => (h.g3 b o hA).2 e.symm) (.int .i64 x)
    simpa [countL] using this
  · rw [hs]
    refine ⟨q.s1.far (fun b' o' e => (h.d13 _ _ _ _ e hA).symm) _, q.s2.far (fun b' o' e => (h.d23 _ _ _ _ e hA).symm) _, ?_, q.s4.far (fun b' o' e => h.d34 _ _ _ _ hA e) _, q.l1, q.l2, by simpa using q.l3, q.l4⟩
    have := q.s3
    rw [hA] at this ⊢
    have := this.put (k := i * 2 + 1) (by omega) (.int .i64 x)
    rw [purseCells_set2 _ _ hi] at this
    simpa [Nat.add_assoc] using this
theorem RS.setLost (h : RS w B gc C K) (x : Int) : RS (w.setCell ⟨gc, 4, none⟩ (.int .i64 x)) B gc { C with lost := x } K := by
  have q := h.inn
  have hs : (w.setCell ⟨gc, 4, none⟩ (.int .i64 x)).heap.size = w.heap.size := by simp [World.setCell]
  refine { h with box := ?_, inn := ?_, f1 := h.f1.set _ _, f2 := h.f2.set _ _, f3 := h.f3.set _ _, f4 := h.f4.set _ _ }
  · exact h.box.set 4 (.int .i64 x)
  · rw [hs]
    exact ⟨q.s1.far (fun b' o' e => (h.g1 _ _ e).2.symm) _, q.s2.far (fun b' o' e => (h.g2 _ _ e).2.symm) _, q.s3.far (fun b' o' e => (h.g3 _ _ e).2.symm) _, q.s4.far (fun b' o' e => (h.g4 _ _ e).2.symm) _, q.l1, q.l2, q.l3, q.l4⟩
end

/-- What the specification's step asks of how the fair stands. -/
structure Fit (F : Fair) (C : Count) : Prop where
  bd : Bounds F
  n1 : C.stock.length = F.stock.length
  n2 : C.cash.length = F.stock.length
  n3 : C.purses.length = F.purses.toNat
  n4 : C.boxes.length = F.boxes.toNat
  p : ∀ k : Nat, k < F.purses.toNat → 0 ≤ (getp C.purses k).tokens ∧ (getp C.purses k).tokens ≤ 800000
  b : ∀ k : Nat, k < F.boxes.toNat → 0 ≤ geti C.boxes k ∧ geti C.boxes k ≤ 800000
theorem Inv.fit {F : Fair} {C : Count} {T m : Int} (hb : Bounds F) (h : Inv F C T m) (hT : T ≤ 800000) : Fit F C :=
  ⟨hb, h.n1, h.n2, h.n3, h.n4, fun _ hk => purse_bd h hT hk, fun _ hk => box_bd h hT hk⟩
section
variable {F : Fair} {C : Count}
theorem Fit.till (h : Fit F C) (i : Int) : inB i 0 ((C.stock.length : Int) - 1) = isTill F i := by rw [h.n1]; rfl
theorem Fit.purse (h : Fit F C) (i : Int) : inB i 0 ((C.purses.length : Int) - 1) = isPurse F i := by
  have e : (C.purses.length : Int) = F.purses := by have := h.n3; have := h.bd.p1; omega
  rw [e]; rfl
theorem Fit.box (h : Fit F C) (i : Int) : inB i 0 ((C.boxes.length : Int) - 1) = isBox F i := by
  have e : (C.boxes.length : Int) = F.boxes := by have := h.n4; have := h.bd.x1; omega
  rw [e]; rfl
theorem Fit.few (h : Fit F C) : C.stock.length ≤ 8 ∧ C.cash.length ≤ 8 ∧ C.purses.length ≤ 20 ∧ C.boxes.length ≤ 12 := by
  have := h.n1; have := h.n2; have := h.n3; have := h.n4; have := h.bd.s2; have := h.bd.p2; have := h.bd.x2
  omega
theorem has_eq (C : Count) (p n : Int) : hasB C p n = (inB n 1 100000 && !decide ((getp C.purses p).tokens < n)) := by
  rw [Bool.eq_iff_iff]
  simp only [hasB, inB_iff, Bool.and_eq_true, Bool.not_eq_true', decide_eq_false_iff_not]
  omega
theorem fit_free (h : Fit F C) {d : Deal} (hk : d.kind = 2) (hp : isPurse F d.a = true) (hx : isBox F d.b = true) (hn : inB d.n 0 1000 = true) (hb : d.at_ < (getp C.purses d.a).til) : stepS F C d = some C := by
  obtain ⟨a, ea, la⟩ := isPurse_nat hp
  obtain ⟨b, eb, lb⟩ := isBox_nat hx
  obtain ⟨p1, p2⟩ := h.p a la
  obtain ⟨x1, x2⟩ := h.b b lb
  have hf : fareS C d = 0 := by simp [fareS, hb]
  have hnn : ¬ (getp C.purses d.a).tokens < 0 := by rw [ea]; omega
  have e1 : subp C.purses d.a 0 = C.purses := by
    rw [ea]; unfold subp
    rw [Int.sub_zero, wrap64_id (by omega) (by omega)]
    refine set_self _ _ _ ?_
    simp [getp, List.getElem?_eq_getElem (show a < C.purses.length by rw [h.n3]; exact la)]
  have e2 : addi C.boxes d.b 0 = C.boxes := by
    rw [eb]; unfold addi
    rw [Int.add_zero, wrap64_id (by omega) (by omega)]
    refine set_self _ _ _ ?_
    simp [geti, List.getElem?_eq_getElem (show b < C.boxes.length by rw [h.n4]; exact lb)]
  simp only [stepS, hk, rideS, hp, hx, hn, Bool.not_true, Bool.or_self, Bool.false_eq_true, if_false, hf, if_neg hnn, e1, e2]
  simp
end
end Go.Proofs.Ytonbaikdpcmbiaa
namespace Go.Proofs.Ytonbaikdpcmbiaa
open Go.RowKit

/-- What the specification's step leaves: the count as it was, or a new one in new memory. -/
def RPost (w : World) (C : Count) (K : CRefs) (r : Option Count) (e : Ending) (w' : World) : Prop :=
  Below w.heap.size w w' ∧ ((r = none ∧ e = .returned (.tuple #[countV C K, .bool false])) ∨
    (∃ C' K', r = some C' ∧ e = .returned (.tuple #[countV C' K', .bool true]) ∧ CountIn w' w'.heap.size C' K' ∧ CFresh w.heap.size K'))
theorem RPost.no {w w' : World} {C : Count} {K : CRefs} {r : Option Count} (hr : r = none) (hb : Below w.heap.size w w') : RPost w C K r (.returned (.tuple #[countV C K, .bool false])) w' := ⟨hb, .inl ⟨hr, rfl⟩⟩
theorem RPost.yes {w w' : World} {C C' : Count} {K K' : CRefs} {r : Option Count} (hr : r = some C') (hb : Below w.heap.size w w') (hc : CountIn w' w'.heap.size C' K') (hn : CFresh w.heap.size K') : RPost w C K r (.returned (.tuple #[countV C' K', .bool true])) w' := ⟨hb, .inr ⟨C', K', hr, rfl, hc, hn⟩⟩
theorem RS.fresh {w : World} {B gc : Nat} {C : Count} {K : CRefs} (h : RS w B gc C K) : CFresh B K := fun b o e => by
  rcases e with e | e | e | e
  · exact (h.g1 b o e).1
  · exact (h.g2 b o e).1
  · exact (h.g3 b o e).1
  · exact (h.g4 b o e).1
theorem CFresh.mono {N M : Nat} {K : CRefs} (h : CFresh N K) (hm : M ≤ N) : CFresh M K := fun b o e => by have := h b o e; omega
section
variable {w : World} {B gc : Nat} {C C' : Count} {K : CRefs} {b o i : Nat} {x : Int} {p : Addr}
theorem RS.to1 (C : Count) (h : RS w B gc C K) (hA : K.A1 = some ⟨b, o, none⟩) (hi : i < C.stock.length) (hp : p = ⟨b, o + i, none⟩) (hC : C' = { C with stock := C.stock.set i x }) : RS (w.setCell p (.int .i64 x)) B gc C' K := by subst hp; subst hC; exact h.set1 hA i hi x
theorem RS.to2 (C : Count) (h : RS w B gc C K) (hA : K.A2 = some ⟨b, o, none⟩) (hi : i < C.cash.length) (hp : p = ⟨b, o + i, none⟩) (hC : C' = { C with cash := C.cash.set i x }) : RS (w.setCell p (.int .i64 x)) B gc C' K := by subst hp; subst hC; exact h.set2 hA i hi x
theorem RS.to4 (C : Count) (h : RS w B gc C K) (hA : K.A4 = some ⟨b, o, none⟩) (hi : i < C.boxes.length) (hp : p = ⟨b, o + i, none⟩) (hC : C' = { C with boxes := C.boxes.set i x }) : RS (w.setCell p (.int .i64 x)) B gc C' K := by subst hp; subst hC; exact h.set4 hA i hi x
theorem RS.to3 (C : Count) (h : RS w B gc C K) (hA : K.A3 = some ⟨b, o, none⟩) (hi : i < C.purses.length) (hp : p = ⟨b, o + i * 2, none⟩) (hC : C' = { C with purses := C.purses.set i ⟨x, (getp C.purses i).til⟩ }) : RS (w.setCell p (.int .i64 x)) B gc C' K := by subst hp; subst hC; exact h.set3 hA i hi x
theorem RS.to3b (C : Count) (h : RS w B gc C K) (hA : K.A3 = some ⟨b, o, none⟩) (hi : i < C.purses.length) (hp : p = ⟨b, o + i * 2 + 1, none⟩) (hC : C' = { C with purses := C.purses.set i ⟨(getp C.purses i).tokens, x⟩ }) : RS (w.setCell p (.int .i64 x)) B gc C' K := by subst hp; subst hC; exact h.set3b hA i hi x
theorem RS.toL (C : Count) (h : RS w B gc C K) (hp : p = ⟨gc, 4, none⟩) (hC : C' = { C with lost := x }) : RS (w.setCell p (.int .i64 x)) B gc C' K := by subst hp; subst hC; exact h.setLost x
end
/-- The result's own block is written last. -/
theorem RS.done {w Y : World} {B gc g : Nat} {C C0 : Count} {K K0 : CRefs} {r : Option Count} (h : RS Y B gc C K) (hr : r = some C) (hg : g < B) (hw : w.heap.size ≤ g) (hb : Below w.heap.size w Y) {e : Ending} (he : e = .returned (.tuple #[countV C K, .bool true])) (u0 u1 u2 u3 u4 : Value) :
    RPost w C0 K0 r e (((((Y.setCell ⟨g, 0, none⟩ u0).setCell ⟨g, 1, none⟩ u1).setCell ⟨g, 2, none⟩ u2).setCell ⟨g, 3, none⟩ u3).setCell ⟨g, 4, none⟩ u4) := by
  subst he
  have hf := h.fresh
  refine RPost.yes hr (((((hb.setCell (by dsimp only; omega) _).setCell (by dsimp only; omega) _).setCell (by dsimp only; omega) _).setCell (by dsimp only; omega) _).setCell (by dsimp only; omega) _) ?_ (hf.mono (by omega))
  refine CountIn.more (B := Y.heap.size) ?_ (by simp [World.setCell])
  exact CountIn.far (CountIn.far (CountIn.far (CountIn.far (CountIn.far h.inn hf hg _) hf hg _) hf hg _) hf hg _) hf hg _
end Go.Proofs.Ytonbaikdpcmbiaa
