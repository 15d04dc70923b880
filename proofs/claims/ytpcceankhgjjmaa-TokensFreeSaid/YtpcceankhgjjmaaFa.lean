/- Plain facts of TokensFree: one more ride behind right deals. No program, no memory. -/
import Derived.Test.YtpcceankhgjjmaaWx
import Derived.Test.YtpcceankhgjjmaaIa
namespace Go.Proofs.Ytpcceankhgjjmaa
open Go.RowKit

theorem run_last (F : Fair) (l : List Deal) : ∀ C t C' t', runS F l C t = some (C', t') → (0 < l.length → t' = (getd l (l.length - 1)).at_) ∧ (l.length = 0 → t' = t) := by
  induction l with
  | nil => intro C t C' t' h; simp [runS] at h; exact ⟨fun h0 => absurd h0 (by simp), fun _ => h.2.symm⟩
  | cons d l ih =>
    intro C t C' t' h
    simp only [runS] at h
    by_cases h1 : inB d.at_ t 1440 = true
    · rw [if_pos h1] at h
      cases h2 : stepS F C d with
      | none => rw [h2] at h; cases h
      | some C1 =>
        rw [h2] at h
        obtain ⟨k1, k2⟩ := ih _ _ _ _ h
        refine ⟨fun _ => ?_, fun h0 => by simp at h0⟩
        rcases Nat.eq_zero_or_pos l.length with h0 | h0
        · rw [k2 h0]; have : l = [] := List.length_eq_zero_iff.1 h0; subst this; rfl
        · rw [k1 h0]
          simp only [getd, List.length_cons, Nat.add_sub_cancel]
          obtain ⟨j, hj⟩ : ∃ j, l.length = j + 1 := ⟨l.length - 1, by omega⟩
          rw [hj]; simp
    · rw [if_neg h1] at h; cases h
def lastAt (l : List Deal) : Int := if 0 < l.length then (getd l (l.length - 1)).at_ else 0
theorem set_self {α : Type} (l : List α) (i : Nat) (x : α) (h : l[i]? = some x) : l.set i x = l := by
  apply List.ext_getElem?
  intro j
  rw [List.getElem?_set]
  by_cases hij : i = j
  · subst hij; obtain ⟨hi, he⟩ := List.getElem?_eq_some_iff.1 h; simp [hi, he]
  · simp [hij]

/-- Right deals: what they leave. -/
structure Went (F : Fair) (l : List Deal) (C : Count) : Prop where
  val : validB F = true
  few : l.length ≤ 200
  run : runS F l (beginS F) 0 = some (C, lastAt l)
  inv : Inv F C (tot F.stock) 1000000000
  all : tot F.stock ≤ 800000
theorem went {F : Fair} {l : List Deal} (he : errS F l = 0) : Went F l (playS F l) := by
  unfold errS at he
  split at he
  · cases he
  rename_i hv
  have hv : validB F = true := by simpa using hv
  split at he
  · cases he
  rename_i h200
  cases hg : goS F l l.length with
  | none => rw [hg] at he; cases he
  | some x =>
    obtain ⟨C, t⟩ := x
    have hC : playS F l = C := by simp [playS, hv, h200, hg]
    rw [hC]
    obtain ⟨h, hT⟩ := go_inv hv (by omega) hg
    have hr : runS F l (beginS F) 0 = some (C, t) := by simpa [goS] using hg
    obtain ⟨k1, k2⟩ := run_last F l _ _ _ _ hr
    have : t = lastAt l := by
      unfold lastAt
      split
      · rename_i h0; exact k1 h0
      · exact k2 (by omega)
    exact ⟨hv, by omega, by rw [hr, this], h, hT⟩

structure Rides (C : Count) (l : List Deal) (r : Deal) : Prop where
  k : r.kind = 2
  t1 : lastAt l ≤ r.at_
  t2 : r.at_ ≤ 1440
  a1 : 0 ≤ r.a
  a2 : r.a < C.purses.length
  b1 : 0 ≤ r.b
  b2 : r.b < C.boxes.length
  n1 : 0 ≤ r.n
  n2 : r.n ≤ 1000
section
variable {F : Fair} {l : List Deal} {C : Count} {r : Deal}
theorem last_nn (h : runS F l (beginS F) 0 = some (C, lastAt l)) : 0 ≤ lastAt l := by
  have gen : ∀ (l : List Deal) C t C' t', runS F l C t = some (C', t') → t ≤ t' := by
    intro l
    induction l with
    | nil => intro C t C' t' h; simp [runS] at h; omega
    | cons d l ih =>
      intro C t C' t' h
      simp only [runS] at h
      by_cases h1 : inB d.at_ t 1440 = true
      · rw [if_pos h1] at h
        cases h2 : stepS F C d with
        | none => rw [h2] at h; cases h
        | some C1 => rw [h2] at h; have := ih _ _ _ _ h; have := inB_iff.1 h1; omega
      · rw [if_neg h1] at h; cases h
  exact gen _ _ _ _ _ h
theorem ride_run (h : Went F l C) (q : Rides C l r) (h200 : l.length < 200) : (rideS F C r = none → errS F (l ++ [r]) = 11) ∧ (∀ C', rideS F C r = some C' → errS F (l ++ [r]) = 0 ∧ playS F (l ++ [r]) = C') := by
  have hlen : (l ++ [r]).length = l.length + 1 := by simp
  have hin : inB r.at_ (lastAt l) 1440 = true := inB_iff.2 ⟨q.t1, q.t2⟩
  have hst : stepS F C r = rideS F C r := by simp [stepS, q.k]
  have hg : goS F (l ++ [r]) (l ++ [r]).length = (match rideS F C r with | none => none | some C' => some (C', r.at_)) := by
    rw [goS, List.take_length, runS_append, h.run]
    simp only [runS, hin, if_true, hst]
    cases rideS F C r <;> rfl
  have hv := h.val
  have h2 : ¬ 200 < (l ++ [r]).length := by omega
  constructor
  · intro hn
    rw [hn] at hg
    simp only [errS, hv, Bool.true_eq_false, if_false, if_neg h2, hg]
  · intro C' hs
    rw [hs] at hg
    exact ⟨by simp only [errS, hv, Bool.true_eq_false, if_false, if_neg h2, hg], by simp only [playS, hv, Bool.true_eq_false, if_false, if_neg h2, hg]⟩
theorem ride_forms (h : Went F l C) (q : Rides C l r) : isPurse F r.a = true ∧ isBox F r.b = true ∧ inB r.n 0 1000 = true ∧ (∃ a b : Nat, r.a = a ∧ r.b = b ∧ a < C.purses.length ∧ b < C.boxes.length ∧ a < F.purses.toNat ∧ b < F.boxes.toNat) := by
  have n3 := h.inv.n3
  have n4 := h.inv.n4
  have := q.a1; have := q.a2; have := q.b1; have := q.b2
  exact ⟨inB_iff.2 ⟨q.a1, by omega⟩, inB_iff.2 ⟨q.b1, by omega⟩, inB_iff.2 ⟨q.n1, q.n2⟩, r.a.toNat, r.b.toNat, by omega, by omega, by omega, by omega, by omega, by omega⟩
/-- With a band that holds nothing changes. -/
theorem free_band (h : Went F l C) (q : Rides C l r) (h200 : l.length < 200) (hb : r.at_ < (getp C.purses r.a).til) : errS F (l ++ [r]) = 0 ∧ playS F (l ++ [r]) = C := by
  obtain ⟨f1, f2, f3, a, b, ea, eb, la, lb, la', lb'⟩ := ride_forms h q
  obtain ⟨p1, p2⟩ := purse_bd h.inv h.all la'
  obtain ⟨x1, x2⟩ := box_bd h.inv h.all lb'
  refine (ride_run h q h200).2 C ?_
  have hf : fareS C r = 0 := by simp [fareS, hb]
  have hnn : ¬ (getp C.purses r.a).tokens < 0 := by rw [ea]; omega
  simp only [rideS, f1, f2, f3, Bool.not_true, Bool.or_self, Bool.false_eq_true, if_false, hf, if_neg hnn]
  have e1 : subp C.purses r.a 0 = C.purses := by
    rw [ea]; unfold subp
    rw [Int.sub_zero, wrap64_id (by omega) (by omega)]
    refine set_self _ _ _ ?_
    simp [getp, List.getElem?_eq_getElem la]
  have e2 : addi C.boxes r.b 0 = C.boxes := by
    rw [eb]; unfold addi
    rw [Int.add_zero, wrap64_id (by omega) (by omega)]
    refine set_self _ _ _ ?_
    simp [geti, List.getElem?_eq_getElem lb]
  rw [e1, e2]
/-- Without band and tokens it is not possible. -/
theorem free_no (h : Went F l C) (q : Rides C l r) (h200 : l.length < 200) (hb : ¬ r.at_ < (getp C.purses r.a).til) (ht : (getp C.purses r.a).tokens < r.n) : errS F (l ++ [r]) = 11 := by
  obtain ⟨f1, f2, f3, _⟩ := ride_forms h q
  refine (ride_run h q h200).1 ?_
  have hf : fareS C r = r.n := by simp [fareS, hb]
  simp only [rideS, f1, f2, f3, Bool.not_true, Bool.or_self, Bool.false_eq_true, if_false, hf, if_pos ht]
/-- Without a band the tokens go into the box. -/
theorem free_pay (h : Went F l C) (q : Rides C l r) (h200 : l.length < 200) (hb : ¬ r.at_ < (getp C.purses r.a).til) (ht : ¬ (getp C.purses r.a).tokens < r.n) :
    errS F (l ++ [r]) = 0 ∧ ∃ X, playS F (l ++ [r]) = X ∧ X.purses.length = C.purses.length ∧ X.boxes.length = C.boxes.length ∧ (getp X.purses r.a).tokens = (getp C.purses r.a).tokens - r.n ∧ geti X.boxes r.b = geti C.boxes r.b + r.n := by
  obtain ⟨f1, f2, f3, a, b, ea, eb, la, lb, la', lb'⟩ := ride_forms h q
  obtain ⟨p1, p2⟩ := purse_bd h.inv h.all la'
  obtain ⟨x1, x2⟩ := box_bd h.inv h.all lb'
  have n1 := q.n1
  have n2 := q.n2
  have hf : fareS C r = r.n := by simp [fareS, hb]
  obtain ⟨e0, e1⟩ := (ride_run h q h200).2 { C with purses := subp C.purses r.a r.n, boxes := addi C.boxes r.b r.n } (by simp only [rideS, f1, f2, f3, Bool.not_true, Bool.or_self, Bool.false_eq_true, if_false, hf, if_neg ht])
  refine ⟨e0, _, e1, by simp [subp], by simp [addi], ?_, ?_⟩
  · dsimp only
    rw [ea] at ht ⊢
    unfold subp
    rw [wrap64_id (by omega) (by omega)]
    simp [getp, la]
  · dsimp only
    rw [eb]
    unfold addi
    rw [wrap64_id (by omega) (by omega)]
    simp [geti, lb]
end
end Go.Proofs.Ytpcceankhgjjmaa
