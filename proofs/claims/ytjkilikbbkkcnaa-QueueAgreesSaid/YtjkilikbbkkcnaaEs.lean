/- The walk of QueueAgrees. Conditions: an evening and groups that read as data. -/
import Derived.Test.YtjkilikbbkkcnaaEr
import Derived.Test.YtjkilikbbkkcnaaEq
namespace Go.Proofs.Ytjkilikbbkkcnaa
open Go.RowKit

def costF (f : EveZ) (l : List GrpZ) (i r : Nat) : Int := (f.rides.getD r default).price * (l.getD i default).size
/-- What the law looks at. -/
structure AgreesOk (f : EveZ) (l : List GrpZ) (L : List VisZ) (ts hs : List Int) : Prop where
  tl : ts.length = f.rides.length
  hl : hs.length = l.length
  held : ∀ i, i < l.length → 0 ≤ hs.getD i 0 ∧ hs.getD i 0 ≤ 600000
  tok : ∀ i, i < l.length → 0 ≤ (l.getD i default).tokens ∧ (l.getD i default).tokens ≤ 10000
  taken : ∀ r, r < f.rides.length → 0 ≤ ts.getD r 0 ∧ ts.getD r 0 ≤ 600000
  sum : sumT (fun i => (l.getD i default).tokens - hs.getD i 0) l.length - sumT (fun r => ts.getD r 0) f.rides.length = 0
  vis : ∀ v ∈ L, v.group < l.length ∧ v.ride < f.rides.length
  paid : ts = paidZ (costF f l) f.rides.length L
  price : ∀ r, r < f.rides.length → 0 ≤ (f.rides.getD r default).price ∧ (f.rides.getD r default).price ≤ 100
  size : ∀ i, i < l.length → 1 ≤ (l.getD i default).size ∧ (l.getD i default).size ≤ 40
  len : L.length ≤ 1000
theorem agrees_all {f : EveZ} {l : List GrpZ} (hc : checkQ f l = 0) {L : List VisZ} (hp : L.Perm (eveS f l).visits) : AgreesOk f l L (takesZ f l) (heldZ f l) := by
  obtain ⟨h1, h2⟩ := checkQ_ok.1 hc
  have g := grp_valid h2
  have e := eve_valid h1
  have ht : ∀ x ∈ l, 0 ≤ x.tokens := fun x hx => (g x hx).2.2.2.1.1
  have hw : ∀ x ∈ l, ∀ w ∈ x.wants, 0 ≤ w ∧ w < (f.rides.length : Int) := fun x hx => (g x hx).2.2.2.2.2
  obtain ⟨a1, a2, a3, a4, a5, a6⟩ := agree_ok f l ht hw L hp
  have hfit := fit_of (big_start h1 h2).1 (play_his f l ht hw)
  have t1 : takesZ f l = (eveS f l).rides.map (·.taken) := if_pos hc
  have t2 : heldZ f l = (eveS f l).groups.map (·.tok) := if_pos hc
  have d1 : ∀ i, i < l.length → (heldZ f l).getD i 0 = ((eveS f l).grp i).tok := fun i hi => by
    rw [t2, List.getD_eq_getElem?_getD, List.getElem?_map, List.getElem?_eq_getElem (by omega)]
    unfold EvS.grp
    rw [List.getD_eq_getElem?_getD, List.getElem?_eq_getElem (by omega)]
    rfl
  have d2 : ∀ r, r < f.rides.length → (takesZ f l).getD r 0 = ((eveS f l).rd r).taken := fun r hr => by
    rw [t1, List.getD_eq_getElem?_getD, List.getElem?_map, List.getElem?_eq_getElem (by omega)]
    unfold EvS.rd
    rw [List.getD_eq_getElem?_getD, List.getElem?_eq_getElem (by omega)]
    rfl
  refine ⟨by rw [t1, List.length_map]; exact a2, by rw [t2, List.length_map]; exact a1, fun i hi => ?_, fun i hi => (g _ (getD_mem' hi)).2.2.2.1, fun r hr => ?_, ?_, fun v hv => a5 v hv, ?_, fun r hr => (e.2.2 _ (getD_mem' hr)).2.1, fun i hi => (g _ (getD_mem' hi)).2.2.1, ?_⟩
  · rw [d1 i hi]; exact hfit.tok i (by omega)
  · rw [d2 r hr]; exact hfit.taken r (by omega)
  · unfold sumG sumR at a3
    rw [sumT_sub]
    have b1 : sumT (fun i => (heldZ f l).getD i 0) l.length = ((eveS f l).groups.map (·.tok)).foldr (· + ·) 0 := by rw [sumT_list, ← t2, show (heldZ f l).length = l.length by rw [t2, List.length_map]; exact a1]
    have b2 : sumT (fun r => (takesZ f l).getD r 0) f.rides.length = ((eveS f l).rides.map (·.taken)).foldr (· + ·) 0 := by rw [sumT_list, ← t1, show (takesZ f l).length = f.rides.length by rw [t1, List.length_map]; exact a2]
    have b3 : sumT (fun i => (l.getD i default).tokens) l.length = (l.map (·.tokens)).foldr (· + ·) 0 := by
      rw [sumT_list, List.length_map]
      refine sumT_congr _ fun i hi => ?_
      rw [List.getD_eq_getElem?_getD, List.getD_eq_getElem?_getD, List.getElem?_map, List.getElem?_eq_getElem hi]
      rfl
    rw [b1, b2, b3]
    omega
  · unfold paidZ
    refine List.ext_getElem? fun r => ?_
    by_cases hr : r < f.rides.length
    · rw [List.getElem?_map, List.getElem?_range hr, t1, List.getElem?_map, List.getElem?_eq_getElem (by omega)]
      have := a6 r hr
      have hx : ((eveS f l).rd r).taken = (eveS f l).rides[r].taken := by
        unfold EvS.rd
        rw [List.getD_eq_getElem?_getD, List.getElem?_eq_getElem (by omega)]
        rfl
      rw [hx] at this
      exact congrArg some this
    · rw [List.getElem?_eq_none (by rw [t1, List.length_map]; omega), List.getElem?_eq_none (by simp; omega)]
  · rw [hp.length_eq]; exact hfit.vis
end Go.Proofs.Ytjkilikbbkkcnaa
