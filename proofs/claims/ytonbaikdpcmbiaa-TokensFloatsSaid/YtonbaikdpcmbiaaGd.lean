/- Plain facts of Share: what two pay together and alone. No program, no memory. -/
import Derived.Test.YtonbaikdpcmbiaaGb
namespace Go.Proofs.Ytonbaikdpcmbiaa
open Go.RowKit

def buyB (l : List Int) : Bool := allB l 0 1000 && decide (sumW l ≤ 1000)
def aloneS (l : List Bundle) (ns : List Int) : Int := ns.foldl (fun s n => wrap64 (s + (cheapS l n.toNat).2)) 0
theorem aloneS_snoc (l : List Bundle) (ns : List Int) (k : Nat) (h : k < ns.length) : aloneS l (ns.take (k + 1)) = wrap64 (aloneS l (ns.take k) + (cheapS l (geti ns k).toNat).2) := by
  unfold aloneS
  rw [List.take_succ_eq_append_getElem h, List.foldl_append]
  simp [geti, List.getElem?_eq_getElem h]
/-- What Share answers: the price, what is saved, the error. -/
def shareS (F : Fair) (ns : List Int) : Int × Int × Int :=
  if validB F = false then (0, 0, 10) else if (inB ns.length 1 20 && buyB ns) = false then (0, 0, 1) else
  if (buyS F (sumW ns)).2.2 = 0 then ((buyS F (sumW ns)).2.1, wrap64 (aloneS F.bundles ns - (buyS F (sumW ns)).2.1), 0) else (0, 0, (buyS F (sumW ns)).2.2)
theorem buy_cheap {F : Fair} {n : Int} (h : (buyS F n).2.2 = 0) : (buyS F n).2.1 = (cheapS F.bundles n.toNat).2 := by
  unfold buyS at h ⊢
  by_cases hv : validB F = false
  · rw [if_pos hv] at h; cases h
  rw [if_neg hv] at h ⊢
  by_cases hn : inB n 0 1000 = false
  · rw [if_pos hn] at h; cases h
  rw [if_neg hn] at h ⊢
  by_cases hz : 0 < n ∧ F.bundles.length = 0
  · rw [if_pos hz] at h; cases h
  rw [if_neg hz]
theorem share_two {F : Fair} {n m : Int} (h1 : (buyS F n).2.2 = 0) (h2 : (buyS F m).2.2 = 0) (h3 : (buyS F (wrap64 (n + m))).2.2 = 0) :
    shareS F [n, m] = ((buyS F (wrap64 (n + m))).2.1, (buyS F n).2.1 + (buyS F m).2.1 - (buyS F (wrap64 (n + m))).2.1, 0) ∧ (buyS F (wrap64 (n + m))).2.1 ≤ (buyS F n).2.1 + (buyS F m).2.1 := by
  obtain ⟨hv, a0, a1, a2, a3⟩ := buy_win h1
  obtain ⟨_, b0, b1, b2, b3⟩ := buy_win h2
  obtain ⟨_, c0, c1, c2, c3⟩ := buy_win h3
  have hr := (bounds_of hv).r1
  have p1 := Int.mul_nonneg hr a0
  have p2 := Int.mul_nonneg hr b0
  have p3 := Int.mul_nonneg hr c0
  have e : wrap64 (n + m) = n + m := wrap64_id (by omega) (by omega)
  have hs : sumW [n, m] = n + m := by simp only [sumW, List.foldl_cons, List.foldl_nil, Int.zero_add]; rw [wrap64_id (n := n) (by omega) (by omega), e]
  rw [e] at h3 c0 c1 c2 c3 p3 ⊢
  have hin : (inB ([n, m] : List Int).length 1 20 && buyB [n, m]) = true := by
    have i1 : inB ([n, m] : List Int).length 1 20 = true := inB_iff.2 (by simp)
    have i2 : inB n 0 1000 = true := inB_iff.2 ⟨a0, a1⟩
    have i3 : inB m 0 1000 = true := inB_iff.2 ⟨b0, b1⟩
    have i4 : allB [n, m] 0 1000 = true := by simp [allB, i2, i3]
    simp only [buyB, i1, i4, hs, Bool.true_and, decide_eq_true_eq]
    exact c1
  have ha : aloneS F.bundles [n, m] = (buyS F n).2.1 + (buyS F m).2.1 := by
    simp only [aloneS, List.foldl_cons, List.foldl_nil, Int.zero_add]
    rw [← buy_cheap h1, ← buy_cheap h2, wrap64_id (n := (buyS F n).2.1) (by omega) (by omega), wrap64_id (by omega) (by omega)]
  obtain ⟨x, X⟩ := best_of h1
  obtain ⟨y, Y⟩ := best_of h2
  obtain ⟨z, Z⟩ := best_of h3
  have hb := best_both X Y Z
  refine ⟨?_, hb⟩
  simp only [shareS, hv, hin, Bool.true_eq_false, if_false, hs, h3, if_true, ha]
  rw [wrap64_id (by omega) (by omega)]
end Go.Proofs.Ytonbaikdpcmbiaa
