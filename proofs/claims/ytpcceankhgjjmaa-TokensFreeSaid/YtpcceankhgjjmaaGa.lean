/- Plain facts of TokensNoWin: what bundles cost is at least what giving their tokens back brings. No program, no memory. -/
import Derived.Test.YtpcceankhgjjmaaWu
namespace Go.Proofs.Ytpcceankhgjjmaa
open Go.RowKit

def costN (l : List Bundle) (cs : List Int) : Nat → Int
  | 0 => 0
  | k + 1 => wrap64 (costN l cs k + wrap64 (geti cs k * (getb l k).tokens))
def costP (l : List Bundle) (cs : List Int) : Nat → Int
  | 0 => 0
  | k + 1 => wrap64 (costP l cs k + wrap64 (geti cs k * (getb l k).price))
/-- What cost answers: the tokens, the price, whether the numbers are right. -/
def costS (F : Fair) (cs : List Int) : Int × Int × Bool :=
  if cs.length = F.bundles.length then (if allB cs 0 1000 then (costN F.bundles cs cs.length, costP F.bundles cs cs.length, true) else (0, 0, false)) else (0, 0, false)

theorem allB_at {l : List Int} {lo hi : Int} (h : allB l lo hi = true) (k : Nat) (hk : k < l.length) : lo ≤ geti l k ∧ geti l k ≤ hi := by
  refine allB_get h _ ?_
  simp only [geti, Int.toNat_natCast, List.getElem?_eq_getElem hk, Option.getD_some]; exact List.getElem_mem hk
theorem cost_bd {F : Fair} (hb : Bounds F) (cs : List Int) (hl : cs.length = F.bundles.length) (ha : allB cs 0 1000 = true) : ∀ k, k ≤ cs.length →
    0 ≤ costN F.bundles cs k ∧ costN F.bundles cs k ≤ 1000000 * k ∧ 0 ≤ costP F.bundles cs k ∧ costP F.bundles cs k ≤ 1000000000 * k ∧ costN F.bundles cs k * F.refund ≤ costP F.bundles cs k := by
  intro k
  induction k with
  | zero => intro _; simp [costN, costP]
  | succ k ih =>
    intro hk
    obtain ⟨h1, h2, h3, h4, h5⟩ := ih (by omega)
    have h6 := hb.b
    obtain ⟨c0, c1⟩ := allB_at ha k (by omega)
    obtain ⟨t0, t1, p0, p1, rr⟩ := hb.bu _ (getb_mem F.bundles k (by omega))
    have m1 := mul_bd c0 c1 (show 0 ≤ (getb F.bundles k).tokens by omega) t1
    have m2 := mul_bd c0 c1 (show 0 ≤ (getb F.bundles k).price by omega) p1
    simp only [costN, costP]
    rw [wrap64_id (n := geti cs k * (getb F.bundles k).tokens) (by omega) (by omega), wrap64_id (n := geti cs k * (getb F.bundles k).price) (by omega) (by omega), wrap64_id (by omega) (by omega), wrap64_id (by omega) (by omega)]
    refine ⟨by omega, by omega, by omega, by omega, ?_⟩
    have e : (costN F.bundles cs k + geti cs k * (getb F.bundles k).tokens) * F.refund = costN F.bundles cs k * F.refund + geti cs k * (F.refund * (getb F.bundles k).tokens) := by
      rw [Int.add_mul, Int.mul_assoc, Int.mul_comm (getb F.bundles k).tokens]
    have := Int.mul_le_mul_of_nonneg_left rr c0
    omega
/-- Whoever gives all tokens back gets no more than was paid. -/
theorem cost_win {F : Fair} (hv : validB F = true) (cs : List Int) (h : (costS F cs).2.2 = true) : wrap64 ((costS F cs).1 * F.refund) ≤ (costS F cs).2.1 := by
  have hb := bounds_of hv
  unfold costS at h ⊢
  by_cases hl : cs.length = F.bundles.length
  · rw [if_pos hl] at h ⊢
    by_cases ha : allB cs 0 1000 = true
    · rw [if_pos ha] at h ⊢
      obtain ⟨h1, h2, h3, h4, h5⟩ := cost_bd hb cs hl ha cs.length (Nat.le_refl _)
      have h6 := hb.b
      have r1 := hb.r1
      have := Int.mul_nonneg h1 r1
      dsimp only
      rw [wrap64_id (by omega) (by omega)]
      exact h5
    · rw [if_neg ha] at h; cases h
  · rw [if_neg hl] at h; cases h

theorem ways_refund {F : Fair} (hb : Bounds F) (most : Nat) (hm : most ≤ 2000) : ∀ t, t ≤ most → (getw (waysK F.bundles most most) t).can = true →
    F.refund * t ≤ (getw (waysK F.bundles most most) t).price ∧ 0 ≤ (getw (waysK F.bundles most most) t).price ∧ (getw (waysK F.bundles most most) t).price ≤ 1000000 * t := by
  intro t
  induction t using Nat.strongRecOn with
  | ind t ih =>
    intro ht hc
    rcases Nat.eq_zero_or_pos t with h0 | h0
    · subst h0; rw [waysK_zero]; simp
    · obtain ⟨i, tok, hi, _, htk, h1, hle, hcan, hp⟩ := (ways_link F.bundles (fun k hk => (hb.bu _ (getb_mem F.bundles k hk)).1) most t h0 ht).1 hc
      obtain ⟨g1, g2, g3⟩ := ih (t - tok) (by omega) (by omega) hcan
      obtain ⟨t0, t1, p0, p1, rr⟩ := hb.bu _ (getb_mem F.bundles i hi)
      rw [htk] at rr
      have e : ((t - tok : Nat) : Int) = (t : Int) - tok := by omega
      rw [e, Int.mul_sub] at g1
      rw [e] at g3
      rw [hp, wrap64_id (by omega) (by omega)]
      exact ⟨by omega, by omega, by omega⟩
theorem bestK_bd (ws : List Way) (n : Nat) : ∀ k, n ≤ bestK ws n k ∧ bestK ws n k ≤ n + (k - 1) := by
  intro k
  induction k with
  | zero => simp [bestK]
  | succ k ih => simp only [bestK]; split <;> omega
/-- Buy of n tokens costs at least n times the refund. -/
theorem buy_win {F : Fair} {n : Int} (h : (buyS F n).2.2 = 0) : validB F = true ∧ 0 ≤ n ∧ n ≤ 1000 ∧ F.refund * n ≤ (buyS F n).2.1 ∧ (buyS F n).2.1 ≤ 2000000000 := by
  unfold buyS at h ⊢
  by_cases hv : validB F = false
  · rw [if_pos hv] at h; cases h
  rw [if_neg hv] at h ⊢
  have hv : validB F = true := by simpa using hv
  by_cases hn : inB n 0 1000 = false
  · rw [if_pos hn] at h; cases h
  rw [if_neg hn] at h ⊢
  have hn : inB n 0 1000 = true := by simpa using hn
  by_cases hz : 0 < n ∧ F.bundles.length = 0
  · rw [if_pos hz] at h; cases h
  rw [if_neg hz]
  have hb := bounds_of hv
  obtain ⟨n0, n1⟩ := inB_iff.1 hn
  obtain ⟨k, rfl⟩ := Int.eq_ofNat_of_zero_le n0
  have hc := best_can F.bundles (fun k hk => ⟨(hb.bu _ (getb_mem F.bundles k hk)).1, (hb.bu _ (getb_mem F.bundles k hk)).2.1⟩) k (by omega)
  obtain ⟨q1, q2⟩ := bestK_bd (waysK F.bundles (k + 999) (k + 999)) k 1000
  obtain ⟨g1, g2, g3⟩ := ways_refund hb (k + 999) (by omega) _ (by omega) hc
  dsimp only [cheapS]
  rw [Int.toNat_natCast]
  have hr := hb.r1
  have := Int.mul_le_mul_of_nonneg_left (show (k : Int) ≤ (bestK (waysK F.bundles (k + 999) (k + 999)) k 1000 : Nat) by omega) hr
  exact ⟨hv, by omega, n1, by omega, by omega⟩
end Go.Proofs.Ytpcceankhgjjmaa
