/- Plain: what an accident behind right entries changes. Contract of the statements' has. Conditions: right entries; numbers that read as data. -/
import Derived.Test.YtaocgkmobfocjaaIcf
namespace Go.Proofs.Ytaocgkmobfocjaa
open Go.RowKit

def accE (ride : Nat) (day : Int) : EntZ := ⟨day, 6, ride, 0, 0⟩
theorem up_all {l : List EntZ} {day : Int} (h : ∀ x ∈ l, x.day ≤ day) : upL l day = l := by
  have e : upN l day = l.length := upN_is l day (Nat.le_refl _) (fun i hi => by rw [ent_getD hi]; exact h _ (List.getElem_mem hi)) (fun hl => absurd hl (by omega))
  unfold upL
  rw [e, List.take_length]
theorem acc_days {k : BookZ} {l : List EntZ} {ride : Nat} {day : Int} (h : LogOk k (l ++ [accE ride day])) : LogOk k l ∧ (0 ≤ day ∧ day ≤ 10000) ∧ (∀ x ∈ l, x.day ≤ day) ∧ ∀ x ∈ l ++ [accE ride day], x.day ≤ day := by
  have h1 := logOk_snoc.1 h
  have h2 := canB_iff.1 h1.2.1
  have h3 : ∀ x ∈ l, x.day ≤ day := fun x hx => Int.le_trans (h1.1.last.1 x hx).2 h2.2.1
  refine ⟨h1.1, h2.1, h3, fun x hx => ?_⟩
  rcases List.mem_append.1 hx with hx | hx
  · exact h3 x hx
  · rw [List.mem_singleton.1 hx]; exact Int.le_refl _
theorem acc_open {l : List EntZ} {ride : Nat} {day : Int} (i : Nat) : openS (l ++ [accE ride day]) (i : Int) = openS l (i : Int) := openS_snoc4 ⟨by simp [accE], by simp [accE]⟩ i
theorem acc_def {l : List EntZ} {ride : Nat} {day r : Int} : dfvS (l ++ [accE ride day]) r = dfvS l r := by
  have key : ∀ s, defS (l ++ [accE ride day]) r s = defS l r s := fun s => by
    unfold defS
    rw [List.length_append, List.length_singleton]
    have e : numsL (defP (l ++ [accE ride day]) r s) (l.length + 1) = numsL (defP (l ++ [accE ride day]) r s) l.length := numsL_no (by
      unfold defP
      rw [acc_open]
      have : openS l (l.length : Int) = false := Bool.eq_false_iff.2 fun h => by have := (openS_kind h).1; omega
      rw [this]; rfl)
    rw [e, numsL_congr fun i hi => ?_]
    unfold defP
    rw [acc_open]
    have e2 : (l ++ [accE ride day]).getD i default = l.getD i default := by simp only [List.getD_eq_getElem?_getD, List.getElem?_append_left hi]
    rw [e2]
  unfold dfvS
  rw [key, key]
theorem acc_tst {l : List EntZ} {ride : Nat} {day d : Int} (r : Nat) : tstS (l ++ [accE ride day]) r d = (!decide (r = ride) && tstS l r d) := by
  unfold tstS
  rw [lastS_snoc]
  by_cases h : r = ride
  · subst h
    rw [if_pos (by simp [testB, accE])]
    simp [accE]
  · rw [if_neg (fun q => by unfold testB at q; rw [Bool.and_eq_true] at q; have e : (ride : Int) = (r : Int) := of_decide_eq_true q.2; exact h (by omega)), decide_eq_false h]; rfl
theorem acc_ins {k : BookZ} {l : List EntZ} {ride : Nat} {day : Int} (r : Nat) : insS k (l ++ [accE ride day]) r = insS k l r := by
  have e : lastS (renB (r : Int)) (l ++ [accE ride day]) = lastS (renB (r : Int)) l := by rw [lastS_snoc, if_neg (by simp [renB, accE])]
  unfold insS
  rw [e]
theorem acc_inf {l : List EntZ} {ride : Nat} {day : Int} (i : Nat) (u : RuZ) : infS (l ++ [accE ride day]) i u = if u.ride = (ride : Int) then -1 else infS l i u := by
  unfold infS
  rw [lastS_snoc]
  by_cases h : u.ride = (ride : Int)
  · rw [if_pos (show forceB (i : Int) u.ride (accE ride day) = true by simp [forceB, accE, h]), if_pos h, if_pos (.inr rfl)]
  · have e : ¬ forceB (i : Int) u.ride (accE ride day) = true := by
      intro q
      unfold forceB at q
      rw [Bool.or_eq_true, Bool.and_eq_true, Bool.and_eq_true] at q
      rcases q with q | q
      · exact absurd (of_decide_eq_true q.1 : (6 : Int) = 1) (by decide)
      · exact h (of_decide_eq_true q.2 : (ride : Int) = u.ride).symm
    rw [if_neg e, if_neg h]
theorem acc_chk {k : BookZ} {l : List EntZ} {ride : Nat} {day : Int} {r : Nat} (h : r ≠ ride) : ∀ n, chkU k (l ++ [accE ride day]) r n = chkU k l r n := by
  intro n
  induction n with
  | zero => rfl
  | succ n ih =>
    simp only [chkU]
    rw [ih]
    split
    · next h2 => rw [acc_inf, if_neg (by rw [h2]; omega)]
    · rfl
theorem acc_low {k : BookZ} {l : List EntZ} {ride : Nat} {day : Int} : ∀ n i, i < n → (k.rules.getD i default).ride = (ride : Int) → chkU k (l ++ [accE ride day]) ride n ≤ -1 := by
  intro n
  induction n with
  | zero => intro i hi; omega
  | succ n ih =>
    intro i hi hr
    simp only [chkU]
    by_cases q : i = n
    · subst q
      rw [if_pos hr, acc_inf, if_pos hr]
      omega
    · have := ih i (by omega) hr
      split <;> omega
theorem acc_why {k : BookZ} {l : List EntZ} {ride : Nat} {day d : Int} {r : Nat} (h : r ≠ ride) : whyS k (l ++ [accE ride day]) r d = whyS k l r d := by
  unfold whyS
  rw [acc_chk h, acc_def, acc_tst, acc_ins, decide_eq_false h]
  rfl
theorem acc_three {k : BookZ} {l : List EntZ} {ride : Nat} {day d : Int} : (3 : Int) ∈ whyS k (l ++ [accE ride day]) ride d := by
  unfold whyS
  rw [acc_tst, decide_eq_true rfl]
  simp
theorem acc_one {k : BookZ} {l : List EntZ} {ride : Nat} {day d : Int} (hd : 0 ≤ d) {i : Nat} (hi : i < k.rules.length) (hr : (k.rules.getD i default).ride = (ride : Int)) : (1 : Int) ∈ whyS k (l ++ [accE ride day]) ride d := by
  have := acc_low (l := l) (day := day) _ i hi hr
  unfold whyS
  rw [if_pos (show chkU k (l ++ [accE ride day]) ride k.rules.length < d by omega)]
  simp
theorem acc_due {k : BookZ} {l : List EntZ} {ride : Nat} {day d : Int} (hd : 0 ≤ d) {i : Nat} (hi : i < k.rules.length) (hr : (k.rules.getD i default).ride = (ride : Int)) : (i : Int) ∈ dueS k (l ++ [accE ride day]) d := by
  unfold dueS
  refine numsL_mem.2 ⟨i, hi, ?_, rfl⟩
  unfold dueP
  rw [acc_inf, if_pos hr]
  simp; omega
theorem acc_rel {k : BookZ} {l : List EntZ} {ride : Nat} {day d : Int} {r : Nat} : (r : Int) ∈ relS k (l ++ [accE ride day]) d ↔ (r : Int) ∈ relS k l d ∧ r ≠ ride := by
  unfold relS
  rw [numsL_mem, numsL_mem]
  constructor
  · rintro ⟨i, hi, hp, he⟩
    obtain rfl : r = i := by omega
    have hne : r ≠ ride := fun h => by
      subst h
      unfold relP at hp
      have h3 := acc_three (k := k) (l := l) (ride := r) (day := day) (d := d)
      have h0 := of_decide_eq_true hp
      rw [List.length_eq_zero_iff] at h0
      rw [h0] at h3
      cases h3
    refine ⟨⟨r, hi, ?_, rfl⟩, hne⟩
    unfold relP at hp ⊢
    rw [acc_why hne] at hp
    exact hp
  · rintro ⟨⟨i, hi, hp, he⟩, hne⟩
    obtain rfl : r = i := by omega
    refine ⟨r, hi, ?_, rfl⟩
    unfold relP at hp ⊢
    rw [acc_why hne]
    exact hp
set_option maxRecDepth 100000 in
set_option maxHeartbeats 1000000 in
theorem has_any (zs : List Int) (A : Option Addr) (c : Nat) (x : Int) (w : World) (hz : zs.length ≤ maxLen) (hr : Reads w w.heap.size 1 A zs.length (zs.map (Value.int .i64))) :
    Calls Try.prog 41 #[.slice A zs.length c, .int .i64 x] w fun e w' => e = .returned (.bool (decide (x ∈ zs))) ∧ w' = w := by
  have HZs : Hid (∀ (i : Nat) (hi : i < zs.length), ∃ b o, A = some ⟨b, o, none⟩ ∧ b < w.heap.size ∧ w.cell? ⟨b, o + i, none⟩ = some (.int .i64 zs[i])) := fun i hi => by
    obtain ⟨b, o, h1, h2, h3⟩ := hr.2 (by omega)
    exact ⟨b, o, h1, by omega, h3 i _ (by simp [hi])⟩
  unfold maxLen at hz
  obtain ⟨v, hv⟩ : ∃ v, v = decide (x ∈ zs) := ⟨_, rfl⟩
  rw [← hv]
  have HV := Lib.hid hv
  clear hr hv
  go_enter Try.func41, Try.ntmps41
  go_wp2_with fail
  go_loopw [5] (fun q wr => ∃ n : Nat, n ≤ zs.length ∧ q = .int .i64 n ∧ Hid (¬ x ∈ zs.take n) ∧ wr = w) (fun q _ => zs.length - (intOf q).toNat)
  case atStart => exact ⟨0, Nat.zero_le _, rfl, by show ¬ _; simp, rfl⟩
  case round =>
    obtain ⟨n, hn, rfl, hno, rfl⟩ := hrel
    by_cases hlt : n < zs.length
    · have n1 : (n : Int) < (zs.length : Int) := by omega
      have n0 : ¬ (n : Int) < 0 := by omega
      have en : IntKind.i64.wrap ((n : Int) + 1) = (n : Int) + 1 := IntWalk.i64_in _ (by omega)
      obtain ⟨b, o, hA, lb, z0⟩ := HZs.out n hlt
      have HM : Hid (zs[n] ∈ zs) := List.getElem_mem hlt
      have HT : Hid (zs.take (n + 1) = zs.take n ++ [zs[n]]) := List.take_succ_eq_append_getElem hlt
      generalize zs[n] = z at z0 HM HT
      subst hA
      clear HZs
      by_cases hx : z = x
      · have HV2 : Hid (v = true) := HV.out.trans (decide_eq_true (by rw [← hx]; exact HM.out))
        have e1 : decide (z = x) = true := decide_eq_true hx
        have e2 : (z == x) = true := by simpa using hx
        clear hx
        go_wp2_with fail
        go_ret
        exact ⟨ret_boolI HV2.out.symm, rfl⟩
      · have HN : Hid (¬ x ∈ zs.take (n + 1)) := by
          show ¬ _
          rw [HT.out]
          intro h
          rcases List.mem_append.1 h with h | h
          · exact hno.out h
          · exact hx (List.mem_singleton.1 h).symm
        have e1 : decide (z = x) = false := decide_eq_false hx
        have e2 : (z == x) = false := by simpa using hx
        clear hx
        go_wp2_with fail
        go_roundw
        case rel => exact ⟨n + 1, by omega, by go_num, HN, (by first | rfl | trivial)⟩
        case measure => simp [intOf]; omega
    · have n1 : ¬ (n : Int) < (zs.length : Int) := by omega
      have HV2 : Hid (v = false) := HV.out.trans (decide_eq_false (by have h := hno.out; rw [show n = zs.length by omega, List.take_length] at h; exact h))
      clear hlt
      go_wp2_with fail
      go_ret
      exact ⟨ret_boolI HV2.out.symm, rfl⟩
end Go.Proofs.Ytaocgkmobfocjaa
