/- The walk of ForceStops. No conditions. -/
import Derived.Test.YtbhojgkmhomajaaLb
import Derived.Test.YtbhojgkmhomajaaKy
namespace Go.Proofs.Ytbhojgkmhomajaa
open Go.RowKit

theorem stop_ok {m : Mot} {sp : Int} (h : (stopS m sp).2 = 0) : ∃ s e n : Nat, sp = s ∧ m.ease = e ∧ (1 ≤ e ∧ e ≤ 10) ∧ s ≤ 10 ∧ n ≤ 10 ∧ (stopS m sp).1.length = n ∧ (∀ k, k < n → (stopS m sp).1[k]?.getD 0 = ((s - (k + 1) * e : Nat) : Int)) ∧ ∀ k, k < n ↔ k * e < s := by
  unfold stopS at h ⊢
  by_cases h1 : motB m = false
  · rw [if_pos h1] at h; simp at h
  rw [if_neg h1] at h ⊢
  by_cases h2 : inB sp 0 m.top = false
  · rw [if_pos h2] at h; simp at h
  rw [if_neg h2] at h ⊢
  have h1' := (motB_iff m).1 (by simpa using h1)
  have h2' := inB_iff.1 (show inB sp 0 m.top = true by simpa using h2)
  obtain ⟨s, hs⟩ := Int.eq_ofNat_of_zero_le (show 0 ≤ sp by omega)
  obtain ⟨e, he⟩ := Int.eq_ofNat_of_zero_le (show 0 ≤ m.ease by omega)
  have he0 : 0 < e := by omega
  refine ⟨s, e, stN s e, hs, he, by omega, by omega, Nat.le_trans (stN_le he0) (by omega), ?_, fun k hk => ?_, fun k => stN_iff he0 k⟩
  · rw [hs, he]; simp [stI_length]
  · rw [hs, he]
    simp only [Int.toNat_natCast]
    have : (stI s e (stN s e))[k]? = some ((s - (k + 1) * e : Nat) : Int) := by simp [stI, hk]
    rw [this]
    rfl
def TruePost (w : World) (e : Ending) (w' : World) : Prop := e = .returned (.bool true) ∧ Below w.heap.size w w'

set_option maxRecDepth 100000 in
set_option maxHeartbeats 4000000 in
theorem stops_walk (m : Mot) (sp : Int) (w : World) : Calls Try.prog 7 #[motV m, .int .i64 sp] w (TruePost w) := by
  obtain ⟨W, hW⟩ : ∃ W, W = w.alloc (.cells #[.int .i64 m.top, .int .i64 m.ease, .int .i64 m.jerk] 35) := ⟨_, rfl⟩
  have bW : Below w.heap.size w W := by subst hW; exact (Below.refl _ _).alloc (Nat.le_refl _) _
  have rW : Row W w.heap.size 35 [.int .i64 m.top, .int .i64 m.ease, .int .i64 m.jerk] := by subst hW; exact Row.new w _ _
  obtain ⟨_, q0, q1, q2⟩ := Row.at_3 rW
  have z0 := rW.lt
  unfold motV
  go_enter Try.func7, Try.ntmps7
  go_wp2_with fail
  rw [← hW]
  clear hW
  refine (Stop_any m sp W).mono ?_
  rintro e w1 ⟨hb1, A, c, rfl, hr1⟩
  have b1 := bW.trans (hb1.mono bW.size)
  have r1 := rW.below hb1 rW.lt
  obtain ⟨_, q0, q1, q2⟩ := Row.at_3 r1
  have z1 := r1.lt
  go_wp2_with fail
  refine (rStop_any m sp w1).mono ?_
  rintro e w2 ⟨hb2, A', c', rfl, hr2⟩
  have b2 := b1.trans (hb2.mono b1.size)
  have r2 := r1.below hb2 r1.lt
  obtain ⟨_, q0, q1, q2⟩ := Row.at_3 r2
  have z2 := r2.lt
  have hr1' := hr1.below hb2
  have hl10 : (stopS m sp).1.length ≤ 10 := by
    unfold stopS
    split
    · simp
    · split
      · simp
      · rename_i h1 h2
        have h1' := (motB_iff m).1 (by simpa using h1)
        have h2' := inB_iff.1 (show inB sp 0 m.top = true by simpa using h2)
        simp only [stI_length]
        have := stN_le (s := sp.toNat) (e := m.ease.toNat) (by omega)
        omega
  go_wp2_with fail
  refine (sameInts_any (stopS m sp).1 (stopS m sp).1 A A' _ _ c c' _ _ w2 hr1' hr2 (by unfold maxLen; omega) (by unfold maxLen; omega)).mono ?_
  rintro e w3 ⟨rfl, hk3⟩
  rw [show decide ((stopS m sp).1 = (stopS m sp).1) = true from by simp]
  have hb3 := hk3.to_below (Nat.le_refl _) (by simp)
  have b3 := b2.trans (hb3.mono b2.size)
  have r3 := r2.below hb3 r2.lt
  obtain ⟨_, q0, q1, q2⟩ := Row.at_3 r3
  have z3 := r3.lt
  have hr3 := (hr1'.more (hb2.size)).below hb3
  by_cases he : (stopS m sp).2 = 0
  · obtain ⟨s, ez, n, hs, hez, he1, hs10, hn10, hln, hat, hiff⟩ := stop_ok he
    rw [hln] at hr3 ⊢
    rw [he]
    generalize (stopS m sp).1 = L at *
    subst hs
    rw [hez] at r3 q1
    clear hr1 hr2 hr1' r1 r2 rW he hl10 hk3 hez
    have Hat := Lib.hid hat
    have Hiff := Lib.hid hiff
    have Hln := Lib.hid hln
    clear hat hiff hln
    go_wp2_with fail
    go_loopw [9, 10] (fun l i wr => ∃ k : Nat, k ≤ n ∧ i = .int .i64 k ∧ l = .int .i64 ((s - k * ez : Nat) : Int) ∧ Below w.heap.size w wr ∧ Reads wr w2.heap.size 1 A n (nums L) ∧ Row wr w.heap.size 35 [.int .i64 m.top, .int .i64 (ez : Int), .int .i64 m.jerk]) (fun _ i _ => n - (intOf i).toNat)
    case atStart => exact ⟨0, Nat.zero_le _, rfl, by simp, b3, hr3, r3⟩
    case round =>
      obtain ⟨k, hk, rfl, rfl, hbel, hr, rr⟩ := hrel
      clear hr3 r3 q0 q1 q2 z3
      obtain ⟨_, q0, q1, q2⟩ := Row.at_3 rr
      have zr := rr.lt
      have hmul : (k + 1) * ez = k * ez + ez := Nat.succ_mul _ _
      obtain ⟨v, hv⟩ : ∃ v : Nat, v = s - k * ez := ⟨_, rfl⟩
      rw [← hv]
      by_cases hlt : k < n
      · obtain ⟨b, o, rfl, hb, c0⟩ := hr.at1n hlt
        rw [Hat.out k hlt] at c0
        obtain ⟨u, hu⟩ : ∃ u : Nat, u = s - (k + 1) * ez := ⟨_, rfl⟩
        rw [← hu] at c0
        have h1 := (Hiff.out k).1 hlt
        have h2 := Hiff.out (k + 1)
        have e1 : IntKind.i64.wrap ((v : Int) - (u : Int)) = (v : Int) - (u : Int) := IntWalk.i64_in _ (by omega)
        have e2 : IntKind.i64.wrap ((n : Int) - 1) = (n : Int) - 1 := IntWalk.i64_in _ (by omega)
        have e3 : IntKind.i64.wrap ((k : Int) + 1) = (k : Int) + 1 := IntWalk.i64_in _ (by omega)
        have t1 : ¬ (ez : Int) < (v : Int) - (u : Int) := by omega
        have t2 : ¬ v < u := by omega
        have hkl : (k : Int) < (n : Int) := by omega
        have Hu := Lib.hid hu
        by_cases hk1 : k + 1 = n
        · have hu0 : u = 0 := by omega
          have t3 : ((k : Int) == (n : Int) - 1) = true := by simp; omega
          have e4 : IntKind.i64.wrap (v : Int) = (v : Int) := IntWalk.i64_in _ (by omega)
          have t5 : ¬ ez < v := by omega
          have t6 : ¬ (ez : Int) < (v : Int) := by omega
          clear hu h1 h2 hv hmul
          subst hu0
          go_wp2_with fail
          go_quiet (fail)
          go_wp2_with fail
          go_roundw
          case rel => exact ⟨k + 1, by omega, by go_num, by rw [← Hu.out]; rfl, below_drewN hbel _, hr.drewN _, rr.drewN _⟩
          case measure => simp [intOf]; omega
        · have hu0 : 0 < u := by omega
          have t3 : ((k : Int) == (n : Int) - 1) = false := by simp; omega
          have t4 : ((u : Int) == 0) = false := by simp; omega
          clear hu h1 h2 hv hmul
          go_wp2_with fail
          go_quiet (fail)
          go_wp2_with fail
          go_roundw
          case rel => exact ⟨k + 1, by omega, by go_num, by rw [← Hu.out], below_drewN hbel _, hr.drewN _, rr.drewN _⟩
          case measure => simp [intOf]; omega
      · obtain rfl : k = n := by omega
        have hn0 := Hiff.out k
        have hv0 : v = 0 := by omega
        subst hv0
        obtain ⟨P, hP⟩ : ∃ P : Int, P = (k : Int) * (ez : Int) := ⟨_, rfl⟩
        have hP1 : P = ((k * ez : Nat) : Int) := by rw [hP]; simp
        have hP2 : k * ez ≤ 10 * 10 := Nat.mul_le_mul (by omega) (by omega)
        have hge : (s : Int) ≤ P := by omega
        have hQ : ((k : Int) - 1) * (ez : Int) = P - (ez : Int) := by rw [Int.sub_mul, hP]; omega
        have hQlt : P - (ez : Int) < s ∨ P - (ez : Int) < 1 := by
          cases k with
          | zero => right; simp at hP1; omega
          | succ k =>
            left
            have h1 := (Hiff.out k).1 (by omega)
            have h2 : (k + 1) * ez = k * ez + ez := Nat.succ_mul _ _
            omega
        have e1 : IntKind.i64.wrap ((k : Int) * (ez : Int)) = P := by rw [← hP]; exact IntWalk.i64_in _ (by omega)
        have e2 : IntKind.i64.wrap ((k : Int) - 1) = (k : Int) - 1 := IntWalk.i64_in _ (by omega)
        have e3 : IntKind.i64.wrap (((k : Int) - 1) * (ez : Int)) = P - (ez : Int) := by rw [hQ]; exact IntWalk.i64_in _ (by omega)
        have HP := Lib.hid hP1
        by_cases hs1 : 1 < s
        · have t1 : (1 : Int) < (s : Int) := by omega
          have t2 : P - (ez : Int) < (s : Int) := by omega
          clear hP hP1 hQ hQlt hv hmul hn0 hP2
          go_wp2_with fail
          refine (works_any _).mono ?_
          rintro e w4 ⟨rfl, hb4⟩
          go_wp2_with fail
          go_ret
          exact ⟨rfl, hbel.trans (hb4.mono hbel.size)⟩
        · have t1 : ¬ (1 : Int) < (s : Int) := by omega
          have t2 : P - (ez : Int) < 1 := by omega
          clear hP hP1 hQ hQlt hv hmul hn0 hP2
          go_wp2_with fail
          refine (works_any _).mono ?_
          rintro e w4 ⟨rfl, hb4⟩
          go_wp2_with fail
          go_ret
          exact ⟨rfl, hbel.trans (hb4.mono hbel.size)⟩
  · generalize (stopS m sp).2 = E at *
    have he' : (E != 0) = true := by simpa using he
    go_wp2_with fail
    refine (works_any _).mono ?_
    rintro e w4 ⟨rfl, hb4⟩
    go_wp2_with fail
    go_ret
    exact ⟨rfl, b3.trans (hb4.mono b3.size)⟩
end Go.Proofs.Ytbhojgkmhomajaa
