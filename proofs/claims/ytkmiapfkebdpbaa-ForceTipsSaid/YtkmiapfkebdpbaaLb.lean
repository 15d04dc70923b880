/- Contracts of from, CheckMotor (of the specification), Stop and the specification's Stop. No conditions. -/
import Derived.Test.YtkmiapfkebdpbaaLa
namespace Go.Proofs.Ytkmiapfkebdpbaa
open Go.RowKit

theorem from_any (n lo hi : Int) (w : World) : Calls Try.prog 50 #[.int .i64 n, .int .i64 lo, .int .i64 hi] w fun e w' => e = .returned (.bool (inB n lo hi)) ∧ w = w' := by
  go_enter Try.func50, Try.ntmps50
  by_cases h1 : lo ≤ n
  · by_cases h2 : n ≤ hi
    · go_wp2_with fail
      go_ret
      exact ⟨ret_bool (by simp [inB, h1, h2]), rfl⟩
    · go_wp2_with fail
      go_ret
      exact ⟨ret_bool (by simp [inB]; omega), rfl⟩
  · go_wp2_with fail
    go_ret
    exact ⟨ret_bool (by simp [inB]; omega), rfl⟩
def motE (m : Mot) : Int := if motB m = false then 31 else 0
theorem motB_eq (m : Mot) : motB m = (inB m.top 1 10 && inB m.ease 1 m.jerk && !decide (10 < m.jerk)) := by
  rw [Bool.eq_iff_iff, motB_iff]
  simp only [inB, Bool.and_eq_true, decide_eq_true_eq, Bool.not_eq_true', decide_eq_false_iff_not]
  omega
set_option maxHeartbeats 1000000 in
theorem CheckMotor_any (m : Mot) (w : World) : Calls Try.prog 66 #[motV m] w fun e w' => e = .returned (.int .i64 (motE m)) ∧ Below w.heap.size w w' := by
  have hb : Below w.heap.size w (w.alloc (.cells #[.int .i64 m.top, .int .i64 m.ease, .int .i64 m.jerk] 35)) := (Below.refl _ _).alloc (Nat.le_refl _) _
  have He : Hid (motE m = if (inB m.top 1 10 && inB m.ease 1 m.jerk && !decide (10 < m.jerk)) = false then 31 else 0) := by show _ = _; rw [← motB_eq]; rfl
  unfold motV
  go_enter Try.func66, Try.ntmps66
  go_wp2_with fail
  refine (from_any _ _ _ _).mono ?_
  rintro e w' ⟨rfl, rfl⟩
  cases h1 : inB m.top 1 10 with
  | false =>
    go_wp2_with fail
    go_ret
    exact ⟨ret_int (by rw [He.out, h1]; rfl), hb⟩
  | true =>
    go_wp2_with fail
    refine (from_any _ _ _ _).mono ?_
    rintro e w' ⟨rfl, rfl⟩
    cases h2 : inB m.ease 1 m.jerk with
    | false =>
      go_wp2_with fail
      go_ret
      exact ⟨ret_int (by rw [He.out, h1, h2]; rfl), hb⟩
    | true =>
      by_cases h3 : 10 < m.jerk
      · go_wp2_with fail
        go_ret
        exact ⟨ret_int (by rw [He.out, h1, h2, decide_eq_true h3]; rfl), hb⟩
      · go_wp2_with fail
        go_ret
        exact ⟨ret_int (by rw [He.out, h1, h2, decide_eq_false (Int.not_lt.2 h3)]; rfl), hb⟩

/-- The first k speeds of a motor that stops; how many there are. -/
def stI (s e k : Nat) : List Int := (List.range k).map fun i => ((s - (i + 1) * e : Nat) : Int)
def stN (s e : Nat) : Nat := (s + e - 1) / e
theorem stI_succ (s e k : Nat) : stI s e (k + 1) = stI s e k ++ [((s - (k + 1) * e : Nat) : Int)] := by simp [stI, List.range_succ]
theorem stI_length (s e k : Nat) : (stI s e k).length = k := by simp [stI]
theorem stN_iff {s e : Nat} (he : 0 < e) (k : Nat) : k < stN s e ↔ k * e < s := by
  unfold stN
  rw [Nat.lt_div_iff_mul_lt he]
  omega
theorem stN_le {s e : Nat} (he : 0 < e) : stN s e ≤ s := by
  rcases Nat.eq_zero_or_pos (stN s e) with h | h
  · omega
  · have h1 := (stN_iff (s := s) he (stN s e - 1)).1 (by omega)
    have h2 : stN s e - 1 ≤ (stN s e - 1) * e := Nat.le_mul_of_pos_right _ he
    omega
def stopS (m : Mot) (sp : Int) : List Int × Int :=
  if motB m = false then ([], 31) else if inB sp 0 m.top = false then ([], 1) else (stI sp.toNat m.ease.toNat (stN sp.toNat m.ease.toNat), 0)
def StPost (w : World) (m : Mot) (sp : Int) (e : Ending) (w' : World) : Prop :=
  Below w.heap.size w w' ∧ ∃ A c, e = .returned (.tuple #[.slice A (stopS m sp).1.length c, .int .i64 (stopS m sp).2]) ∧ Reads w' w'.heap.size 1 A (stopS m sp).1.length (nums (stopS m sp).1)
set_option maxRecDepth 100000 in
set_option maxHeartbeats 2000000 in
theorem Stop_any (m : Mot) (sp : Int) (w : World) : Calls Try.prog 28 #[motV m, .int .i64 sp] w (StPost w m sp) := by
  obtain ⟨i0, hi, hz0, hz1, hz2⟩ := info_parts Try.info_int
  obtain ⟨W, hW⟩ : ∃ W, W = w.alloc (.cells #[.int .i64 m.top, .int .i64 m.ease, .int .i64 m.jerk] 35) := ⟨_, rfl⟩
  have bW : Below w.heap.size w W := by subst hW; exact (Below.refl _ _).alloc (Nat.le_refl _) _
  have rW : Row W w.heap.size 35 [.int .i64 m.top, .int .i64 m.ease, .int .i64 m.jerk] := by subst hW; exact Row.new w _ _
  unfold motV
  go_enter Try.func28, Try.ntmps28
  go_wp2_with fail
  rw [← hW]
  clear hW
  refine (validMotor_any m W).mono ?_
  rintro e w1 ⟨rfl, hb1⟩
  have b1 := bW.trans (hb1.mono bW.size)
  have r1 := rW.below hb1 rW.lt
  obtain ⟨_, q0, q1, q2⟩ := Row.at_3 r1
  have z1 := r1.lt
  cases hm : motB m with
  | false =>
    go_wp2_with fail
    go_ret2
    exact ⟨b1, none, 0, by simp [stopS, hm], by simp only [stopS, hm, if_true]; exact Reads.none_⟩
  | true =>
    go_wp2_with fail
    refine (allWithin_new [sp] _ (by rfl) _ _ rfl (by simp) _ _ _ _ _ (by simp)).mono ?_
    rintro e w' ⟨rfl, rfl⟩
    have ha : allB [sp] 0 m.top = inB sp 0 m.top := by simp [allB]
    have b2 := b1.alloc b1.size (.cells #[.int .i64 sp] 3)
    have r2 := r1.alloc (.cells #[.int .i64 sp] 3)
    generalize w1.alloc (.cells #[.int .i64 sp] 3) = X at *
    rw [ha]
    clear ha q0 q1 q2 r1 rW z1
    cases hsp : inB sp 0 m.top with
    | false =>
      go_wp2_with fail
      go_ret2
      exact ⟨b2, none, 0, by simp [stopS, hm, hsp], by simp only [stopS, hm, hsp, if_true, Bool.true_eq_false, if_false]; exact Reads.none_⟩
    | true =>
      have hmo := (motB_iff m).1 hm
      have hin := inB_iff.1 hsp
      obtain ⟨s, hs⟩ := Int.eq_ofNat_of_zero_le (show 0 ≤ sp by omega)
      obtain ⟨ez, hez⟩ := Int.eq_ofNat_of_zero_le (show 0 ≤ m.ease by omega)
      have he0 : 0 < ez := by omega
      have hs10 : s ≤ 10 := by omega
      have HS : Hid (stopS m sp = (stI s ez (stN s ez), 0)) := by
        show _ = _
        unfold stopS
        rw [hm, hsp, hs, hez]
        rfl
      subst hs
      rw [hez] at r2
      have Hez := Lib.hid hez
      clear hez hm hsp
      go_wp2_with fail
      go_loopw [1, 6] (fun v l wr => ∃ k : Nat, k ≤ stN s ez ∧ v = .int .i64 ((s - k * ez : Nat) : Int) ∧ wr.ownsRow (w.heap.size + 1) 3 1 l (stI s ez k).length (nums (stI s ez k)) ∧ Below w.heap.size w wr ∧ Row wr w.heap.size 35 [.int .i64 m.top, .int .i64 (ez : Int), .int .i64 m.jerk]) (fun v _ _ => (intOf v).toNat)
      case atStart => exact ⟨0, Nat.zero_le _, by simp, owns_nil _ _ _ _, b2, r2⟩
      case round =>
        obtain ⟨k, hk, rfl, hown, hbel, rr⟩ := hrel
        obtain ⟨_, q0, q1, q2⟩ := Row.at_3 rr
        have zr := rr.lt
        have hlen := Lib.hid (stI_length s ez k)
        have hks : k ≤ s := Nat.le_trans hk (stN_le he0)
        obtain ⟨v, hv⟩ : ∃ v : Nat, v = s - k * ez := ⟨_, rfl⟩
        rw [← hv]
        have hiff := stN_iff (s := s) he0 k
        have hmul : (k + 1) * ez = k * ez + ez := Nat.succ_mul _ _
        have hv10 : v ≤ 10 := by omega
        have hez10 : ez ≤ 10 := by have := Hez.out; omega
        by_cases hlt : k < stN s ez
        · have hv0 : 0 < v := by have := hiff.1 hlt; omega
          have hv0' : (0 : Int) < (v : Int) := by omega
          have e1 : IntKind.i64.wrap ((v : Int) - (ez : Int)) = (v : Int) - (ez : Int) := IntWalk.i64_in _ (by omega)
          obtain ⟨u, hu⟩ : ∃ u : Nat, u = v - ez := ⟨_, rfl⟩
          have hun : u = s - (k + 1) * ez := by omega
          have En := Lib.hid (stI_succ s ez k)
          have m1 : (stI s ez k).length + 1 ≤ maxLen := by rw [hlen.out]; unfold maxLen; omega
          have m2 : ((stI s ez k).length + 1) * 8 ≤ 140737488355328 := by rw [hlen.out]; omega
          have hmx : max (0 : Int) ((v : Int) - (ez : Int)) = (u : Int) := by omega
          have Hun := Lib.hid hun
          have Hu := Lib.hid hu
          clear hun hu hmul hiff hv
          by_cases hc : ¬ ez < v
          · have hz : ((s - (k + 1) * ez : Nat) : Int) = 0 := by have := Hun.out; have := Hu.out; omega
            have HZ := Lib.hid hz
            clear hz hmx
            go_wp2_with (at_builtin; refine wpList_app _ rfl _ _ 47 rfl (w.heap.size + 1) 3 i0 (.int .i64 0) 1 8 Try.underlying47 hi hz0 hz1 hz2 rfl (by decide) u6 (stI s ez k).length (nums (stI s ez k)) rfl ?qo (wr.heap.size + 1) (some ⟨wr.heap.size, 0, none⟩) 1 1 (nums [0]) rfl ?qr ?qq m1 m2 ?qb ?_)
            case qo => exact owns_alloc hown _
            case qr => exact Row.reads (t := 3) (row_one _ _ _ _ rfl) rfl (by omega)
            case qq => intro u' hu'; simp [nums] at hu'; subst hu'; rfl
            case qb => simp; omega
            intro v' w4 hown' hbel'
            have b4 := (hbel.alloc hbel.size (.cells #[.int .i64 (0)] 3)).trans (hbel'.mono (by omega))
            have r4 := (rr.alloc (.cells #[.int .i64 (0)] 3)).below hbel' (by omega)
            go_wp2_with fail
            go_roundw
            case rel => exact ⟨k + 1, by omega, by rw [HZ.out], by rw [En.out, ← Hun.out]; rw [Hun.out, HZ.out]; simpa [nums] using hown', b4, r4⟩
            case measure => simp [intOf]; omega
          · have hc := Classical.not_not.1 hc
            have hz : ((s - (k + 1) * ez : Nat) : Int) = (v : Int) - (ez : Int) := by have := Hun.out; have := Hu.out; omega
            have HZ := Lib.hid hz
            clear hz hmx
            go_wp2_with (at_builtin; refine wpList_app _ rfl _ _ 47 rfl (w.heap.size + 1) 3 i0 (.int .i64 0) 1 8 Try.underlying47 hi hz0 hz1 hz2 rfl (by decide) u6 (stI s ez k).length (nums (stI s ez k)) rfl ?qo (wr.heap.size + 1) (some ⟨wr.heap.size, 0, none⟩) 1 1 (nums [(v : Int) - (ez : Int)]) rfl ?qr ?qq m1 m2 ?qb ?_)
            case qo => exact owns_alloc hown _
            case qr => exact Row.reads (t := 3) (row_one _ _ _ _ rfl) rfl (by omega)
            case qq => intro u' hu'; simp [nums] at hu'; subst hu'; rfl
            case qb => simp; omega
            intro v' w4 hown' hbel'
            have b4 := (hbel.alloc hbel.size (.cells #[.int .i64 ((v : Int) - (ez : Int))] 3)).trans (hbel'.mono (by omega))
            have r4 := (rr.alloc (.cells #[.int .i64 ((v : Int) - (ez : Int))] 3)).below hbel' (by omega)
            go_wp2_with fail
            go_roundw
            case rel => exact ⟨k + 1, by omega, by rw [HZ.out], by rw [En.out, ← Hun.out]; rw [Hun.out, HZ.out]; simpa [nums] using hown', b4, r4⟩
            case measure => simp [intOf]; omega
        · have hv0 : v = 0 := by
            have h1 : ¬ k * ez < s := fun h => hlt (hiff.2 h)
            omega
          have hkn : k = stN s ez := by omega
          clear hv hiff hmul
          subst hv0
          subst hkn
          have hown2 := own_reads hown
          obtain ⟨A, c, hA, hrd⟩ := hown2
          subst hA
          go_wp2_with fail
          go_ret2
          exact ⟨hbel, A, c, by rw [HS.out]; rfl, by rw [HS.out]; exact hrd⟩
set_option maxRecDepth 100000 in
set_option maxHeartbeats 2000000 in
theorem rStop_any (m : Mot) (sp : Int) (w : World) : Calls Try.prog 29 #[motV m, .int .i64 sp] w (StPost w m sp) := by
  obtain ⟨i0, hi, hz0, hz1, hz2⟩ := info_parts Try.info_int
  obtain ⟨W, hW⟩ : ∃ W, W = w.alloc (.cells #[.int .i64 m.top, .int .i64 m.ease, .int .i64 m.jerk] 35) := ⟨_, rfl⟩
  have bW : Below w.heap.size w W := by subst hW; exact (Below.refl _ _).alloc (Nat.le_refl _) _
  have rW : Row W w.heap.size 35 [.int .i64 m.top, .int .i64 m.ease, .int .i64 m.jerk] := by subst hW; exact Row.new w _ _
  unfold motV
  go_enter Try.func29, Try.ntmps29
  go_wp2_with fail
  rw [← hW]
  clear hW
  refine (CheckMotor_any m W).mono ?_
  rintro e w1 ⟨rfl, hb1⟩
  have b1 := bW.trans (hb1.mono bW.size)
  have r1 := rW.below hb1 rW.lt
  obtain ⟨_, q0, q1, q2⟩ := Row.at_3 r1
  have z1 := r1.lt
  cases hm : motB m with
  | false =>
    rw [show motE m = 31 from by unfold motE; rw [hm]; rfl]
    go_wp2_with fail
    go_ret2
    exact ⟨b1, none, 0, by simp [stopS, hm], by simp only [stopS, hm, if_true]; exact Reads.none_⟩
  | true =>
    rw [show motE m = 0 from by unfold motE; rw [hm]; rfl]
    go_wp2_with fail
    refine (from_any _ _ _ _).mono ?_
    rintro e w' ⟨rfl, rfl⟩
    have b2 := b1
    have r2 := r1
    obtain ⟨X, hX⟩ : ∃ X, X = w1 := ⟨_, rfl⟩
    rw [← hX] at b2 r2 q0 q1 q2 z1 ⊢
    clear hX
    clear q0 q1 q2 r1 rW z1
    cases hsp : inB sp 0 m.top with
    | false =>
      go_wp2_with fail
      go_ret2
      exact ⟨b2, none, 0, by simp [stopS, hm, hsp], by simp only [stopS, hm, hsp, if_true, Bool.true_eq_false, if_false]; exact Reads.none_⟩
    | true =>
      have hmo := (motB_iff m).1 hm
      have hin := inB_iff.1 hsp
      obtain ⟨s, hs⟩ := Int.eq_ofNat_of_zero_le (show 0 ≤ sp by omega)
      obtain ⟨ez, hez⟩ := Int.eq_ofNat_of_zero_le (show 0 ≤ m.ease by omega)
      have he0 : 0 < ez := by omega
      have hs10 : s ≤ 10 := by omega
      have HS : Hid (stopS m sp = (stI s ez (stN s ez), 0)) := by
        show _ = _
        unfold stopS
        rw [hm, hsp, hs, hez]
        rfl
      subst hs
      rw [hez] at r2
      have Hez := Lib.hid hez
      clear hez hm hsp
      go_wp2_with fail
      go_loopw [1, 7] (fun v l wr => ∃ k : Nat, k ≤ stN s ez ∧ v = .int .i64 ((s - k * ez : Nat) : Int) ∧ wr.ownsRow (w.heap.size + 1) 3 1 l (stI s ez k).length (nums (stI s ez k)) ∧ Below w.heap.size w wr ∧ Row wr w.heap.size 35 [.int .i64 m.top, .int .i64 (ez : Int), .int .i64 m.jerk]) (fun v _ _ => (intOf v).toNat)
      case atStart => exact ⟨0, Nat.zero_le _, by simp, owns_nil _ _ _ _, b2, r2⟩
      case round =>
        obtain ⟨k, hk, rfl, hown, hbel, rr⟩ := hrel
        obtain ⟨_, q0, q1, q2⟩ := Row.at_3 rr
        have zr := rr.lt
        have hlen := Lib.hid (stI_length s ez k)
        have hks : k ≤ s := Nat.le_trans hk (stN_le he0)
        obtain ⟨v, hv⟩ : ∃ v : Nat, v = s - k * ez := ⟨_, rfl⟩
        rw [← hv]
        have hiff := stN_iff (s := s) he0 k
        have hmul : (k + 1) * ez = k * ez + ez := Nat.succ_mul _ _
        have hv10 : v ≤ 10 := by omega
        have hez10 : ez ≤ 10 := by have := Hez.out; omega
        by_cases hlt : k < stN s ez
        · have hv0 : 0 < v := by have := hiff.1 hlt; omega
          have hv0' : (0 : Int) < (v : Int) := by omega
          have e1 : IntKind.i64.wrap ((v : Int) - (ez : Int)) = (v : Int) - (ez : Int) := IntWalk.i64_in _ (by omega)
          obtain ⟨u, hu⟩ : ∃ u : Nat, u = v - ez := ⟨_, rfl⟩
          have hun : u = s - (k + 1) * ez := by omega
          have En := Lib.hid (stI_succ s ez k)
          have m1 : (stI s ez k).length + 1 ≤ maxLen := by rw [hlen.out]; unfold maxLen; omega
          have m2 : ((stI s ez k).length + 1) * 8 ≤ 140737488355328 := by rw [hlen.out]; omega
          have hmx : max (0 : Int) ((v : Int) - (ez : Int)) = (u : Int) := by omega
          have Hun := Lib.hid hun
          have Hu := Lib.hid hu
          clear hun hu hmul hiff hv
          by_cases hc : ¬ ez < v
          · have hz : ((s - (k + 1) * ez : Nat) : Int) = 0 := by have := Hun.out; have := Hu.out; omega
            have HZ := Lib.hid hz
            clear hz hmx
            go_wp2_with (at_builtin; refine wpList_app _ rfl _ _ 47 rfl (w.heap.size + 1) 3 i0 (.int .i64 0) 1 8 Try.underlying47 hi hz0 hz1 hz2 rfl (by decide) u7 (stI s ez k).length (nums (stI s ez k)) rfl ?qo (wr.heap.size + 1) (some ⟨wr.heap.size, 0, none⟩) 1 1 (nums [0]) rfl ?qr ?qq m1 m2 ?qb ?_)
            case qo => exact owns_alloc hown _
            case qr => exact Row.reads (t := 3) (row_one _ _ _ _ rfl) rfl (by omega)
            case qq => intro u' hu'; simp [nums] at hu'; subst hu'; rfl
            case qb => simp; omega
            intro v' w4 hown' hbel'
            have b4 := (hbel.alloc hbel.size (.cells #[.int .i64 (0)] 3)).trans (hbel'.mono (by omega))
            have r4 := (rr.alloc (.cells #[.int .i64 (0)] 3)).below hbel' (by omega)
            go_wp2_with fail
            go_roundw
            case rel => exact ⟨k + 1, by omega, by rw [HZ.out], by rw [En.out, ← Hun.out]; rw [Hun.out, HZ.out]; simpa [nums] using hown', b4, r4⟩
            case measure => simp [intOf]; omega
          · have hc := Classical.not_not.1 hc
            have hz : ((s - (k + 1) * ez : Nat) : Int) = (v : Int) - (ez : Int) := by have := Hun.out; have := Hu.out; omega
            have HZ := Lib.hid hz
            clear hz hmx
            go_wp2_with (at_builtin; refine wpList_app _ rfl _ _ 47 rfl (w.heap.size + 1) 3 i0 (.int .i64 0) 1 8 Try.underlying47 hi hz0 hz1 hz2 rfl (by decide) u7 (stI s ez k).length (nums (stI s ez k)) rfl ?qo (wr.heap.size + 1) (some ⟨wr.heap.size, 0, none⟩) 1 1 (nums [(v : Int) - (ez : Int)]) rfl ?qr ?qq m1 m2 ?qb ?_)
            case qo => exact owns_alloc hown _
            case qr => exact Row.reads (t := 3) (row_one _ _ _ _ rfl) rfl (by omega)
            case qq => intro u' hu'; simp [nums] at hu'; subst hu'; rfl
            case qb => simp; omega
            intro v' w4 hown' hbel'
            have b4 := (hbel.alloc hbel.size (.cells #[.int .i64 ((v : Int) - (ez : Int))] 3)).trans (hbel'.mono (by omega))
            have r4 := (rr.alloc (.cells #[.int .i64 ((v : Int) - (ez : Int))] 3)).below hbel' (by omega)
            go_wp2_with fail
            go_roundw
            case rel => exact ⟨k + 1, by omega, by rw [HZ.out], by rw [En.out, ← Hun.out]; rw [Hun.out, HZ.out]; simpa [nums] using hown', b4, r4⟩
            case measure => simp [intOf]; omega
        · have hv0 : v = 0 := by
            have h1 : ¬ k * ez < s := fun h => hlt (hiff.2 h)
            omega
          have hkn : k = stN s ez := by omega
          clear hv hiff hmul
          subst hv0
          subst hkn
          have hown2 := own_reads hown
          obtain ⟨A, c, hA, hrd⟩ := hown2
          subst hA
          go_wp2_with fail
          go_ret2
          exact ⟨hbel, A, c, by rw [HS.out]; rfl, by rw [HS.out]; exact hrd⟩
end Go.Proofs.Ytkmiapfkebdpbaa
