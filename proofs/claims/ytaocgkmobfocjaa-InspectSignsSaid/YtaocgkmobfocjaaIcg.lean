/- The walk of InspectAfter. Conditions: arguments that read as data. -/
import Derived.Test.YtaocgkmobfocjaaIak
namespace Go.Proofs.Ytaocgkmobfocjaa
open Go.RowKit

theorem own_readsC {w : World} {base : Nat} {e : TypeId} {size n : Nat} {v : Value} {xs : List Value} (h : w.ownsRow base e size v n xs) (hn : 0 < n) : ∃ A c, v = .slice A n c ∧ Reads w w.heap.size size A n xs ∧ n ≤ c := by
  obtain ⟨A, c, hv, hr⟩ := own_readsI h
  refine ⟨A, c, hv, hr, ?_⟩
  rcases h.2 with h2 | ⟨g, cap, cur, hv2, -, -, hc, -⟩
  · omega
  · rw [hv2] at hv
    injection hv with h1 h2 h3
    omega
theorem onE_in {k : BookZ} {l : List EntZ} {day : Int} (h : LogOk k l) (hd : 0 ≤ day ∧ day ≤ 10000) : onE k l day = 0 := by
  unfold onE
  rw [if_pos (chkR_ok.2 h), if_pos (inBI.2 hd)]
theorem rideE_in {k : BookZ} {l : List EntZ} {ride day : Int} (h : LogOk k l) (hd : 0 ≤ day ∧ day ≤ 10000) (hr : 0 ≤ ride ∧ ride ≤ (k.insured.length : Int) - 1) : rideE k l ride day = 0 := by
  unfold rideE
  rw [if_pos (onE_in h hd), if_pos (inBI.2 hr)]
structure AfR (U : World) (l le : List EntZ) (A : Option Addr) (c zq : Nat) (ride day : Int) (done : Nat → Bool) (xs : Nat → Value) (y : World) : Prop where
  bl : Below U.heap.size U y
  m1 : done 1 = true → done 8 = false → y.ownsRow U.heap.size 54 5 (xs 1) l.length (entCells l)
  m7 : done 7 = true → done 8 = false → ∃ b, xs 7 = .slice (some ⟨b, 0, none⟩) 1 1 ∧ Row y b 54 [.int .i64 day, .int .i64 6, .int .i64 ride, .int .i64 0, .int .i64 0]
  m8 : done 8 = true → ∃ A2 c2, xs 8 = .slice A2 le.length c2 ∧ Reads y y.heap.size 5 A2 le.length (entCells le) ∧ le.length ≤ c2
  m9 : done 9 = true → ∃ A2 c2, xs 9 = .slice A2 le.length c2 ∧ Reads y y.heap.size 5 A2 le.length (entCells le) ∧ le.length ≤ c2
  v0 : done 0 = true → xs 0 = .slice A l.length c
  v2 : done 2 = true → xs 2 = .pointer (some ⟨zq, 1, none⟩)
  v3 : done 3 = true → xs 3 = .int .i64 day
  v4 : done 4 = true → xs 4 = .pointer (some ⟨zq, 0, none⟩)
  v5 : done 5 = true → xs 5 = .int .i64 ride
  v6 : done 6 = true → xs 6 = .agg #[.int .i64 day, .int .i64 6, .int .i64 ride, .int .i64 0, .int .i64 0]
set_option maxRecDepth 100000 in
set_option maxHeartbeats 4000000 in
theorem after_walk {w : World} (k : BookZ) (R : BkR) (hk : BkIn w w.heap.size k R) (l : List EntZ) (A : Option Addr) (c : Nat) (hr : Reads w w.heap.size 5 A l.length (entCells l)) (_ : l.length ≤ maxLen) (hlc : l.length ≤ c) (ride day : Int) :
    Calls Try.prog 10 #[bookV k R, .slice A l.length c, .agg #[.int .i64 ride, .int .i64 day]] w (TrueI w) := by
  obtain ⟨W0, hW0⟩ : ∃ W, W = w.alloc (.cells #[.slice R.A1 k.rules.length R.c1, .slice R.A2 k.ranks.length R.c2, .slice R.A3 k.insured.length R.c3] 25) := ⟨_, rfl⟩
  have b0 : Below w.heap.size w W0 := by subst hW0; exact (Below.refl _ _).alloc (Nat.le_refl _) _
  have r0 : Row W0 w.heap.size 25 [.slice R.A1 k.rules.length R.c1, .slice R.A2 k.ranks.length R.c2, .slice R.A3 k.insured.length R.c3] := by subst hW0; exact Row.new w _ _
  obtain ⟨W, hW⟩ : ∃ W, W = W0.alloc (.cells #[.int .i64 ride, .int .i64 day] 38) := ⟨_, rfl⟩
  have bW : Below w.heap.size w W := by subst hW; exact b0.alloc b0.size _
  have q0 : Row W0 w.heap.size 25 [.slice R.A1 k.rules.length R.c1, .slice R.A2 k.ranks.length R.c2, .slice R.A3 k.insured.length R.c3] := r0
  have r0 : Row W w.heap.size 25 [.slice R.A1 k.rules.length R.c1, .slice R.A2 k.ranks.length R.c2, .slice R.A3 k.insured.length R.c3] := by subst hW; exact q0.alloc _
  clear q0
  have t0 : Row W W0.heap.size 38 [.int .i64 ride, .int .i64 day] := by subst hW; exact Row.new W0 _ _
  obtain ⟨zb, hzb⟩ : ∃ z, z = w.heap.size := ⟨_, rfl⟩
  rw [← hzb] at r0
  have e0 : W0.heap.size = w.heap.size + 1 := by rw [hW0]; simp
  rw [e0] at t0
  obtain ⟨zq, hzq⟩ : ∃ z, z = w.heap.size + 1 := ⟨_, rfl⟩
  rw [← hzq] at t0
  clear e0
  have gW0 : W.cell? ⟨zb, 0, none⟩ = some (.slice R.A1 k.rules.length R.c1) := r0.cell (j := 0) (by simp)
  have gW1 : W.cell? ⟨zb, 1, none⟩ = some (.slice R.A2 k.ranks.length R.c2) := r0.cell (j := 1) (by simp)
  have gW2 : W.cell? ⟨zb, 2, none⟩ = some (.slice R.A3 k.insured.length R.c3) := r0.cell (j := 2) (by simp)
  have fW0 : W.cell? ⟨zq, 0, none⟩ = some (.int .i64 ride) := t0.cell (j := 0) (by simp)
  have fW1 : W.cell? ⟨zq, 1, none⟩ = some (.int .i64 day) := t0.cell (j := 1) (by simp)
  have lW := r0.lt
  have mW := t0.lt
  have HBW := Lib.hid bW
  have HGW := Lib.hid r0
  have HFW := Lib.hid t0
  have HW : Hid (∀ X, Below w.heap.size w X → Calls Try.prog 17 #[] X fun e w' => e = .returned (.bool true) ∧ Below w.heap.size w w') := fun X hX => (works_any X).mono fun e w' h => ⟨h.1, hX.trans (h.2.mono hX.size)⟩
  have HL := Lib.hid (long_any A l.length c W)
  have HCk : Hid (∀ (l : List EntZ) (A : Option Addr) (c : Nat), l.length ≤ 1000 → l.length ≤ c → ∀ X, Below w.heap.size w X → Reads X X.heap.size 5 A l.length (entCells l) → Calls Try.prog 18 #[bookV k R, .slice A l.length c] X fun e w' => e = .returned (.tuple #[.int .i64 (chkR k l).1, .int .i64 (chkR k l).2]) ∧ Below X.heap.size X w') := fun l A c h1 h2 X hX h => Check_any k R l A c X.heap.size X (Nat.le_refl _) (by unfold maxLen; omega) h2 h ((hk.below hX).more hX.size)
  have HRe : Hid (∀ (l : List EntZ) (A : Option Addr) (c : Nat), l.length ≤ 1000 → l.length ≤ c → ∀ X, Below w.heap.size w X → Reads X X.heap.size 5 A l.length (entCells l) → Calls Try.prog 25 #[bookV k R, .slice A l.length c, .int .i64 day] X (LsTo X (onE k l day) (lsE (onE k l day) (relS k (upL l day) day)))) := fun l A c h1 h2 X hX h => Released_any k R l A c X.heap.size day X (Nat.le_refl _) (by unfold maxLen; omega) h2 h ((hk.below hX).more hX.size)
  have HDu : Hid (∀ (l : List EntZ) (A : Option Addr) (c : Nat), l.length ≤ 1000 → l.length ≤ c → ∀ X, Below w.heap.size w X → Reads X X.heap.size 5 A l.length (entCells l) → Calls Try.prog 20 #[bookV k R, .slice A l.length c, .int .i64 day] X (LsTo X (onE k l day) (lsE (onE k l day) (dueS k (upL l day) day)))) := fun l A c h1 h2 X hX h => Due_any k R l A c X.heap.size day X (Nat.le_refl _) (by unfold maxLen; omega) h2 h ((hk.below hX).more hX.size)
  have HWy : Hid (∀ (l : List EntZ) (A : Option Addr) (c : Nat), l.length ≤ 1000 → l.length ≤ c → ∀ X, Below w.heap.size w X → Reads X X.heap.size 5 A l.length (entCells l) → Calls Try.prog 27 #[bookV k R, .slice A l.length c, .int .i64 ride, .int .i64 day] X (LsTo X (rideE k l ride day) (lsE (rideE k l ride day) (whyS k (upL l day) ride.toNat day)))) := fun l A c h1 h2 X hX h => Why_any k R l A c X.heap.size ride day X (Nat.le_refl _) (by unfold maxLen; omega) h2 h ((hk.below hX).more hX.size)
  have HRl : Hid (∀ X, Below W.heap.size W X → Reads X w.heap.size 5 A l.length (entCells l)) := fun X hX => (hr.below bW).below (hX.mono bW.size)
  have HRr : Hid (∀ (i : Nat) (hi : i < k.rules.length) (X : World), Below w.heap.size w X → ∃ b o, R.A1 = some ⟨b, o, none⟩ ∧ b < X.heap.size ∧ X.cell? ⟨b, o + i * 4, none⟩ = some (.int .i64 k.rules[i].ride)) := fun i hi X hX => by
    obtain ⟨b, o, h1, h2, h3, -, -, -⟩ := ru_at (hk.rules.below hX) hi
    exact ⟨b, o, h1, by have := hX.size; omega, h3⟩
  have HLc := Lib.hid hlc
  have hl1 := hk.l1
  have hl3 := hk.l3
  unfold maxLen at hl1 hl3
  obtain ⟨i0, hi, hz0, hz1, hz2⟩ := info_parts Try.info_entI
  generalize (decide (30 < l.length) && decide (l.length ≤ 100)) = lg at HL
  unfold bookV at *
  clear b0 bW r0 t0 hk hr hlc
  go_enter Try.func10, Try.ntmps10
  go_upto_region 1 with fail
  rw [← hW0, ← hW, ← hzq, ← hzb]
  clear hW hW0 hzb hzq
  cases lg with
  | true =>
    go_wp2_with (first | (go_at_call 16; refine HL.out.mono ?_; rintro e w' ⟨rfl, hw⟩; rw [hw]; clear hw) | (go_at_call 17; refine (HW.out _ HBW.out).mono ?_; rintro e w' ⟨rfl, hb⟩; have BW := Lib.hid hb; clear hb))
    go_ret
    exact ⟨rfl, BW.out⟩
  | false =>
  by_cases hlen : 100 ≤ l.length
  · have d1 : decide (100 ≤ l.length) = true := decide_eq_true hlen
    have d1' : decide ((100 : Int) ≤ (l.length : Int)) = true := decide_eq_true (by omega)
    go_wp2_with (first | (go_at_call 16; refine HL.out.mono ?_; rintro e w' ⟨rfl, hw⟩; rw [hw]; clear hw) | (go_at_call 17; refine (HW.out _ HBW.out).mono ?_; rintro e w' ⟨rfl, hb⟩; have BW := Lib.hid hb; clear hb))
    go_ret
    exact ⟨rfl, BW.out⟩
  have d1 : decide ((100 : Int) ≤ (l.length : Int)) = false := decide_eq_false (by omega)
  have d1' : ¬ 100 ≤ l.length := hlen
  by_cases hr0 : ride < 0
  · have d2 : decide (ride < 0) = true := decide_eq_true hr0
    go_wp2_with (first | (go_at_call 16; refine HL.out.mono ?_; rintro e w' ⟨rfl, hw⟩; rw [hw]; clear hw) | (go_at_call 17; refine (HW.out _ HBW.out).mono ?_; rintro e w' ⟨rfl, hb⟩; have BW := Lib.hid hb; clear hb))
    go_ret
    exact ⟨rfl, BW.out⟩
  have d2 : decide (ride < 0) = false := decide_eq_false hr0
  by_cases hr1 : (k.insured.length : Int) ≤ ride
  · have d3 : decide ((k.insured.length : Int) ≤ ride) = true := decide_eq_true hr1
    go_wp2_with (first | (go_at_call 16; refine HL.out.mono ?_; rintro e w' ⟨rfl, hw⟩; rw [hw]; clear hw) | (go_at_call 17; refine (HW.out _ HBW.out).mono ?_; rintro e w' ⟨rfl, hb⟩; have BW := Lib.hid hb; clear hb))
    go_ret
    exact ⟨rfl, BW.out⟩
  have d3 : decide ((k.insured.length : Int) ≤ ride) = false := decide_eq_false hr1
  go_upto_region 3 with (go_at_call 16; refine HL.out.mono ?_; rintro e w' ⟨rfl, hw⟩; rw [hw]; clear hw)
  obtain ⟨rn, hrn⟩ : ∃ rn, rn = ride.toNat := ⟨_, rfl⟩
  have HRn : Hid (ride = (rn : Int)) := by show _ = _; omega
  have HRt : Hid (ride.toNat = rn) := hrn.symm
  have HRange : Hid (0 ≤ ride ∧ ride ≤ (k.insured.length : Int) - 1) := ⟨by omega, by omega⟩
  clear hrn
  obtain ⟨le, hle2⟩ : ∃ le, le = l ++ [accE rn day] := ⟨_, rfl⟩
  have HLe := Lib.hid hle2
  have HEl : Hid (le.length = l.length + 1) := by show _ = _; rw [hle2]; simp
  have HEc : Hid (entCells le = entCells l ++ [.int .i64 day, .int .i64 6, .int .i64 ride, .int .i64 0, .int .i64 0]) := by show _ = _; rw [hle2, HRn.out]; simp [entCells, entL, accE]
  have hll : l.length < 100 := by omega
  have HLl := Lib.hid hll
  have m1 : 0 + l.length ≤ maxLen := by unfold maxLen; omega
  have m2 : (0 + l.length) * 40 ≤ 140737488355328 := by omega
  have m3 : l.length + 1 ≤ maxLen := by unfold maxLen; omega
  have m4 : (l.length + 1) * 40 ≤ 140737488355328 := by omega
  clear hle2 hr0 hr1 d1 d1' d2 d3 hll hlen HL
  refine wp_region_stepsY 10 (ord := [0, 1, 2, 3, 4, 5, 6, 7, 8, 9]) (ds := [(0, 41), (1, 42), (2, 43), (3, 44), (4, 45), (5, 46), (6, 47), (7, 48), (8, 49), (9, 7)]) (I := AfR W l le A c zq ride day) (by kernel_rfl) (by kernel_rfl) rfl ?iz (StepsY.cons (k := 0) (k' := 1) (o := ⟨some 41, _, _, _, _, _⟩) rfl rfl ?sz0 (StepsY.cons (k := 1) (k' := 2) (o := ⟨some 42, _, _, _, _, _⟩) rfl rfl ?sz1 (StepsY.cons (k := 2) (k' := 3) (o := ⟨some 43, _, _, _, _, _⟩) rfl rfl ?sz2 (StepsY.cons (k := 3) (k' := 4) (o := ⟨some 44, _, _, _, _, _⟩) rfl rfl ?sz3 (StepsY.cons (k := 4) (k' := 5) (o := ⟨some 45, _, _, _, _, _⟩) rfl rfl ?sz4 (StepsY.cons (k := 5) (k' := 6) (o := ⟨some 46, _, _, _, _, _⟩) rfl rfl ?sz5 (StepsY.cons (k := 6) (k' := 7) (o := ⟨some 47, _, _, _, _, _⟩) rfl rfl ?sz6 (StepsY.cons (k := 7) (k' := 8) (o := ⟨some 48, _, _, _, _, _⟩) rfl rfl ?sz7 (StepsY.cons (k := 8) (k' := 9) (o := ⟨some 49, _, _, _, _, _⟩) rfl rfl ?sz8 (StepsY.cons (k := 9) (k' := 10) (o := ⟨some 7, _, _, _, _, _⟩) rfl rfl ?sz9 StepsY.nil)))))))))) ?finz
  case iz => exact fun xs => ⟨(Below.refl _ _).drew, fun h => Bool.noConfusion h, fun h => Bool.noConfusion h, fun h => Bool.noConfusion h, fun h => Bool.noConfusion h, fun h => Bool.noConfusion h, fun h => Bool.noConfusion h, fun h => Bool.noConfusion h, fun h => Bool.noConfusion h, fun h => Bool.noConfusion h, fun h => Bool.noConfusion h⟩
  case sz0 =>
    intro xs done y hI hd0 hup hdn K hK
    refine wpOp_go (o := ⟨some 41, _, _, _, _, _⟩) rfl rfl ?_
    simp only [putsF, List.foldl_cons, List.foldl_nil, Act.put, List.setIfInBounds_toArray, List.set_cons_zero, List.set_cons_succ] at hK ⊢
    go_wp2_with fail
    exact hK.out _ _ ⟨hI.bl, hI.m1, hI.m7, hI.m8, hI.m9, fun _ => rfl, hI.v2, hI.v3, hI.v4, hI.v5, hI.v6⟩
  case sz1 =>
    intro xs done y hI hd0 hup hdn K hK
    refine wpOp_go (o := ⟨some 42, _, _, _, _, _⟩) rfl rfl ?_
    have e0 := hI.v0 (hdn 0 (by kernel_rfl))
    simp only [putsF, List.foldl_cons, List.foldl_nil, Act.put, List.setIfInBounds_toArray, List.set_cons_zero, List.set_cons_succ] at hK ⊢
    simp only [e0] at hK ⊢
    have hrn := HRl.out y hI.bl
    refine wp_appO _ _ 26 rfl y.heap.size 54 i0 (.agg #[.int .i64 0, .int .i64 0, .int .i64 0, .int .i64 0, .int .i64 0]) 5 40 Try.underlying26 hi hz0 hz1 hz2 rfl (by decide) (.slice none 0 0) 0 [] rfl (owns_nil _ _ _ _) w.heap.size A l.length c (entCells l) rfl hrn (ents_ones l) m1 m2 (Nat.le_refl _) ?_
    intro v' w1 hown' hbel'
    have ho2 : w1.ownsRow W.heap.size 54 5 v' l.length (entCells l) := own_base (by simpa using hown') hI.bl.size
    simp only [Act.put, List.setIfInBounds_toArray, List.set_cons_zero, List.set_cons_succ]
    exact hK.out _ _ ⟨(hI.bl.trans (hbel'.mono hI.bl.size)), (fun _ _ => ho2), (fun h h7 => by obtain ⟨b, e, hr⟩ := hI.m7 h h7; exact ⟨b, e, hr.below hbel' hr.lt⟩), (fun h => Bool.noConfusion ((hup 8 (by kernel_rfl)).symm.trans h)), (fun h => Bool.noConfusion ((hup 9 (by kernel_rfl)).symm.trans h)), hI.v0, hI.v2, hI.v3, hI.v4, hI.v5, hI.v6⟩
  case sz2 =>
    intro xs done y hI hd0 hup hdn K hK
    refine wpOp_go (o := ⟨some 43, _, _, _, _, _⟩) rfl rfl ?_
    simp only [putsF, List.foldl_cons, List.foldl_nil, Act.put, List.setIfInBounds_toArray, List.set_cons_zero, List.set_cons_succ] at hK ⊢
    go_wp2_with fail
    exact hK.out _ _ ⟨hI.bl, hI.m1, hI.m7, hI.m8, hI.m9, hI.v0, fun _ => rfl, hI.v3, hI.v4, hI.v5, hI.v6⟩
  case sz3 =>
    intro xs done y hI hd0 hup hdn K hK
    refine wpOp_go (o := ⟨some 44, _, _, _, _, _⟩) rfl rfl ?_
    have e2 := hI.v2 (hdn 2 (by kernel_rfl))
    simp only [putsF, List.foldl_cons, List.foldl_nil, Act.put, List.setIfInBounds_toArray, List.set_cons_zero, List.set_cons_succ] at hK ⊢
    simp only [e2] at hK ⊢
    have rG := HFW.out.below hI.bl HFW.out.lt
    have lG := rG.lt
    have f0 : y.cell? ⟨zq, 0, none⟩ = some (.int .i64 ride) := rG.cell (j := 0) (by simp)
    have f1 : y.cell? ⟨zq, 1, none⟩ = some (.int .i64 day) := rG.cell (j := 1) (by simp)
    go_wp2_with fail
    exact hK.out _ _ ⟨hI.bl, hI.m1, hI.m7, hI.m8, hI.m9, hI.v0, hI.v2, fun _ => rfl, hI.v4, hI.v5, hI.v6⟩
  case sz4 =>
    intro xs done y hI hd0 hup hdn K hK
    refine wpOp_go (o := ⟨some 45, _, _, _, _, _⟩) rfl rfl ?_
    simp only [putsF, List.foldl_cons, List.foldl_nil, Act.put, List.setIfInBounds_toArray, List.set_cons_zero, List.set_cons_succ] at hK ⊢
    go_wp2_with fail
    exact hK.out _ _ ⟨hI.bl, hI.m1, hI.m7, hI.m8, hI.m9, hI.v0, hI.v2, hI.v3, fun _ => rfl, hI.v5, hI.v6⟩
  case sz5 =>
    intro xs done y hI hd0 hup hdn K hK
    refine wpOp_go (o := ⟨some 46, _, _, _, _, _⟩) rfl rfl ?_
    have e4 := hI.v4 (hdn 4 (by kernel_rfl))
    simp only [putsF, List.foldl_cons, List.foldl_nil, Act.put, List.setIfInBounds_toArray, List.set_cons_zero, List.set_cons_succ] at hK ⊢
    simp only [e4] at hK ⊢
    have rG := HFW.out.below hI.bl HFW.out.lt
    have lG := rG.lt
    have f0 : y.cell? ⟨zq, 0, none⟩ = some (.int .i64 ride) := rG.cell (j := 0) (by simp)
    have f1 : y.cell? ⟨zq, 1, none⟩ = some (.int .i64 day) := rG.cell (j := 1) (by simp)
    go_wp2_with fail
    exact hK.out _ _ ⟨hI.bl, hI.m1, hI.m7, hI.m8, hI.m9, hI.v0, hI.v2, hI.v3, hI.v4, fun _ => rfl, hI.v6⟩
  case sz6 =>
    intro xs done y hI hd0 hup hdn K hK
    refine wpOp_go (o := ⟨some 47, _, _, _, _, _⟩) rfl rfl ?_
    have e3 := hI.v3 (hdn 3 (by kernel_rfl))
    have e5 := hI.v5 (hdn 5 (by kernel_rfl))
    simp only [putsF, List.foldl_cons, List.foldl_nil, Act.put, List.setIfInBounds_toArray, List.set_cons_zero, List.set_cons_succ] at hK ⊢
    simp only [e3, e5] at hK ⊢
    go_wp2_with fail
    exact hK.out _ _ ⟨hI.bl, hI.m1, hI.m7, hI.m8, hI.m9, hI.v0, hI.v2, hI.v3, hI.v4, hI.v5, fun _ => rfl⟩
  case sz7 =>
    intro xs done y hI hd0 hup hdn K hK
    refine wpOp_go (o := ⟨some 48, _, _, _, _, _⟩) rfl rfl ?_
    have e6 := hI.v6 (hdn 6 (by kernel_rfl))
    simp only [putsF, List.foldl_cons, List.foldl_nil, Act.put, List.setIfInBounds_toArray, List.set_cons_zero, List.set_cons_succ] at hK ⊢
    simp only [e6] at hK ⊢
    go_wp2_with fail
    exact hK.out _ _ ⟨(hI.bl.alloc hI.bl.size _), (fun h h7 => owns_alloc (hI.m1 h h7) _), (fun _ _ => ⟨_, rfl, Row.new y _ _⟩), (fun h => Bool.noConfusion ((hup 8 (by kernel_rfl)).symm.trans h)), (fun h => Bool.noConfusion ((hup 9 (by kernel_rfl)).symm.trans h)), hI.v0, hI.v2, hI.v3, hI.v4, hI.v5, hI.v6⟩
  case sz8 =>
    intro xs done y hI hd0 hup hdn K hK
    refine wpOp_go (o := ⟨some 49, _, _, _, _, _⟩) rfl rfl ?_
    have hm2 := hI.m1 (hdn 1 (by kernel_rfl)) hd0
    have hm6 := hI.m7 (hdn 7 (by kernel_rfl)) hd0
    simp only [putsF, List.foldl_cons, List.foldl_nil, Act.put, List.setIfInBounds_toArray, List.set_cons_zero, List.set_cons_succ] at hK ⊢
    obtain ⟨b, e6, hr6⟩ := hm6
    simp only [e6] at hK ⊢
    have hrx := hr6.reads (B := y.heap.size) (size := 5) (n := 1) rfl hr6.lt
    refine wp_appO _ _ 26 rfl W.heap.size 54 i0 (.agg #[.int .i64 0, .int .i64 0, .int .i64 0, .int .i64 0, .int .i64 0]) 5 40 Try.underlying26 hi hz0 hz1 hz2 rfl (by decide) (xs 1) l.length (entCells l) rfl hm2 y.heap.size (some ⟨b, 0, none⟩) 1 1 [.int .i64 day, .int .i64 6, .int .i64 ride, .int .i64 0, .int .i64 0] rfl hrx ?q1 m3 m4 hI.bl.size ?_
    case q1 => intro u hu; simp at hu; rcases hu with rfl | rfl | rfl | rfl | rfl <;> rfl
    intro v' w1 hown' hbel'
    obtain ⟨A2, c2, hv2, hr2, hcc⟩ := own_readsC hown' (Nat.succ_pos _)
    rw [← HEl.out] at hv2 hr2 hcc
    rw [← HEc.out] at hr2
    subst hv2
    simp only [Act.put, List.setIfInBounds_toArray, List.set_cons_zero, List.set_cons_succ]
    exact hK.out _ _ ⟨(hI.bl.trans hbel'), (fun _ h => Bool.noConfusion h), (fun _ h => Bool.noConfusion h), (fun _ => ⟨_, _, rfl, hr2, hcc⟩), (fun h => Bool.noConfusion ((hup 9 (by kernel_rfl)).symm.trans h)), hI.v0, hI.v2, hI.v3, hI.v4, hI.v5, hI.v6⟩
  case sz9 =>
    intro xs done y hI hd0 hup hdn K hK
    refine wpOp_go (o := ⟨some 7, _, _, _, _, _⟩) rfl rfl ?_
    have hm8 := hI.m8 (hdn 8 (by kernel_rfl))
    simp only [putsF, List.foldl_cons, List.foldl_nil, Act.put, List.setIfInBounds_toArray, List.set_cons_zero, List.set_cons_succ] at hK ⊢
    obtain ⟨A2, c2, e8, hr8, hc8⟩ := hm8
    simp only [e8] at hK ⊢
    go_wp2_with fail
    exact hK.out _ _ ⟨hI.bl, hI.m1, hI.m7, hI.m8, (fun _ => ⟨_, _, rfl, hr8, hc8⟩), hI.v0, hI.v2, hI.v3, hI.v4, hI.v5, hI.v6⟩
  case finz =>
    intro xs done Y hI hd
    have hm9 := hI.m9 (hd 9 (by decide))
    have hbY := hI.bl
    obtain ⟨A2, c2, e9, hr9, hc9⟩ := hm9
    simp only [putsF, List.foldl_cons, List.foldl_nil, Act.put, List.setIfInBounds_toArray, List.set_cons_zero, List.set_cons_succ]
    simp only [e9]
    have HR9 := Lib.hid hr9
    have HC9 := Lib.hid hc9
    clear hI hd e9 hr9 hc9 m1 m2 m3 m4 hi hz0 hz1 hz2
    have HBY := Lib.hid (HBW.out.trans (hbY.mono HBW.out.size))
    have sY := HGW.out.below hbY HGW.out.lt
    have vY := HFW.out.below hbY HFW.out.lt
    have gY0 : Y.cell? ⟨zb, 0, none⟩ = some (.slice R.A1 k.rules.length R.c1) := sY.cell (j := 0) (by simp)
    have gY1 : Y.cell? ⟨zb, 1, none⟩ = some (.slice R.A2 k.ranks.length R.c2) := sY.cell (j := 1) (by simp)
    have gY2 : Y.cell? ⟨zb, 2, none⟩ = some (.slice R.A3 k.insured.length R.c3) := sY.cell (j := 2) (by simp)
    have fY0 : Y.cell? ⟨zq, 0, none⟩ = some (.int .i64 ride) := vY.cell (j := 0) (by simp)
    have fY1 : Y.cell? ⟨zq, 1, none⟩ = some (.int .i64 day) := vY.cell (j := 1) (by simp)
    have lY := sY.lt
    have mY := vY.lt
    have HGY := Lib.hid sY
    have HFY := Lib.hid vY
    have HBWY := Lib.hid hbY
    clear hbY sY vY gW0 gW1 gW2 fW0 fW1 lW mW
    have HRlY := Lib.hid (HRl.out Y HBWY.out)
    have hck := Lib.hid (HCk.out le A2 c2 (by have := HEl.out; have := HLl.out; omega) HC9.out Y HBY.out HR9.out)
    generalize hcr : chkR k le = cr at hck
    obtain ⟨cr1, cr2⟩ := cr
    dsimp only at hck
    go_upto_region 5 with (go_at_call 18; refine hck.out.mono ?_; rintro e X1 ⟨rfl, hX1⟩)
    have HBX1 := Lib.hid (HBY.out.trans (hX1.mono HBY.out.size))
    have sX1 := HGY.out.below hX1 HGY.out.lt
    have vX1 := HFY.out.below hX1 HFY.out.lt
    have gX10 : X1.cell? ⟨zb, 0, none⟩ = some (.slice R.A1 k.rules.length R.c1) := sX1.cell (j := 0) (by simp)
    have gX11 : X1.cell? ⟨zb, 1, none⟩ = some (.slice R.A2 k.ranks.length R.c2) := sX1.cell (j := 1) (by simp)
    have gX12 : X1.cell? ⟨zb, 2, none⟩ = some (.slice R.A3 k.insured.length R.c3) := sX1.cell (j := 2) (by simp)
    have fX10 : X1.cell? ⟨zq, 0, none⟩ = some (.int .i64 ride) := vX1.cell (j := 0) (by simp)
    have fX11 : X1.cell? ⟨zq, 1, none⟩ = some (.int .i64 day) := vX1.cell (j := 1) (by simp)
    have lX1 := sX1.lt
    have mX1 := vX1.lt
    have HGX1 := Lib.hid sX1
    have HFX1 := Lib.hid vX1
    have HR10 := Lib.hid ((HR9.out.below hX1).more hX1.size)
    have HRl1 : Hid (∀ X, Below X1.heap.size X1 X → Reads X w.heap.size 5 A l.length (entCells l)) := fun X hX => HRl.out X (HBWY.out.trans ((hX1.mono HBWY.out.size).trans (hX.mono (Nat.le_trans HBWY.out.size hX1.size))))
    clear HR9 HRl HRlY hck
    clear hX1 sX1 vX1 gY0 gY1 gY2 fY0 fY1 lY mY
    by_cases h0 : cr2 = 0
    · have hok : LogOk k le := chkR_ok.1 (by rw [hcr]; exact h0)
      rw [HLe.out] at hok
      have hac := acc_days hok
      have E1 : onE k l day = 0 := onE_in hac.1 hac.2.1
      have E2 : onE k le day = 0 := by rw [HLe.out]; exact onE_in hok hac.2.1
      have E3 : rideE k le ride day = 0 := by rw [HLe.out]; exact rideE_in hok hac.2.1 HRange.out
      have U1 : upL l day = l := up_all hac.2.2.1
      have U2 : upL le day = le := by rw [HLe.out]; exact up_all hac.2.2.2
      have b1 := HRe.out l A c (by have := HLl.out; omega) HLc.out
      have b2 := HRe.out le A2 c2 (by have := HEl.out; have := HLl.out; omega) HC9.out
      have b3 := HDu.out le A2 c2 (by have := HEl.out; have := HLl.out; omega) HC9.out
      have b4 := HWy.out le A2 c2 (by have := HEl.out; have := HLl.out; omega) HC9.out
      rw [E1, U1] at b1
      rw [E2, U2] at b2 b3
      rw [E3, U2, HRt.out] at b4
      have f3 : (3 : Int) ∈ whyS k le rn day := by rw [HLe.out]; exact acc_three
      have f1 : ∀ i, i < k.rules.length → (k.rules.getD i default).ride = (rn : Int) → (i : Int) ∈ dueS k le day ∧ (1 : Int) ∈ whyS k le rn day := fun i hi h => by rw [HLe.out]; exact ⟨acc_due hac.2.1.1 hi h, acc_one hac.2.1.1 hi h⟩
      have f2 : ∀ r : Nat, (r : Int) ∈ relS k le day ↔ (r : Int) ∈ relS k l day ∧ r ≠ rn := fun r => by rw [HLe.out]; exact acc_rel
      have z0 : ∀ L : List Int, lsE 0 L = L := fun L => if_pos rfl
      rw [z0] at b1 b2 b3 b4
      have n1 : (relS k l day).length ≤ maxLen := Nat.le_trans (numsL_len _ _) (by unfold maxLen; omega)
      have n2 : (relS k le day).length ≤ maxLen := Nat.le_trans (numsL_len _ _) (by unfold maxLen; omega)
      have n3 : (dueS k le day).length ≤ maxLen := Nat.le_trans (numsL_len _ _) (by unfold maxLen; omega)
      have n4 : (whyS k le rn day).length ≤ maxLen := Nat.le_trans (whyS_len _ _ _ _) (by unfold maxLen; omega)
      generalize relS k l day = L1 at b1 f2 n1
      generalize relS k le day = L2 at b2 f2 n2
      generalize dueS k le day = L3 at b3 f1 n3
      generalize whyS k le rn day = L4 at b4 f1 f3 n4
      have B1 := Lib.hid b1
      have B2 := Lib.hid b2
      have B3 := Lib.hid b3
      have B4 := Lib.hid b4
      have F1 := Lib.hid f1
      have F2 := Lib.hid f2
      have F3 := Lib.hid f3
      have N1 := Lib.hid n1
      have N2 := Lib.hid n2
      have N3 := Lib.hid n3
      have N4 := Lib.hid n4
      clear hok hac E1 E2 E3 U1 U2 b1 b2 b3 b4 f1 f2 f3 z0 n1 n2 n3 n4 hcr HRe HDu HWy HCk
      subst h0
      go_upto_region 8 with (go_at_call 25; refine (B1.out X1 HBX1.out ((HRl1.out X1 (Below.refl _ _)).more HBX1.out.size)).mono ?_; rintro e X2 ⟨hX2, Aa, ca, rfl, hra⟩)
      have HBX2 := Lib.hid (HBX1.out.trans (hX2.mono HBX1.out.size))
      have sX2 := HGX1.out.below hX2 HGX1.out.lt
      have vX2 := HFX1.out.below hX2 HFX1.out.lt
      have gX20 : X2.cell? ⟨zb, 0, none⟩ = some (.slice R.A1 k.rules.length R.c1) := sX2.cell (j := 0) (by simp)
      have gX21 : X2.cell? ⟨zb, 1, none⟩ = some (.slice R.A2 k.ranks.length R.c2) := sX2.cell (j := 1) (by simp)
      have gX22 : X2.cell? ⟨zb, 2, none⟩ = some (.slice R.A3 k.insured.length R.c3) := sX2.cell (j := 2) (by simp)
      have fX20 : X2.cell? ⟨zq, 0, none⟩ = some (.int .i64 ride) := vX2.cell (j := 0) (by simp)
      have fX21 : X2.cell? ⟨zq, 1, none⟩ = some (.int .i64 day) := vX2.cell (j := 1) (by simp)
      have lX2 := sX2.lt
      have mX2 := vX2.lt
      have HGX2 := Lib.hid sX2
      have HFX2 := Lib.hid vX2
      have HRa := Lib.hid hra
      clear hra
      have HR10_X2 := Lib.hid ((HR10.out.below hX2).more hX2.size)
      clear HR10
      have HR10 := HR10_X2
      clear HR10_X2
      clear hX2 sX2 vX2 gX10 gX11 gX12 fX10 fX11 lX1 mX1
      go_upto_region 9 with (go_at_call 25; refine (B2.out X2 HBX2.out HR10.out).mono ?_; rintro e X3 ⟨hX3, Ab, cb, rfl, hrb⟩)
      have HBX3 := Lib.hid (HBX2.out.trans (hX3.mono HBX2.out.size))
      have sX3 := HGX2.out.below hX3 HGX2.out.lt
      have vX3 := HFX2.out.below hX3 HFX2.out.lt
      have gX30 : X3.cell? ⟨zb, 0, none⟩ = some (.slice R.A1 k.rules.length R.c1) := sX3.cell (j := 0) (by simp)
      have gX31 : X3.cell? ⟨zb, 1, none⟩ = some (.slice R.A2 k.ranks.length R.c2) := sX3.cell (j := 1) (by simp)
      have gX32 : X3.cell? ⟨zb, 2, none⟩ = some (.slice R.A3 k.insured.length R.c3) := sX3.cell (j := 2) (by simp)
      have fX30 : X3.cell? ⟨zq, 0, none⟩ = some (.int .i64 ride) := vX3.cell (j := 0) (by simp)
      have fX31 : X3.cell? ⟨zq, 1, none⟩ = some (.int .i64 day) := vX3.cell (j := 1) (by simp)
      have lX3 := sX3.lt
      have mX3 := vX3.lt
      have HGX3 := Lib.hid sX3
      have HFX3 := Lib.hid vX3
      have HRb := Lib.hid hrb
      clear hrb
      have HR10_X3 := Lib.hid ((HR10.out.below hX3).more hX3.size)
      clear HR10
      have HR10 := HR10_X3
      clear HR10_X3
      have HRa_X3 := Lib.hid ((HRa.out.below hX3).more hX3.size)
      clear HRa
      have HRa := HRa_X3
      clear HRa_X3
      clear hX3 sX3 vX3 gX20 gX21 gX22 fX20 fX21 lX2 mX2
      go_upto_region 10 with (go_at_call 20; refine (B3.out X3 HBX3.out HR10.out).mono ?_; rintro e X4 ⟨hX4, Ad, cd, rfl, hrd⟩)
      have HBX4 := Lib.hid (HBX3.out.trans (hX4.mono HBX3.out.size))
      have sX4 := HGX3.out.below hX4 HGX3.out.lt
      have vX4 := HFX3.out.below hX4 HFX3.out.lt
      have gX40 : X4.cell? ⟨zb, 0, none⟩ = some (.slice R.A1 k.rules.length R.c1) := sX4.cell (j := 0) (by simp)
      have gX41 : X4.cell? ⟨zb, 1, none⟩ = some (.slice R.A2 k.ranks.length R.c2) := sX4.cell (j := 1) (by simp)
      have gX42 : X4.cell? ⟨zb, 2, none⟩ = some (.slice R.A3 k.insured.length R.c3) := sX4.cell (j := 2) (by simp)
      have fX40 : X4.cell? ⟨zq, 0, none⟩ = some (.int .i64 ride) := vX4.cell (j := 0) (by simp)
      have fX41 : X4.cell? ⟨zq, 1, none⟩ = some (.int .i64 day) := vX4.cell (j := 1) (by simp)
      have lX4 := sX4.lt
      have mX4 := vX4.lt
      have HGX4 := Lib.hid sX4
      have HFX4 := Lib.hid vX4
      have HRd := Lib.hid hrd
      clear hrd
      have HR10_X4 := Lib.hid ((HR10.out.below hX4).more hX4.size)
      clear HR10
      have HR10 := HR10_X4
      clear HR10_X4
      have HRa_X4 := Lib.hid ((HRa.out.below hX4).more hX4.size)
      clear HRa
      have HRa := HRa_X4
      clear HRa_X4
      have HRb_X4 := Lib.hid ((HRb.out.below hX4).more hX4.size)
      clear HRb
      have HRb := HRb_X4
      clear HRb_X4
      clear hX4 sX4 vX4 gX30 gX31 gX32 fX30 fX31 lX3 mX3
      go_upto_region 11 with (go_at_call 27; refine (B4.out X4 HBX4.out HR10.out).mono ?_; rintro e X5 ⟨hX5, Ag, cg, rfl, hrg⟩)
      have HBX5 := Lib.hid (HBX4.out.trans (hX5.mono HBX4.out.size))
      have sX5 := HGX4.out.below hX5 HGX4.out.lt
      have vX5 := HFX4.out.below hX5 HFX4.out.lt
      have gX50 : X5.cell? ⟨zb, 0, none⟩ = some (.slice R.A1 k.rules.length R.c1) := sX5.cell (j := 0) (by simp)
      have gX51 : X5.cell? ⟨zb, 1, none⟩ = some (.slice R.A2 k.ranks.length R.c2) := sX5.cell (j := 1) (by simp)
      have gX52 : X5.cell? ⟨zb, 2, none⟩ = some (.slice R.A3 k.insured.length R.c3) := sX5.cell (j := 2) (by simp)
      have fX50 : X5.cell? ⟨zq, 0, none⟩ = some (.int .i64 ride) := vX5.cell (j := 0) (by simp)
      have fX51 : X5.cell? ⟨zq, 1, none⟩ = some (.int .i64 day) := vX5.cell (j := 1) (by simp)
      have lX5 := sX5.lt
      have mX5 := vX5.lt
      have HGX5 := Lib.hid sX5
      have HFX5 := Lib.hid vX5
      have HRg := Lib.hid hrg
      clear hrg
      have HRa_X5 := Lib.hid ((HRa.out.below hX5).more hX5.size)
      clear HRa
      have HRa := HRa_X5
      clear HRa_X5
      have HRb_X5 := Lib.hid ((HRb.out.below hX5).more hX5.size)
      clear HRb
      have HRb := HRb_X5
      clear HRb_X5
      have HRd_X5 := Lib.hid ((HRd.out.below hX5).more hX5.size)
      clear HRd
      have HRd := HRd_X5
      clear HRd_X5
      clear hX5 sX5 vX5 gX40 gX41 gX42 fX40 fX41 lX4 mX4
      clear HR10 HRl1
      have HH : Hid (∀ (zs : List Int) (A : Option Addr) (c : Nat) (x : Int), zs.length ≤ maxLen → Reads X5 X5.heap.size 1 A zs.length (zs.map (Value.int .i64)) → ∀ X, Below X5.heap.size X5 X → Calls Try.prog 41 #[.slice A zs.length c, .int .i64 x] X fun e w' => e = .returned (.bool (decide (x ∈ zs))) ∧ w' = X) := fun zs A c x hz hr X hX => has_any zs A c x X hz ((hr.below hX).more hX.size)
      have h3 := HH.out L4 Ag cg 3 N4.out HRg.out X5 (Below.refl _ _)
      rw [decide_eq_true F3.out] at h3
      have H3 := Lib.hid h3
      clear h3
      go_upto_region 13 with (go_at_call 41; with_reducible refine H3.out.mono ?_; rintro e w' ⟨rfl, hw⟩; rw [hw]; clear hw)
      go_upto_region 14 with fail
      clear H3 gX50 gX51 gX52 fX50 fX51 lX5 mX5
      go_loopw [18] (fun q wr => ∃ n : Nat, n ≤ k.rules.length ∧ q = .int .i64 n ∧ Below X5.heap.size X5 wr) (fun q _ => k.rules.length - (intOf q).toNat)
      case atStart => exact ⟨0, Nat.zero_le _, rfl, Below.refl _ _⟩
      case round =>
        obtain ⟨n, hn, rfl, hbel⟩ := hrel
        have HBL := Lib.hid hbel
        have HBr := Lib.hid (HBX5.out.trans (hbel.mono HBX5.out.size))
        have sG := HGX5.out.below hbel HGX5.out.lt
        have vG := HFX5.out.below hbel HFX5.out.lt
        have g0 : wr.cell? ⟨zb, 0, none⟩ = some (.slice R.A1 k.rules.length R.c1) := sG.cell (j := 0) (by simp)
        have g1 : wr.cell? ⟨zb, 1, none⟩ = some (.slice R.A2 k.ranks.length R.c2) := sG.cell (j := 1) (by simp)
        have g2 : wr.cell? ⟨zb, 2, none⟩ = some (.slice R.A3 k.insured.length R.c3) := sG.cell (j := 2) (by simp)
        have f0 : wr.cell? ⟨zq, 0, none⟩ = some (.int .i64 ride) := vG.cell (j := 0) (by simp)
        have f1 : wr.cell? ⟨zq, 1, none⟩ = some (.int .i64 day) := vG.cell (j := 1) (by simp)
        have lG := sG.lt
        have mG := vG.lt
        clear sG vG
        clear hbel
        by_cases hlt : n < k.rules.length
        · have n1 : (n : Int) < (k.rules.length : Int) := by omega
          have n0 : ¬ (n : Int) < 0 := by omega
          have en : IntKind.i64.wrap ((n : Int) + 1) = (n : Int) + 1 := IntWalk.i64_in _ (by omega)
          obtain ⟨br, or, hR, lr, y0⟩ := HRr.out n hlt wr HBr.out
          have HF := Lib.hid (F1.out n hlt)
          rw [rules_at hlt] at HF
          generalize k.rules[n] = u at y0 HF
          rw [hR] at g0
          clear hR
          by_cases hu : u.ride = ride
          · have hf := HF.out (hu.trans HRn.out)
            have c2 : decide (u.ride = ride) = true := decide_eq_true hu
            have c3 : (u.ride == ride) = true := by simpa using hu
            have HD1 : Hid (∀ X, Below X5.heap.size X5 X → Calls Try.prog 41 #[.slice Ad L3.length cd, .int .i64 (n : Int)] X fun e w' => e = .returned (.bool true) ∧ w' = X) := fun X hX => by have h := HH.out L3 Ad cd (n : Int) N3.out HRd.out X hX; rw [decide_eq_true hf.1] at h; exact h
            have HD2 : Hid (∀ X, Below X5.heap.size X5 X → Calls Try.prog 41 #[.slice Ag L4.length cg, .int .i64 1] X fun e w' => e = .returned (.bool true) ∧ w' = X) := fun X hX => by have h := HH.out L4 Ag cg 1 N4.out HRg.out X hX; rw [decide_eq_true hf.2] at h; exact h
            clear hu hf HF
            go_upto_region 16 with fail
            go_quiet (first | (go_at_call 41; with_reducible refine Calls.quiet_of_same (HD1.out _ (below_drewN HBL.out _))) | (go_at_call 41; with_reducible refine Calls.quiet_of_same (HD2.out _ (below_drewN HBL.out _))))
            go_wp2_with fail
            go_roundw
            case rel => exact ⟨n + 1, by omega, by go_num, below_drewN HBL.out _⟩
            case measure => simp [intOf]; omega
          · have c2 : decide (u.ride = ride) = false := decide_eq_false hu
            have c3 : (u.ride == ride) = false := by simpa using hu
            clear hu HF
            go_upto_region 16 with fail
            go_quiet (fail)
            go_wp2_with fail
            go_roundw
            case rel => exact ⟨n + 1, by omega, by go_num, below_drewN HBL.out _⟩
            case measure => simp [intOf]; omega
        · have n1 : ¬ (n : Int) < (k.rules.length : Int) := by omega
          clear hlt hn HRr F1
          go_upto_region 19 with fail
          clear n1 g0 g1 g2 f0 f1 lG mG
          go_loopw [19] (fun q wz => ∃ n : Nat, n ≤ k.insured.length ∧ q = .int .i64 n ∧ Below X5.heap.size X5 wz) (fun q _ => k.insured.length - (intOf q).toNat)
          case atStart => exact ⟨0, Nat.zero_le _, rfl, HBL.out⟩
          case round =>
            clear HBL HBr
            obtain ⟨n, hn, rfl, hbel⟩ := hrel
            have HBL := Lib.hid hbel
            have HBr := Lib.hid (HBX5.out.trans (hbel.mono HBX5.out.size))
            have sG := HGX5.out.below hbel HGX5.out.lt
            have vG := HFX5.out.below hbel HFX5.out.lt
            have g0 : wr.cell? ⟨zb, 0, none⟩ = some (.slice R.A1 k.rules.length R.c1) := sG.cell (j := 0) (by simp)
            have g1 : wr.cell? ⟨zb, 1, none⟩ = some (.slice R.A2 k.ranks.length R.c2) := sG.cell (j := 1) (by simp)
            have g2 : wr.cell? ⟨zb, 2, none⟩ = some (.slice R.A3 k.insured.length R.c3) := sG.cell (j := 2) (by simp)
            have f0 : wr.cell? ⟨zq, 0, none⟩ = some (.int .i64 ride) := vG.cell (j := 0) (by simp)
            have f1 : wr.cell? ⟨zq, 1, none⟩ = some (.int .i64 day) := vG.cell (j := 1) (by simp)
            have lG := sG.lt
            have mG := vG.lt
            clear sG vG
            clear hbel
            by_cases hlt : n < k.insured.length
            · have n1 : (n : Int) < (k.insured.length : Int) := by omega
              have en : IntKind.i64.wrap ((n : Int) + 1) = (n : Int) + 1 := IntWalk.i64_in _ (by omega)
              have hf := F2.out n
              by_cases m1 : (n : Int) ∈ L1
              · by_cases hne : n = rn
                · have he : ride = (n : Int) := by rw [hne]; exact HRn.out
                  have HA1 : Hid (∀ X, Below X5.heap.size X5 X → Calls Try.prog 41 #[.slice Aa L1.length ca, .int .i64 (n : Int)] X fun e w' => e = .returned (.bool true) ∧ w' = X) := fun X hX => by have h := HH.out L1 Aa ca (n : Int) N1.out HRa.out X hX; rw [decide_eq_true m1] at h; exact h
                  have HA2 : Hid (∀ X, Below X5.heap.size X5 X → Calls Try.prog 41 #[.slice Ab L2.length cb, .int .i64 (n : Int)] X fun e w' => e = .returned (.bool false) ∧ w' = X) := fun X hX => by have h := HH.out L2 Ab cb (n : Int) N2.out HRb.out X hX; rw [decide_eq_false (fun h => (hf.1 h).2 hne)] at h; exact h
                  rw [he] at f0
                  clear he hne
                  have HC1 := Lib.hid (HA1.out wr HBL.out)
                  have HC2 := Lib.hid (HA2.out wr HBL.out)
                  clear HA1 HA2 hf m1
                  go_wp2_with (first | (go_at_call 41; with_reducible refine HC1.out.mono ?_; rintro e w' ⟨rfl, hw⟩; rw [hw]; clear hw) | (go_at_call 41; with_reducible refine HC2.out.mono ?_; rintro e w' ⟨rfl, hw⟩; rw [hw]; clear hw))
                  go_roundw
                  case rel => exact ⟨n + 1, by omega, by go_num, HBL.out⟩
                  case measure => simp [intOf]; omega
                · have he : ¬ (n : Int) = ride := by have := HRn.out; omega
                  have HA1 : Hid (∀ X, Below X5.heap.size X5 X → Calls Try.prog 41 #[.slice Aa L1.length ca, .int .i64 (n : Int)] X fun e w' => e = .returned (.bool true) ∧ w' = X) := fun X hX => by have h := HH.out L1 Aa ca (n : Int) N1.out HRa.out X hX; rw [decide_eq_true m1] at h; exact h
                  have HA2 : Hid (∀ X, Below X5.heap.size X5 X → Calls Try.prog 41 #[.slice Ab L2.length cb, .int .i64 (n : Int)] X fun e w' => e = .returned (.bool true) ∧ w' = X) := fun X hX => by have h := HH.out L2 Ab cb (n : Int) N2.out HRb.out X hX; rw [decide_eq_true (hf.2 ⟨m1, hne⟩)] at h; exact h
                  have d1 : decide ((n : Int) = ride) = false := decide_eq_false he
                  have d2 : ((n : Int) == ride) = false := by simpa using he
                  have d3 : ((n : Int) != ride) = true := by simpa using he
                  clear he hne
                  have HC1 := Lib.hid (HA1.out wr HBL.out)
                  have HC2 := Lib.hid (HA2.out wr HBL.out)
                  clear HA1 HA2 hf m1
                  go_wp2_with (first | (go_at_call 41; with_reducible refine HC1.out.mono ?_; rintro e w' ⟨rfl, hw⟩; rw [hw]; clear hw) | (go_at_call 41; with_reducible refine HC2.out.mono ?_; rintro e w' ⟨rfl, hw⟩; rw [hw]; clear hw))
                  go_roundw
                  case rel => exact ⟨n + 1, by omega, by go_num, HBL.out⟩
                  case measure => simp [intOf]; omega
              · have hx : True := trivial
                have HA1 : Hid (∀ X, Below X5.heap.size X5 X → Calls Try.prog 41 #[.slice Aa L1.length ca, .int .i64 (n : Int)] X fun e w' => e = .returned (.bool false) ∧ w' = X) := fun X hX => by have h := HH.out L1 Aa ca (n : Int) N1.out HRa.out X hX; rw [decide_eq_false m1] at h; exact h
                have HA2 : Hid (∀ X, Below X5.heap.size X5 X → Calls Try.prog 41 #[.slice Ab L2.length cb, .int .i64 (n : Int)] X fun e w' => e = .returned (.bool false) ∧ w' = X) := fun X hX => by have h := HH.out L2 Ab cb (n : Int) N2.out HRb.out X hX; rw [decide_eq_false (fun h => m1 (hf.1 h).1)] at h; exact h
                clear hx
                have HC1 := Lib.hid (HA1.out wr HBL.out)
                have HC2 := Lib.hid (HA2.out wr HBL.out)
                clear HA1 HA2 hf m1
                go_wp2_with (first | (go_at_call 41; with_reducible refine HC1.out.mono ?_; rintro e w' ⟨rfl, hw⟩; rw [hw]; clear hw) | (go_at_call 41; with_reducible refine HC2.out.mono ?_; rintro e w' ⟨rfl, hw⟩; rw [hw]; clear hw))
                go_roundw
                case rel => exact ⟨n + 1, by omega, by go_num, HBL.out⟩
                case measure => simp [intOf]; omega
            · have n1 : ¬ (n : Int) < (k.insured.length : Int) := by omega
              clear hlt hn
              go_wp2_with (go_at_call 17; refine (HW.out _ HBr.out).mono ?_; rintro e w' ⟨rfl, hb⟩; have BW := Lib.hid hb; clear hb)
              go_ret
              exact ⟨ret_boolI (by simp), BW.out⟩
    · have d1 : decide (cr2 = 0) = false := decide_eq_false h0
      have d2 : (cr2 == 0) = false := by simpa using h0
      go_wp2_with (go_at_call 17; refine (HW.out _ HBX1.out).mono ?_; rintro e w' ⟨rfl, hb⟩; have BW := Lib.hid hb; clear hb)
      go_ret
      exact ⟨ret_boolI (by simp), BW.out⟩
end Go.Proofs.Ytaocgkmobfocjaa
