/- Contracts of inspect's Due, Open, Released, Why and Until. Conditions: a book and entries that read as data. -/
import Derived.Test.YtaocgkmobfocjaaInt
namespace Go.Proofs.Ytaocgkmobfocjaa
open Go.RowKit

set_option maxHeartbeats 1000000 in
set_option maxRecDepth 100000 in
theorem numbersM_any (n : Nat) (fid : FuncId) (bv : Value) (p : Nat → Bool) (w : World) (hn : n ≤ 100000)
    (hfid : ∀ a w, Sem.run Try.prog (callFunc fid a) w = Result.ok (Next.enter fid a) w)
    (hsee : ∀ k, k < n → ∀ X, Below w.heap.size w X → Calls Try.prog fid #[bv, .int .i64 k] X fun e w' => e = .returned (.bool (p k)) ∧ Below X.heap.size X w') :
    Calls Try.prog 48 #[.int .i64 n, .func (.func fid) #[bv] #[]] w (NumsTo w (numsL p n)) := by
  obtain ⟨i0, hi, hz0, hz1, hz2⟩ := info_parts Try.info_intI
  have Hs := Lib.hid hsee
  clear hsee
  go_enter Try.func48, Try.ntmps48
  go_wp2_with fail
  go_loopw [5, 8] (fun v i wr => NumRelI w p n v i wr) (fun _ i _ => n - (intOf i).toNat)
  case atStart => exact ⟨0, Nat.zero_le _, rfl, owns_nil _ _ _ _, Below.refl _ _⟩
  case round =>
    obtain ⟨k, hk, rfl, hown, hbel⟩ := hrel
    by_cases hlt : k < n
    · have hlt' : (k : Int) < (n : Int) := by omega
      have ew : IntKind.i64.wrap ((k : Int) + 1) = (k : Int) + 1 := IntWalk.i64_in _ (by omega)
      go_wp2_with fail
      refine (Hs.out k hlt _ hbel).mono ?_
      rintro e x ⟨rfl, hx⟩
      have hl := numsL_len p k
      have hownx := own_below hown hx
      have hbelx := hbel.trans (hx.mono hbel.size)
      have hs := hbelx.size
      clear hown hbel hx
      cases hp : p k with
      | false =>
        have En := Lib.hid (numsL_no hp)
        go_wp2_with fail
        go_roundw
        case rel => exact ⟨k + 1, by omega, by go_num, by rw [En.out]; exact hownx, hbelx⟩
        case measure => simp [intOf]; omega
      | true =>
        have En := Lib.hid (numsL_yes hp)
        clear hp
        have m1 : (numsL p k).length + 1 ≤ maxLen := by unfold maxLen; omega
        have m2 : ((numsL p k).length + 1) * 8 ≤ 140737488355328 := by omega
        go_wp2_with (at_builtin; refine wpList_app _ rfl _ _ 23 rfl w.heap.size 3 i0 (.int .i64 0) 1 8 Try.underlying23 hi hz0 hz1 hz2 rfl (by decide) u5 (numsL p k).length ((numsL p k).map (Value.int .i64)) rfl ?qo (x.heap.size + 1) (some ⟨x.heap.size, 0, none⟩) 1 1 ([(k : Int)].map (Value.int .i64)) rfl ?qr ?q1 m1 m2 ?qb ?_)
        case qo => first | exact owns_alloc hownx _ | exact owns_alloc (owns_drewN hownx _) _ | exact owns_drewN (owns_alloc hownx _) _
        case qr =>
          refine Row.reads (t := 3) ?_ rfl (by omega)
          show Row _ _ _ [.int .i64 k]
          first | exact row_oneI _ _ _ _ (by simp; done) | exact (row_oneI _ _ _ _ (by simp; done)).drewN _
        case q1 => intro u hu; simp at hu; subst hu; rfl
        case qb => simp; omega
        intro v' w1 hown' hbel'
        go_wp2_with fail
        go_roundw
        case rel => exact ⟨k + 1, by omega, by go_num, by rw [En.out]; simpa using hown', Below.trans (by repeat (first | (with_reducible exact hbelx) | (with_reducible exact hs) | (with_reducible refine below_drewN ?_ _) | (with_reducible refine Below.alloc ?_ ?_ _) | (simp; omega))) hbel'⟩
        case measure => simp [intOf]; omega
    · have hge : ¬ (k : Int) < (n : Int) := by omega
      have ek : k = n := by omega
      have Hk := Lib.hid ek
      clear ek
      go_wp2_with fail
      go_ret
      obtain ⟨A, c, hv, hr⟩ := own_readsI hown
      rw [Hk.out] at hv hr
      exact ⟨hbel, A, c, by rw [hv]; rfl, hr⟩
/-- A list, unless there is an error. -/
def lsE (E : Int) (L : List Int) : List Int := if E = 0 then L else []
/-- A slice of numbers that the call has laid, and an error. -/
def LsTo (w : World) (E : Int) (L : List Int) (e : Ending) (w' : World) : Prop :=
  Below w.heap.size w w' ∧ ∃ A c, e = .returned (.tuple #[.slice A L.length c, .int .i64 E]) ∧ Reads w' w'.heap.size 1 A L.length (L.map (Value.int .i64))
theorem LsTo.bad {w w' : World} {E : Int} {L : List Int} (h : E ≠ 0) (hb : Below w.heap.size w w') : LsTo w E (lsE E L) (.returned (.tuple #[.slice none 0 0, .int .i64 E])) w' := by
  unfold lsE
  rw [if_neg h]
  exact ⟨hb, none, 0, rfl, ⟨by simp, fun h => absurd h (by simp)⟩⟩
theorem LsTo.ok {w w' : World} {E : Int} {L : List Int} {A : Option Addr} {c : Nat} (h : E = 0) (hb : Below w.heap.size w w') (hr : Reads w' w'.heap.size 1 A L.length (L.map (Value.int .i64))) : LsTo w E (lsE E L) (.returned (.tuple #[.slice A L.length c, .int .i64 0])) w' := by
  unfold lsE
  rw [if_pos h, h]
  exact ⟨hb, A, c, rfl, hr⟩
def dueP (k : BookZ) (l : List EntZ) (day : Int) (i : Nat) : Bool := decide (infS l i (k.rules.getD i default) < day)
def dueS (k : BookZ) (l : List EntZ) (day : Int) : List Int := numsL (dueP k l day) k.rules.length
def openL (l : List EntZ) : List Int := numsL (fun i => openS l (i : Int)) l.length
def relP (k : BookZ) (l : List EntZ) (day : Int) (r : Nat) : Bool := decide ((whyS k l r day).length = 0)
def relS (k : BookZ) (l : List EntZ) (day : Int) : List Int := numsL (relP k l day) k.insured.length
theorem upL_len {l : List EntZ} {day : Int} : (upL l day).length ≤ l.length := by unfold upL; rw [List.length_take]; omega
theorem onE_ok {k : BookZ} {l : List EntZ} {day : Int} (h : onE k l day = 0) : LogOk k l ∧ 0 ≤ day ∧ day ≤ 10000 := by
  unfold onE at h
  by_cases h0 : (chkR k l).2 = 0
  · rw [if_pos h0] at h
    by_cases hd : inB day 0 10000 = true
    · exact ⟨chkR_ok.1 h0, inBI.1 hd⟩
    · rw [if_neg hd] at h; exact absurd h (by decide)
  · rw [if_neg h0] at h; exact absurd h h0
theorem rideE_ok {k : BookZ} {l : List EntZ} {ride day : Int} (h : rideE k l ride day = 0) : LogOk k l ∧ (0 ≤ day ∧ day ≤ 10000) ∧ 0 ≤ ride ∧ ride ≤ (k.insured.length : Int) - 1 := by
  unfold rideE at h
  by_cases h0 : onE k l day = 0
  · rw [if_pos h0] at h
    by_cases hd : inB ride 0 ((k.insured.length : Int) - 1) = true
    · exact ⟨(onE_ok h0).1, (onE_ok h0).2, inBI.1 hd⟩
    · rw [if_neg hd] at h; exact absurd h (by decide)
  · rw [if_neg h0] at h; exact absurd h h0
structure DueI (U : World) (k : BookZ) (R : BkR) (l : List EntZ) (A : Option Addr) (c i : Nat) (day f : Int) (done : Nat → Bool) (xs : Nat → Value) (y : World) : Prop where
  bl : Below U.heap.size U y
  v0 : done 0 = true → xs 0 = .agg #[.slice R.A1 k.rules.length R.c1, .slice R.A2 k.ranks.length R.c2, .slice R.A3 k.insured.length R.c3, .slice A l.length c]
  v1 : done 1 = true → xs 1 = .int .i64 (i : Int)
  v2 : done 2 = true → xs 2 = .int .i64 f
  v3 : done 3 = true → xs 3 = .int .i64 day
  v4 : done 4 = true → xs 4 = .bool (decide (f < day))
  v5 : done 5 = true → xs 5 = .bool (decide (f < day))
set_option maxRecDepth 100000 in
set_option maxHeartbeats 1000000 in
theorem dueOne_any (k : BookZ) (R : BkR) (l : List EntZ) (A : Option Addr) (c B : Nat) (day : Int) (zg zd i : Nat) (hi : i < k.rules.length) (w : World) (hB : B ≤ w.heap.size) (hl : l.length ≤ maxLen) (hr : Reads w B 5 A l.length (entCells l)) (hk : BkIn w B k R)
    (hg : Row w zg 66 [.slice R.A1 k.rules.length R.c1, .slice R.A2 k.ranks.length R.c2, .slice R.A3 k.insured.length R.c3, .slice A l.length c]) (hd : Row w zd 3 [.int .i64 day]) :
    Calls Try.prog 49 #[.int .i64 (i : Int), .pointer (some ⟨zg, 0, none⟩), .pointer (some ⟨zd, 0, none⟩)] w fun e w' => e = .returned (.bool (dueP k l day i)) ∧ Below w.heap.size w w' := by
  have HG := Lib.hid hg
  have HD := Lib.hid hd
  have HIn : Hid (∀ X, Below w.heap.size w X → Calls Try.prog 50 #[logV k R l A c, .int .i64 (i : Int)] X fun e w' => e = .returned (.int .i64 (infS l i k.rules[i])) ∧ Below X.heap.size X w') := fun X hX => inForce_any k R l A c B i X (Nat.le_trans hB hX.size) hl (hr.below (hX.mono hB)) (hk.below (hX.mono hB)) hi
  have HV : Hid (dueP k l day i = decide (infS l i (k.rules.getD i default) < day)) := rfl
  rw [rules_at hi] at HV
  generalize infS l i k.rules[i] = f at HIn HV
  generalize dueP k l day i = v at HV ⊢
  unfold logV at *
  clear hr hk hg hd hB
  go_enter Try.func49, Try.ntmps49
  go_upto_region 1 with fail
  refine wp_region_stepsY 6 (ord := [0, 1, 2, 3, 4, 5]) (ds := [(0, 5), (1, 6), (2, 7), (3, 8), (4, 9), (5, 4)]) (I := DueI w k R l A c i day f) (by kernel_rfl) (by kernel_rfl) rfl ?iz (StepsY.cons (k := 0) (k' := 1) (o := ⟨some 5, _, _, _, _, _⟩) rfl rfl ?sz0 (StepsY.cons (k := 1) (k' := 2) (o := ⟨some 6, _, _, _, _, _⟩) rfl rfl ?sz1 (StepsY.cons (k := 2) (k' := 3) (o := ⟨some 7, _, _, _, _, _⟩) rfl rfl ?sz2 (StepsY.cons (k := 3) (k' := 4) (o := ⟨some 8, _, _, _, _, _⟩) rfl rfl ?sz3 (StepsY.cons (k := 4) (k' := 5) (o := ⟨some 9, _, _, _, _, _⟩) rfl rfl ?sz4 (StepsY.cons (k := 5) (k' := 6) (o := ⟨some 4, _, _, _, _, _⟩) rfl rfl ?sz5 StepsY.nil)))))) ?finz
  case iz => exact fun xs => ⟨(Below.refl _ _).drew, fun h => Bool.noConfusion h, fun h => Bool.noConfusion h, fun h => Bool.noConfusion h, fun h => Bool.noConfusion h, fun h => Bool.noConfusion h, fun h => Bool.noConfusion h⟩
  case sz0 =>
    intro xs done y hI hd0 hup hdn K hK
    refine wpOp_go (o := ⟨some 5, _, _, _, _, _⟩) rfl rfl ?_
    simp only [putsF, List.foldl_cons, List.foldl_nil, Act.put, List.setIfInBounds_toArray, List.set_cons_zero, List.set_cons_succ] at hK ⊢
    have rG := HG.out.below hI.bl HG.out.lt
    have lG := rG.lt
    have g0 : y.cell? ⟨zg, 0, none⟩ = some (.slice R.A1 k.rules.length R.c1) := rG.cell (j := 0) (by simp)
    have g1 : y.cell? ⟨zg, 1, none⟩ = some (.slice R.A2 k.ranks.length R.c2) := rG.cell (j := 1) (by simp)
    have g2 : y.cell? ⟨zg, 2, none⟩ = some (.slice R.A3 k.insured.length R.c3) := rG.cell (j := 2) (by simp)
    have g3 : y.cell? ⟨zg, 3, none⟩ = some (.slice A l.length c) := rG.cell (j := 3) (by simp)
    go_wp2_with fail
    exact hK.out _ _ ⟨hI.bl, fun _ => rfl, hI.v1, hI.v2, hI.v3, hI.v4, hI.v5⟩
  case sz1 =>
    intro xs done y hI hd0 hup hdn K hK
    refine wpOp_go (o := ⟨some 6, _, _, _, _, _⟩) rfl rfl ?_
    simp only [putsF, List.foldl_cons, List.foldl_nil, Act.put, List.setIfInBounds_toArray, List.set_cons_zero, List.set_cons_succ] at hK ⊢
    go_wp2_with fail
    exact hK.out _ _ ⟨hI.bl, hI.v0, fun _ => rfl, hI.v2, hI.v3, hI.v4, hI.v5⟩
  case sz2 =>
    intro xs done y hI hd0 hup hdn K hK
    refine wpOp_go (o := ⟨some 7, _, _, _, _, _⟩) rfl rfl ?_
    have e0 := hI.v0 (hdn 0 (by kernel_rfl))
    have e1 := hI.v1 (hdn 1 (by kernel_rfl))
    simp only [putsF, List.foldl_cons, List.foldl_nil, Act.put, List.setIfInBounds_toArray, List.set_cons_zero, List.set_cons_succ] at hK ⊢
    simp only [e0, e1] at hK ⊢
    have hq := HIn.out y hI.bl
    go_wp2_with (go_at_call 50; refine hq.mono ?_; rintro e z ⟨rfl, hb4⟩)
    exact hK.out _ _ ⟨(hI.bl.trans (hb4.mono hI.bl.size)), hI.v0, hI.v1, fun _ => rfl, hI.v3, hI.v4, hI.v5⟩
  case sz3 =>
    intro xs done y hI hd0 hup hdn K hK
    refine wpOp_go (o := ⟨some 8, _, _, _, _, _⟩) rfl rfl ?_
    simp only [putsF, List.foldl_cons, List.foldl_nil, Act.put, List.setIfInBounds_toArray, List.set_cons_zero, List.set_cons_succ] at hK ⊢
    have rD := HD.out.below hI.bl HD.out.lt
    have lD := rD.lt
    have d0 : y.cell? ⟨zd, 0, none⟩ = some (.int .i64 day) := rD.cell (j := 0) (by simp)
    go_wp2_with fail
    exact hK.out _ _ ⟨hI.bl, hI.v0, hI.v1, hI.v2, fun _ => rfl, hI.v4, hI.v5⟩
  case sz4 =>
    intro xs done y hI hd0 hup hdn K hK
    refine wpOp_go (o := ⟨some 9, _, _, _, _, _⟩) rfl rfl ?_
    have e2 := hI.v2 (hdn 2 (by kernel_rfl))
    have e3 := hI.v3 (hdn 3 (by kernel_rfl))
    simp only [putsF, List.foldl_cons, List.foldl_nil, Act.put, List.setIfInBounds_toArray, List.set_cons_zero, List.set_cons_succ] at hK ⊢
    simp only [e2, e3] at hK ⊢
    go_wp2_with fail
    exact hK.out _ _ ⟨hI.bl, hI.v0, hI.v1, hI.v2, hI.v3, fun _ => rfl, hI.v5⟩
  case sz5 =>
    intro xs done y hI hd0 hup hdn K hK
    refine wpOp_go (o := ⟨some 4, _, _, _, _, _⟩) rfl rfl ?_
    have e4 := hI.v4 (hdn 4 (by kernel_rfl))
    simp only [putsF, List.foldl_cons, List.foldl_nil, Act.put, List.setIfInBounds_toArray, List.set_cons_zero, List.set_cons_succ] at hK ⊢
    simp only [e4] at hK ⊢
    go_wp2_with fail
    exact hK.out _ _ ⟨hI.bl, hI.v0, hI.v1, hI.v2, hI.v3, hI.v4, fun _ => rfl⟩
  case finz =>
  intro xs done y hI hd
  have hby := hI.bl
  have e5 := hI.v5 (hd 5 (by decide))
  simp only [putsF, List.foldl_cons, List.foldl_nil, Act.put, List.setIfInBounds_toArray, List.set_cons_zero, List.set_cons_succ]
  simp only [e5]
  have HBY := Lib.hid hby
  clear hI hby
  go_wp2_with fail
  go_ret
  exact ⟨ret_boolI HV.out.symm, HBY.out⟩
set_option maxRecDepth 100000 in
set_option maxHeartbeats 1000000 in
theorem relOne_any (k : BookZ) (R : BkR) (l : List EntZ) (A : Option Addr) (c B : Nat) (day : Int) (zg zd i : Nat) (hi : i < k.insured.length) (w : World) (hB : B ≤ w.heap.size) (hl : l.length ≤ 100) (hr : Reads w B 5 A l.length (entCells l)) (hk : BkIn w B k R)
    (hg : Row w zg 66 [.slice R.A1 k.rules.length R.c1, .slice R.A2 k.ranks.length R.c2, .slice R.A3 k.insured.length R.c3, .slice A l.length c]) (hd : Row w zd 3 [.int .i64 day]) :
    Calls Try.prog 55 #[.int .i64 (i : Int), .pointer (some ⟨zg, 0, none⟩), .pointer (some ⟨zd, 0, none⟩)] w fun e w' => e = .returned (.bool (relP k l day i)) ∧ Below w.heap.size w w' := by
  have g0 : w.cell? ⟨zg, 0, none⟩ = some (.slice R.A1 k.rules.length R.c1) := hg.cell (j := 0) (by simp)
  have g1 : w.cell? ⟨zg, 1, none⟩ = some (.slice R.A2 k.ranks.length R.c2) := hg.cell (j := 1) (by simp)
  have g2 : w.cell? ⟨zg, 2, none⟩ = some (.slice R.A3 k.insured.length R.c3) := hg.cell (j := 2) (by simp)
  have g3 : w.cell? ⟨zg, 3, none⟩ = some (.slice A l.length c) := hg.cell (j := 3) (by simp)
  have d0 : w.cell? ⟨zd, 0, none⟩ = some (.int .i64 day) := hd.cell (j := 0) (by simp)
  have lg := hg.lt
  have ld := hd.lt
  have HWy := Lib.hid (why_any k R l A c B i day w hB hl hr hk hi)
  have HV : Hid (relP k l day i = decide ((whyS k l i day).length = 0)) := rfl
  generalize whyS k l i day = L at HWy HV
  generalize relP k l day i = v at HV ⊢
  unfold logV at *
  clear hr hk hg hd hB
  go_enter Try.func55, Try.ntmps55
  go_wp2_with (go_at_call 56; refine HWy.out.mono ?_; rintro e X ⟨hX, A2, c2, rfl, -⟩; have HX := Lib.hid hX; clear hX)
  go_ret
  exact ⟨ret_boolI (Eq.trans (by rw [Bool.eq_iff_iff]; simp) HV.out.symm), HX.out⟩
set_option maxRecDepth 100000 in
set_option maxHeartbeats 1000000 in
theorem Due_any (k : BookZ) (R : BkR) (l : List EntZ) (A : Option Addr) (c B : Nat) (day : Int) (w : World) (hB : B ≤ w.heap.size) (hl : l.length ≤ maxLen) (hlc : l.length ≤ c) (hr : Reads w B 5 A l.length (entCells l)) (hk : BkIn w B k R) :
    Calls Try.prog 20 #[bookV k R, .slice A l.length c, .int .i64 day] w (LsTo w (onE k l day) (lsE (onE k l day) (dueS k (upL l day) day))) := by
  obtain ⟨W, hW⟩ : ∃ W, W = (w.alloc (.cells #[.slice R.A1 k.rules.length R.c1, .slice R.A2 k.ranks.length R.c2, .slice R.A3 k.insured.length R.c3] 25)).alloc (.cells #[.int .i64 day] 3) := ⟨_, rfl⟩
  have bW : Below w.heap.size w W := by subst hW; exact ((Below.refl _ _).alloc (Nat.le_refl _) _).alloc (by simp) _
  have r0 : Row W w.heap.size 25 [.slice R.A1 k.rules.length R.c1, .slice R.A2 k.ranks.length R.c2, .slice R.A3 k.insured.length R.c3] := by subst hW; exact (Row.new w _ _).alloc _
  have r1 : Row W (w.heap.size + 1) 3 [.int .i64 day] := by
    subst hW
    have h := Row.new (w.alloc (.cells #[.slice R.A1 k.rules.length R.c1, .slice R.A2 k.ranks.length R.c2, .slice R.A3 k.insured.length R.c3] 25)) 3 #[.int .i64 day]
    rw [World.size_alloc] at h
    exact h
  obtain ⟨zb, hzb⟩ : ∃ z, z = w.heap.size := ⟨_, rfl⟩
  obtain ⟨zd, hzd⟩ : ∃ z, z = w.heap.size + 1 := ⟨_, rfl⟩
  rw [← hzb] at r0
  rw [← hzd] at r1
  have p0 : W.cell? ⟨zd, 0, none⟩ = some (.int .i64 day) := r1.cell (j := 0) (by simp)
  have lP := r1.lt
  have HR1 := Lib.hid r1
  have q0 : W.cell? ⟨zb, 0, none⟩ = some (.slice R.A1 k.rules.length R.c1) := r0.cell (j := 0) (by simp)
  have q1 : W.cell? ⟨zb, 1, none⟩ = some (.slice R.A2 k.ranks.length R.c2) := r0.cell (j := 1) (by simp)
  have q2 : W.cell? ⟨zb, 2, none⟩ = some (.slice R.A3 k.insured.length R.c3) := r0.cell (j := 2) (by simp)
  have lW := r0.lt
  have HBW := Lib.hid bW
  have HR0 := Lib.hid r0
  have HRd := Lib.hid (readOn_any k R l A c B day W (Nat.le_trans hB bW.size) hl hlc (hr.below (bW.mono hB)) (hk.below (bW.mono hB)))
  have hul := upL_len (l := l) (day := day)
  have HEo := Lib.hid (fun h => onE_ok (k := k) (l := l) (day := day) h)
  have HOn : Hid (∀ (zg zd i : Nat), i < k.rules.length → ∀ X, Below w.heap.size w X → Row X zg 66 [.slice R.A1 k.rules.length R.c1, .slice R.A2 k.ranks.length R.c2, .slice R.A3 k.insured.length R.c3, .slice A (upL l day).length c] → Row X zd 3 [.int .i64 day] → Calls Try.prog 49 #[.int .i64 (i : Int), .pointer (some ⟨zg, 0, none⟩), .pointer (some ⟨zd, 0, none⟩)] X fun e w' => e = .returned (.bool (dueP k (upL l day) day i)) ∧ Below X.heap.size X w') := fun zg zd i hi X hX hg hd => dueOne_any k R (upL l day) A c B day zg zd i hi X (Nat.le_trans hB hX.size) (Nat.le_trans hul hl) (ents_take (hr.below (hX.mono hB)) (upN_le l day)) (hk.below (hX.mono hB)) hg hd
  unfold LgTo at HRd
  generalize onE k l day = E at HRd HEo ⊢
  by_cases h0 : E = 0
  · have HE0 : Hid (E = 0) := h0
    rw [if_pos h0, h0] at HRd
    have hok := HEo.out h0
    unfold dueS
    unfold bookV logV at *
    clear bW r0 r1 hr hk hB h0
    go_enter Try.func20, Try.ntmps20
    go_upto_region 1 with fail
    rw [← hW, ← hzd, ← hzb]
    clear hW hzb hzd
    go_upto_region 2 with (go_at_call 47; refine HRd.out.mono ?_; rintro e X ⟨rfl, hX⟩)
    have bY := hX.alloc hX.size (.cells #[.slice R.A1 k.rules.length R.c1, .slice R.A2 k.ranks.length R.c2, .slice R.A3 k.insured.length R.c3, .slice A (upL l day).length c] 66)
    have gY := Row.new X 66 #[.slice R.A1 k.rules.length R.c1, .slice R.A2 k.ranks.length R.c2, .slice R.A3 k.insured.length R.c3, .slice A (upL l day).length c]
    generalize X.alloc (.cells #[.slice R.A1 k.rules.length R.c1, .slice R.A2 k.ranks.length R.c2, .slice R.A3 k.insured.length R.c3, .slice A (upL l day).length c] 66) = Y at bY gY ⊢
    generalize X.heap.size = zg at gY ⊢
    have HBY := Lib.hid (HBW.out.trans (bY.mono HBW.out.size))
    have sB := HR0.out.below bY HR0.out.lt
    have b0 : Y.cell? ⟨zb, 0, none⟩ = some (.slice R.A1 k.rules.length R.c1) := sB.cell (j := 0) (by simp)
    have b1 : Y.cell? ⟨zb, 1, none⟩ = some (.slice R.A2 k.ranks.length R.c2) := sB.cell (j := 1) (by simp)
    have b2 : Y.cell? ⟨zb, 2, none⟩ = some (.slice R.A3 k.insured.length R.c3) := sB.cell (j := 2) (by simp)
    have g0 : Y.cell? ⟨zg, 0, none⟩ = some (.slice R.A1 k.rules.length R.c1) := gY.cell (j := 0) (by simp)
    have g1 : Y.cell? ⟨zg, 1, none⟩ = some (.slice R.A2 k.ranks.length R.c2) := gY.cell (j := 1) (by simp)
    have g2 : Y.cell? ⟨zg, 2, none⟩ = some (.slice R.A3 k.insured.length R.c3) := gY.cell (j := 2) (by simp)
    have g3 : Y.cell? ⟨zg, 3, none⟩ = some (.slice A (upL l day).length c) := gY.cell (j := 3) (by simp)
    have lB := sB.lt
    have lG := gY.lt
    have HGY := Lib.hid gY
    have HDY := Lib.hid (HR1.out.below bY HR1.out.lt)
    have HNu := Lib.hid (numbers_any k.rules.length 49 #[.pointer (some ⟨zg, 0, none⟩), .pointer (some ⟨zd, 0, none⟩)] (dueP k (upL l day) day) Y (by have := book_lens hok.1.book; omega) (fun a X => enters_of Try.func49 (by kernel_rfl) rfl a X)
      (fun i hi X hX => HOn.out zg zd i hi X (HBY.out.trans (hX.mono HBY.out.size)) (HGY.out.below hX HGY.out.lt) (HDY.out.below hX HDY.out.lt)))
    obtain ⟨L, hL⟩ : ∃ L, L = numsL (dueP k (upL l day) day) k.rules.length := ⟨_, rfl⟩
    rw [← hL] at HNu
    have HL := Lib.hid hL
    clear hL
    clear hX bY gY sB HRd
    go_wp2_with (go_at_call 48; refine HNu.out.mono ?_; rintro e Z ⟨hZ, A2, c2, rfl, hr2⟩; have HR2 := Lib.hid hr2; clear hr2; have HZ := Lib.hid (HBY.out.trans (hZ.mono HBY.out.size)); clear hZ)
    refine bodyPost_ret (v := .tuple #[.slice A2 L.length c2, .int .i64 0]) (by simp [results, Try.results20, go_sem]) rfl ?_
    rw [← HL.out]
    exact LsTo.ok HE0.out HZ.out HR2.out
  · have HN : Hid (E ≠ 0) := h0
    rw [if_neg h0] at HRd
    unfold bookV logZ at *
    clear bW r0 r1 hr hk hB
    go_enter Try.func20, Try.ntmps20
    go_upto_region 1 with fail
    rw [← hW, ← hzd, ← hzb]
    clear hW hzb hzd
    go_wp2_with (go_at_call 47; refine HRd.out.mono ?_; rintro e X ⟨rfl, hX⟩; have HX := Lib.hid (HBW.out.trans (hX.mono HBW.out.size)); clear hX)
    refine bodyPost_ret (v := .tuple #[.slice none 0 0, .int .i64 E]) (by simp [results, Try.results20, go_sem]) rfl ?_
    exact LsTo.bad HN.out (HX.out.alloc HX.out.size _)
set_option maxRecDepth 100000 in
set_option maxHeartbeats 1000000 in
theorem Released_any (k : BookZ) (R : BkR) (l : List EntZ) (A : Option Addr) (c B : Nat) (day : Int) (w : World) (hB : B ≤ w.heap.size) (hl : l.length ≤ maxLen) (hlc : l.length ≤ c) (hr : Reads w B 5 A l.length (entCells l)) (hk : BkIn w B k R) :
    Calls Try.prog 25 #[bookV k R, .slice A l.length c, .int .i64 day] w (LsTo w (onE k l day) (lsE (onE k l day) (relS k (upL l day) day))) := by
  obtain ⟨W, hW⟩ : ∃ W, W = (w.alloc (.cells #[.slice R.A1 k.rules.length R.c1, .slice R.A2 k.ranks.length R.c2, .slice R.A3 k.insured.length R.c3] 25)).alloc (.cells #[.int .i64 day] 3) := ⟨_, rfl⟩
  have bW : Below w.heap.size w W := by subst hW; exact ((Below.refl _ _).alloc (Nat.le_refl _) _).alloc (by simp) _
  have r0 : Row W w.heap.size 25 [.slice R.A1 k.rules.length R.c1, .slice R.A2 k.ranks.length R.c2, .slice R.A3 k.insured.length R.c3] := by subst hW; exact (Row.new w _ _).alloc _
  have r1 : Row W (w.heap.size + 1) 3 [.int .i64 day] := by
    subst hW
    have h := Row.new (w.alloc (.cells #[.slice R.A1 k.rules.length R.c1, .slice R.A2 k.ranks.length R.c2, .slice R.A3 k.insured.length R.c3] 25)) 3 #[.int .i64 day]
    rw [World.size_alloc] at h
    exact h
  obtain ⟨zb, hzb⟩ : ∃ z, z = w.heap.size := ⟨_, rfl⟩
  obtain ⟨zd, hzd⟩ : ∃ z, z = w.heap.size + 1 := ⟨_, rfl⟩
  rw [← hzb] at r0
  rw [← hzd] at r1
  have p0 : W.cell? ⟨zd, 0, none⟩ = some (.int .i64 day) := r1.cell (j := 0) (by simp)
  have lP := r1.lt
  have HR1 := Lib.hid r1
  have q0 : W.cell? ⟨zb, 0, none⟩ = some (.slice R.A1 k.rules.length R.c1) := r0.cell (j := 0) (by simp)
  have q1 : W.cell? ⟨zb, 1, none⟩ = some (.slice R.A2 k.ranks.length R.c2) := r0.cell (j := 1) (by simp)
  have q2 : W.cell? ⟨zb, 2, none⟩ = some (.slice R.A3 k.insured.length R.c3) := r0.cell (j := 2) (by simp)
  have lW := r0.lt
  have HBW := Lib.hid bW
  have HR0 := Lib.hid r0
  have HRd := Lib.hid (readOn_any k R l A c B day W (Nat.le_trans hB bW.size) hl hlc (hr.below (bW.mono hB)) (hk.below (bW.mono hB)))
  have hul := upL_len (l := l) (day := day)
  have HEo := Lib.hid (fun h => onE_ok (k := k) (l := l) (day := day) h)
  have HOn : Hid (l.length ≤ 100 → ∀ (zg zd i : Nat), i < k.insured.length → ∀ X, Below w.heap.size w X → Row X zg 66 [.slice R.A1 k.rules.length R.c1, .slice R.A2 k.ranks.length R.c2, .slice R.A3 k.insured.length R.c3, .slice A (upL l day).length c] → Row X zd 3 [.int .i64 day] → Calls Try.prog 55 #[.int .i64 (i : Int), .pointer (some ⟨zg, 0, none⟩), .pointer (some ⟨zd, 0, none⟩)] X fun e w' => e = .returned (.bool (relP k (upL l day) day i)) ∧ Below X.heap.size X w') := fun h100 zg zd i hi X hX hg hd => relOne_any k R (upL l day) A c B day zg zd i hi X (Nat.le_trans hB hX.size) (Nat.le_trans hul h100) (ents_take (hr.below (hX.mono hB)) (upN_le l day)) (hk.below (hX.mono hB)) hg hd
  unfold LgTo at HRd
  generalize onE k l day = E at HRd HEo ⊢
  by_cases h0 : E = 0
  · have HE0 : Hid (E = 0) := h0
    rw [if_pos h0, h0] at HRd
    have hok := HEo.out h0
    unfold relS
    unfold bookV logV at *
    clear bW r0 r1 hr hk hB h0
    go_enter Try.func25, Try.ntmps25
    go_upto_region 1 with fail
    rw [← hW, ← hzd, ← hzb]
    clear hW hzb hzd
    go_upto_region 2 with (go_at_call 47; refine HRd.out.mono ?_; rintro e X ⟨rfl, hX⟩)
    have bY := hX.alloc hX.size (.cells #[.slice R.A1 k.rules.length R.c1, .slice R.A2 k.ranks.length R.c2, .slice R.A3 k.insured.length R.c3, .slice A (upL l day).length c] 66)
    have gY := Row.new X 66 #[.slice R.A1 k.rules.length R.c1, .slice R.A2 k.ranks.length R.c2, .slice R.A3 k.insured.length R.c3, .slice A (upL l day).length c]
    generalize X.alloc (.cells #[.slice R.A1 k.rules.length R.c1, .slice R.A2 k.ranks.length R.c2, .slice R.A3 k.insured.length R.c3, .slice A (upL l day).length c] 66) = Y at bY gY ⊢
    generalize X.heap.size = zg at gY ⊢
    have HBY := Lib.hid (HBW.out.trans (bY.mono HBW.out.size))
    have sB := HR0.out.below bY HR0.out.lt
    have b0 : Y.cell? ⟨zb, 0, none⟩ = some (.slice R.A1 k.rules.length R.c1) := sB.cell (j := 0) (by simp)
    have b1 : Y.cell? ⟨zb, 1, none⟩ = some (.slice R.A2 k.ranks.length R.c2) := sB.cell (j := 1) (by simp)
    have b2 : Y.cell? ⟨zb, 2, none⟩ = some (.slice R.A3 k.insured.length R.c3) := sB.cell (j := 2) (by simp)
    have g0 : Y.cell? ⟨zg, 0, none⟩ = some (.slice R.A1 k.rules.length R.c1) := gY.cell (j := 0) (by simp)
    have g1 : Y.cell? ⟨zg, 1, none⟩ = some (.slice R.A2 k.ranks.length R.c2) := gY.cell (j := 1) (by simp)
    have g2 : Y.cell? ⟨zg, 2, none⟩ = some (.slice R.A3 k.insured.length R.c3) := gY.cell (j := 2) (by simp)
    have g3 : Y.cell? ⟨zg, 3, none⟩ = some (.slice A (upL l day).length c) := gY.cell (j := 3) (by simp)
    have lB := sB.lt
    have lG := gY.lt
    have HGY := Lib.hid gY
    have HDY := Lib.hid (HR1.out.below bY HR1.out.lt)
    have HNu := Lib.hid (numbers_any k.insured.length 55 #[.pointer (some ⟨zg, 0, none⟩), .pointer (some ⟨zd, 0, none⟩)] (relP k (upL l day) day) Y (by have := book_lens hok.1.book; omega) (fun a X => enters_of Try.func55 (by kernel_rfl) rfl a X)
      (fun i hi X hX => HOn.out hok.1.len zg zd i hi X (HBY.out.trans (hX.mono HBY.out.size)) (HGY.out.below hX HGY.out.lt) (HDY.out.below hX HDY.out.lt)))
    obtain ⟨L, hL⟩ : ∃ L, L = numsL (relP k (upL l day) day) k.insured.length := ⟨_, rfl⟩
    rw [← hL] at HNu
    have HL := Lib.hid hL
    clear hL
    clear hX bY gY sB HRd
    go_wp2_with (go_at_call 48; refine HNu.out.mono ?_; rintro e Z ⟨hZ, A2, c2, rfl, hr2⟩; have HR2 := Lib.hid hr2; clear hr2; have HZ := Lib.hid (HBY.out.trans (hZ.mono HBY.out.size)); clear hZ)
    refine bodyPost_ret (v := .tuple #[.slice A2 L.length c2, .int .i64 0]) (by simp [results, Try.results25, go_sem]) rfl ?_
    rw [← HL.out]
    exact LsTo.ok HE0.out HZ.out HR2.out
  · have HN : Hid (E ≠ 0) := h0
    rw [if_neg h0] at HRd
    unfold bookV logZ at *
    clear bW r0 r1 hr hk hB
    go_enter Try.func25, Try.ntmps25
    go_upto_region 1 with fail
    rw [← hW, ← hzd, ← hzb]
    clear hW hzb hzd
    go_wp2_with (go_at_call 47; refine HRd.out.mono ?_; rintro e X ⟨rfl, hX⟩; have HX := Lib.hid (HBW.out.trans (hX.mono HBW.out.size)); clear hX)
    refine bodyPost_ret (v := .tuple #[.slice none 0 0, .int .i64 E]) (by simp [results, Try.results25, go_sem]) rfl ?_
    exact LsTo.bad HN.out (HX.out.alloc HX.out.size _)
set_option maxRecDepth 100000 in
set_option maxHeartbeats 1000000 in
theorem Open_any (k : BookZ) (R : BkR) (l : List EntZ) (A : Option Addr) (c B : Nat) (day : Int) (w : World) (hB : B ≤ w.heap.size) (hl : l.length ≤ maxLen) (hlc : l.length ≤ c) (hr : Reads w B 5 A l.length (entCells l)) (hk : BkIn w B k R) :
    Calls Try.prog 23 #[bookV k R, .slice A l.length c, .int .i64 day] w (LsTo w (onE k l day) (lsE (onE k l day) (openL (upL l day)))) := by
  obtain ⟨W, hW⟩ : ∃ W, W = w.alloc (.cells #[.slice R.A1 k.rules.length R.c1, .slice R.A2 k.ranks.length R.c2, .slice R.A3 k.insured.length R.c3] 25) := ⟨_, rfl⟩
  have bW : Below w.heap.size w W := by subst hW; exact (Below.refl _ _).alloc (Nat.le_refl _) _
  have r0 : Row W w.heap.size 25 [.slice R.A1 k.rules.length R.c1, .slice R.A2 k.ranks.length R.c2, .slice R.A3 k.insured.length R.c3] := by subst hW; exact Row.new w _ _
  obtain ⟨zb, hzb⟩ : ∃ z, z = w.heap.size := ⟨_, rfl⟩
  rw [← hzb] at r0
  have q0 : W.cell? ⟨zb, 0, none⟩ = some (.slice R.A1 k.rules.length R.c1) := r0.cell (j := 0) (by simp)
  have q1 : W.cell? ⟨zb, 1, none⟩ = some (.slice R.A2 k.ranks.length R.c2) := r0.cell (j := 1) (by simp)
  have q2 : W.cell? ⟨zb, 2, none⟩ = some (.slice R.A3 k.insured.length R.c3) := r0.cell (j := 2) (by simp)
  have lW := r0.lt
  have HBW := Lib.hid bW
  have HR0 := Lib.hid r0
  have HRd := Lib.hid (readOn_any k R l A c B day W (Nat.le_trans hB bW.size) hl hlc (hr.below (bW.mono hB)) (hk.below (bW.mono hB)))
  have hul := upL_len (l := l) (day := day)
  have HEo := Lib.hid (fun h => onE_ok (k := k) (l := l) (day := day) h)
  have HOn : Hid (∀ (i : Nat) (X : World), Below w.heap.size w X → Calls Try.prog 53 #[logV k R (upL l day) A c, .int .i64 (i : Int)] X fun e w' => e = .returned (.bool (openS (upL l day) (i : Int))) ∧ Below X.heap.size X w') := fun i X hX => isOpen_any k R (upL l day) A c B i X (Nat.le_trans hB hX.size) (Nat.le_trans hul hl) (ents_take (hr.below (hX.mono hB)) (upN_le l day))
  unfold LgTo at HRd
  generalize onE k l day = E at HRd HEo ⊢
  by_cases h0 : E = 0
  · have HE0 : Hid (E = 0) := h0
    rw [if_pos h0, h0] at HRd
    have hok := HEo.out h0
    unfold openL
    unfold bookV logV at *
    clear bW r0 hr hk hB h0
    go_enter Try.func23, Try.ntmps23
    go_upto_region 1 with fail
    rw [← hW, ← hzb]
    clear hW hzb
    go_upto_region 2 with (go_at_call 47; refine HRd.out.mono ?_; rintro e X ⟨rfl, hX⟩)
    have bY := hX.alloc hX.size (.cells #[.slice R.A1 k.rules.length R.c1, .slice R.A2 k.ranks.length R.c2, .slice R.A3 k.insured.length R.c3, .slice A (upL l day).length c] 66)
    have gY := Row.new X 66 #[.slice R.A1 k.rules.length R.c1, .slice R.A2 k.ranks.length R.c2, .slice R.A3 k.insured.length R.c3, .slice A (upL l day).length c]
    generalize X.alloc (.cells #[.slice R.A1 k.rules.length R.c1, .slice R.A2 k.ranks.length R.c2, .slice R.A3 k.insured.length R.c3, .slice A (upL l day).length c] 66) = Y at bY gY ⊢
    generalize X.heap.size = zg at gY ⊢
    have HBY := Lib.hid (HBW.out.trans (bY.mono HBW.out.size))
    have sB := HR0.out.below bY HR0.out.lt
    have b0 : Y.cell? ⟨zb, 0, none⟩ = some (.slice R.A1 k.rules.length R.c1) := sB.cell (j := 0) (by simp)
    have b1 : Y.cell? ⟨zb, 1, none⟩ = some (.slice R.A2 k.ranks.length R.c2) := sB.cell (j := 1) (by simp)
    have b2 : Y.cell? ⟨zb, 2, none⟩ = some (.slice R.A3 k.insured.length R.c3) := sB.cell (j := 2) (by simp)
    have g0 : Y.cell? ⟨zg, 0, none⟩ = some (.slice R.A1 k.rules.length R.c1) := gY.cell (j := 0) (by simp)
    have g1 : Y.cell? ⟨zg, 1, none⟩ = some (.slice R.A2 k.ranks.length R.c2) := gY.cell (j := 1) (by simp)
    have g2 : Y.cell? ⟨zg, 2, none⟩ = some (.slice R.A3 k.insured.length R.c3) := gY.cell (j := 2) (by simp)
    have g3 : Y.cell? ⟨zg, 3, none⟩ = some (.slice A (upL l day).length c) := gY.cell (j := 3) (by simp)
    have lB := sB.lt
    have lG := gY.lt
    have HGY := Lib.hid gY
    have HNu := Lib.hid (numbersM_any (upL l day).length 53 (.agg #[.slice R.A1 k.rules.length R.c1, .slice R.A2 k.ranks.length R.c2, .slice R.A3 k.insured.length R.c3, .slice A (upL l day).length c]) (fun i => openS (upL l day) (i : Int)) Y (by have := hok.1.len; omega) (fun a X => enters_of Try.func53 (by kernel_rfl) rfl a X)
      (fun i _ X hX => HOn.out i X (HBY.out.trans (hX.mono HBY.out.size))))
    obtain ⟨L, hL⟩ : ∃ L, L = numsL (fun i => openS (upL l day) (i : Int)) (upL l day).length := ⟨_, rfl⟩
    rw [← hL] at HNu
    have HL := Lib.hid hL
    clear hL
    clear hX bY gY sB HRd
    go_wp2_with (go_at_call 48; refine HNu.out.mono ?_; rintro e Z ⟨hZ, A2, c2, rfl, hr2⟩; have HR2 := Lib.hid hr2; clear hr2; have HZ := Lib.hid (HBY.out.trans (hZ.mono HBY.out.size)); clear hZ)
    refine bodyPost_ret (v := .tuple #[.slice A2 L.length c2, .int .i64 0]) (by simp [results, Try.results23, go_sem]) rfl ?_
    rw [← HL.out]
    exact LsTo.ok HE0.out HZ.out HR2.out
  · have HN : Hid (E ≠ 0) := h0
    rw [if_neg h0] at HRd
    unfold bookV logZ at *
    clear bW r0 hr hk hB
    go_enter Try.func23, Try.ntmps23
    go_upto_region 1 with fail
    rw [← hW, ← hzb]
    clear hW hzb
    go_wp2_with (go_at_call 47; refine HRd.out.mono ?_; rintro e X ⟨rfl, hX⟩; have HX := Lib.hid (HBW.out.trans (hX.mono HBW.out.size)); clear hX)
    refine bodyPost_ret (v := .tuple #[.slice none 0 0, .int .i64 E]) (by simp [results, Try.results23, go_sem]) rfl ?_
    exact LsTo.bad HN.out (HX.out.alloc HX.out.size _)
set_option maxRecDepth 100000 in
set_option maxHeartbeats 1000000 in
theorem Why_any (k : BookZ) (R : BkR) (l : List EntZ) (A : Option Addr) (c B : Nat) (ride day : Int) (w : World) (hB : B ≤ w.heap.size) (hl : l.length ≤ maxLen) (hlc : l.length ≤ c) (hr : Reads w B 5 A l.length (entCells l)) (hk : BkIn w B k R) :
    Calls Try.prog 27 #[bookV k R, .slice A l.length c, .int .i64 ride, .int .i64 day] w (LsTo w (rideE k l ride day) (lsE (rideE k l ride day) (whyS k (upL l day) ride.toNat day))) := by
  obtain ⟨W, hW⟩ : ∃ W, W = w.alloc (.cells #[.slice R.A1 k.rules.length R.c1, .slice R.A2 k.ranks.length R.c2, .slice R.A3 k.insured.length R.c3] 25) := ⟨_, rfl⟩
  have bW : Below w.heap.size w W := by subst hW; exact (Below.refl _ _).alloc (Nat.le_refl _) _
  have r0 : Row W w.heap.size 25 [.slice R.A1 k.rules.length R.c1, .slice R.A2 k.ranks.length R.c2, .slice R.A3 k.insured.length R.c3] := by subst hW; exact Row.new w _ _
  obtain ⟨zb, hzb⟩ : ∃ z, z = w.heap.size := ⟨_, rfl⟩
  rw [← hzb] at r0
  have q0 : W.cell? ⟨zb, 0, none⟩ = some (.slice R.A1 k.rules.length R.c1) := r0.cell (j := 0) (by simp)
  have q1 : W.cell? ⟨zb, 1, none⟩ = some (.slice R.A2 k.ranks.length R.c2) := r0.cell (j := 1) (by simp)
  have q2 : W.cell? ⟨zb, 2, none⟩ = some (.slice R.A3 k.insured.length R.c3) := r0.cell (j := 2) (by simp)
  have lW := r0.lt
  have HBW := Lib.hid bW
  have HR0 := Lib.hid r0
  have HRd := Lib.hid (readRide_any k R l A c B ride day W (Nat.le_trans hB bW.size) hl hlc (hr.below (bW.mono hB)) (hk.below (bW.mono hB)))
  have hul := upL_len (l := l) (day := day)
  have HEo := Lib.hid (fun h => rideE_ok (k := k) (l := l) (ride := ride) (day := day) h)
  have HOn : Hid (l.length ≤ 100 → ∀ (i : Nat), i < k.insured.length → ∀ X, Below w.heap.size w X → Calls Try.prog 56 #[logV k R (upL l day) A c, .int .i64 (i : Int), .int .i64 day] X (NumsTo X (whyS k (upL l day) i day))) := fun h100 i hi X hX => why_any k R (upL l day) A c B i day X (Nat.le_trans hB hX.size) (Nat.le_trans hul h100) (ents_take (hr.below (hX.mono hB)) (upN_le l day)) (hk.below (hX.mono hB)) hi
  unfold LgTo at HRd
  generalize rideE k l ride day = E at HRd HEo ⊢
  by_cases h0 : E = 0
  · have HE0 : Hid (E = 0) := h0
    rw [if_pos h0, h0] at HRd
    have hok := HEo.out h0
    obtain ⟨i, hi⟩ : ∃ i, i = ride.toNat := ⟨_, rfl⟩
    have hrn : ride = (i : Int) := by omega
    have hil : i < k.insured.length := by omega
    rw [← hi]
    subst hrn
    have HNu0 := Lib.hid (HOn.out hok.1.len i hil)
    clear hi hil
    unfold bookV logV at *
    clear bW r0 hr hk hB h0
    go_enter Try.func27, Try.ntmps27
    go_upto_region 1 with fail
    rw [← hW, ← hzb]
    clear hW hzb
    go_upto_region 2 with (go_at_call 58; refine HRd.out.mono ?_; rintro e X ⟨rfl, hX⟩)
    have bY := hX.alloc hX.size (.cells #[.slice R.A1 k.rules.length R.c1, .slice R.A2 k.ranks.length R.c2, .slice R.A3 k.insured.length R.c3, .slice A (upL l day).length c] 66)
    have gY := Row.new X 66 #[.slice R.A1 k.rules.length R.c1, .slice R.A2 k.ranks.length R.c2, .slice R.A3 k.insured.length R.c3, .slice A (upL l day).length c]
    generalize X.alloc (.cells #[.slice R.A1 k.rules.length R.c1, .slice R.A2 k.ranks.length R.c2, .slice R.A3 k.insured.length R.c3, .slice A (upL l day).length c] 66) = Y at bY gY ⊢
    generalize X.heap.size = zg at gY ⊢
    have HBY := Lib.hid (HBW.out.trans (bY.mono HBW.out.size))
    have sB := HR0.out.below bY HR0.out.lt
    have b0 : Y.cell? ⟨zb, 0, none⟩ = some (.slice R.A1 k.rules.length R.c1) := sB.cell (j := 0) (by simp)
    have b1 : Y.cell? ⟨zb, 1, none⟩ = some (.slice R.A2 k.ranks.length R.c2) := sB.cell (j := 1) (by simp)
    have b2 : Y.cell? ⟨zb, 2, none⟩ = some (.slice R.A3 k.insured.length R.c3) := sB.cell (j := 2) (by simp)
    have g0 : Y.cell? ⟨zg, 0, none⟩ = some (.slice R.A1 k.rules.length R.c1) := gY.cell (j := 0) (by simp)
    have g1 : Y.cell? ⟨zg, 1, none⟩ = some (.slice R.A2 k.ranks.length R.c2) := gY.cell (j := 1) (by simp)
    have g2 : Y.cell? ⟨zg, 2, none⟩ = some (.slice R.A3 k.insured.length R.c3) := gY.cell (j := 2) (by simp)
    have g3 : Y.cell? ⟨zg, 3, none⟩ = some (.slice A (upL l day).length c) := gY.cell (j := 3) (by simp)
    have lB := sB.lt
    have lG := gY.lt
    have HGY := Lib.hid gY
    have HNu := Lib.hid (HNu0.out Y HBY.out)
    obtain ⟨L, hL⟩ : ∃ L, L = whyS k (upL l day) i day := ⟨_, rfl⟩
    rw [← hL] at HNu
    have HL := Lib.hid hL
    clear hL
    clear hX bY gY sB HRd
    go_wp2_with (go_at_call 56; refine HNu.out.mono ?_; rintro e Z ⟨hZ, A2, c2, rfl, hr2⟩; have HR2 := Lib.hid hr2; clear hr2; have HZ := Lib.hid (HBY.out.trans (hZ.mono HBY.out.size)); clear hZ)
    refine bodyPost_ret (v := .tuple #[.slice A2 L.length c2, .int .i64 0]) (by simp [results, Try.results27, go_sem]) rfl ?_
    rw [← HL.out]
    exact LsTo.ok HE0.out HZ.out HR2.out
  · have HN : Hid (E ≠ 0) := h0
    rw [if_neg h0] at HRd
    unfold bookV logZ at *
    clear bW r0 hr hk hB
    go_enter Try.func27, Try.ntmps27
    go_upto_region 1 with fail
    rw [← hW, ← hzb]
    clear hW hzb
    go_wp2_with (go_at_call 58; refine HRd.out.mono ?_; rintro e X ⟨rfl, hX⟩; have HX := Lib.hid (HBW.out.trans (hX.mono HBW.out.size)); clear hX)
    refine bodyPost_ret (v := .tuple #[.slice none 0 0, .int .i64 E]) (by simp [results, Try.results27, go_sem]) rfl ?_
    exact LsTo.bad HN.out (HX.out.alloc HX.out.size _)
/-- Until, or the error. -/
def untE (E : Int) (p : Int × Int) : Int × Int := if E = 0 then p else (0, E)
set_option maxRecDepth 100000 in
set_option maxHeartbeats 1000000 in
theorem Until_any (k : BookZ) (R : BkR) (l : List EntZ) (A : Option Addr) (c B : Nat) (ride day : Int) (w : World) (hB : B ≤ w.heap.size) (hl : l.length ≤ maxLen) (hlc : l.length ≤ c) (hr : Reads w B 5 A l.length (entCells l)) (hk : BkIn w B k R) :
    Calls Try.prog 30 #[bookV k R, .slice A l.length c, .int .i64 ride, .int .i64 day] w (fun e w' => e = .returned (.tuple #[.int .i64 (untE (rideE k l ride day) (untS k (upL l day) ride.toNat day)).1, .int .i64 (untE (rideE k l ride day) (untS k (upL l day) ride.toNat day)).2]) ∧ Below w.heap.size w w') := by
  obtain ⟨W, hW⟩ : ∃ W, W = w.alloc (.cells #[.slice R.A1 k.rules.length R.c1, .slice R.A2 k.ranks.length R.c2, .slice R.A3 k.insured.length R.c3] 25) := ⟨_, rfl⟩
  have bW : Below w.heap.size w W := by subst hW; exact (Below.refl _ _).alloc (Nat.le_refl _) _
  have r0 : Row W w.heap.size 25 [.slice R.A1 k.rules.length R.c1, .slice R.A2 k.ranks.length R.c2, .slice R.A3 k.insured.length R.c3] := by subst hW; exact Row.new w _ _
  obtain ⟨zb, hzb⟩ : ∃ z, z = w.heap.size := ⟨_, rfl⟩
  rw [← hzb] at r0
  have q0 : W.cell? ⟨zb, 0, none⟩ = some (.slice R.A1 k.rules.length R.c1) := r0.cell (j := 0) (by simp)
  have q1 : W.cell? ⟨zb, 1, none⟩ = some (.slice R.A2 k.ranks.length R.c2) := r0.cell (j := 1) (by simp)
  have q2 : W.cell? ⟨zb, 2, none⟩ = some (.slice R.A3 k.insured.length R.c3) := r0.cell (j := 2) (by simp)
  have lW := r0.lt
  have HBW := Lib.hid bW
  have HR0 := Lib.hid r0
  have HRd := Lib.hid (readRide_any k R l A c B ride day W (Nat.le_trans hB bW.size) hl hlc (hr.below (bW.mono hB)) (hk.below (bW.mono hB)))
  have hul := upL_len (l := l) (day := day)
  have HEo := Lib.hid (fun h => rideE_ok (k := k) (l := l) (ride := ride) (day := day) h)
  have HOn : Hid (l.length ≤ 100 → ∀ (i : Nat), i < k.insured.length → ∀ X, Below w.heap.size w X → Calls Try.prog 60 #[logV k R (upL l day) A c, .int .i64 (i : Int), .int .i64 day] X fun e w' => e = .returned (.tuple #[.int .i64 (untS k (upL l day) i day).1, .int .i64 (untS k (upL l day) i day).2]) ∧ Below X.heap.size X w') := fun h100 i hi X hX => until_any k R (upL l day) A c B i day X (Nat.le_trans hB hX.size) (Nat.le_trans hul h100) (ents_take (hr.below (hX.mono hB)) (upN_le l day)) (hk.below (hX.mono hB)) hi
  unfold LgTo at HRd
  generalize rideE k l ride day = E at HRd HEo ⊢
  by_cases h0 : E = 0
  · have HE0 : Hid (E = 0) := h0
    rw [if_pos h0, h0] at HRd
    have hok := HEo.out h0
    obtain ⟨i, hi⟩ : ∃ i, i = ride.toNat := ⟨_, rfl⟩
    have hrn : ride = (i : Int) := by omega
    have hil : i < k.insured.length := by omega
    rw [← hi]
    subst hrn
    have HNu0 := Lib.hid (HOn.out hok.1.len i hil)
    clear hi hil
    unfold bookV logV at *
    clear bW r0 hr hk hB h0
    go_enter Try.func30, Try.ntmps30
    go_upto_region 1 with fail
    rw [← hW, ← hzb]
    clear hW hzb
    go_upto_region 2 with (go_at_call 58; refine HRd.out.mono ?_; rintro e X ⟨rfl, hX⟩)
    have bY := hX.alloc hX.size (.cells #[.slice R.A1 k.rules.length R.c1, .slice R.A2 k.ranks.length R.c2, .slice R.A3 k.insured.length R.c3, .slice A (upL l day).length c] 66)
    have gY := Row.new X 66 #[.slice R.A1 k.rules.length R.c1, .slice R.A2 k.ranks.length R.c2, .slice R.A3 k.insured.length R.c3, .slice A (upL l day).length c]
    generalize X.alloc (.cells #[.slice R.A1 k.rules.length R.c1, .slice R.A2 k.ranks.length R.c2, .slice R.A3 k.insured.length R.c3, .slice A (upL l day).length c] 66) = Y at bY gY ⊢
    generalize X.heap.size = zg at gY ⊢
    have HBY := Lib.hid (HBW.out.trans (bY.mono HBW.out.size))
    have sB := HR0.out.below bY HR0.out.lt
    have b0 : Y.cell? ⟨zb, 0, none⟩ = some (.slice R.A1 k.rules.length R.c1) := sB.cell (j := 0) (by simp)
    have b1 : Y.cell? ⟨zb, 1, none⟩ = some (.slice R.A2 k.ranks.length R.c2) := sB.cell (j := 1) (by simp)
    have b2 : Y.cell? ⟨zb, 2, none⟩ = some (.slice R.A3 k.insured.length R.c3) := sB.cell (j := 2) (by simp)
    have g0 : Y.cell? ⟨zg, 0, none⟩ = some (.slice R.A1 k.rules.length R.c1) := gY.cell (j := 0) (by simp)
    have g1 : Y.cell? ⟨zg, 1, none⟩ = some (.slice R.A2 k.ranks.length R.c2) := gY.cell (j := 1) (by simp)
    have g2 : Y.cell? ⟨zg, 2, none⟩ = some (.slice R.A3 k.insured.length R.c3) := gY.cell (j := 2) (by simp)
    have g3 : Y.cell? ⟨zg, 3, none⟩ = some (.slice A (upL l day).length c) := gY.cell (j := 3) (by simp)
    have lB := sB.lt
    have lG := gY.lt
    have HGY := Lib.hid gY
    have HNu := Lib.hid (HNu0.out Y HBY.out)
    obtain ⟨U, hL⟩ : ∃ U, U = untS k (upL l day) i day := ⟨_, rfl⟩
    rw [← hL] at HNu
    have HL := Lib.hid hL
    clear hL
    obtain ⟨u1, u2⟩ := U
    dsimp only at HNu
    clear hX bY gY sB HRd
    go_wp2_with (go_at_call 60; refine HNu.out.mono ?_; rintro e Z ⟨rfl, hZ⟩; have HZ := Lib.hid (HBY.out.trans (hZ.mono HBY.out.size)); clear hZ)
    refine bodyPost_ret (v := .tuple #[.int .i64 u1, .int .i64 u2]) (by simp [results, Try.results30, go_sem]) rfl ?_
    refine ⟨?_, HZ.out⟩
    unfold untE
    rw [if_pos HE0.out, ← HL.out]
  · have HN : Hid (E ≠ 0) := h0
    rw [if_neg h0] at HRd
    unfold bookV logZ at *
    clear bW r0 hr hk hB
    go_enter Try.func30, Try.ntmps30
    go_upto_region 1 with fail
    rw [← hW, ← hzb]
    clear hW hzb
    go_wp2_with (go_at_call 58; refine HRd.out.mono ?_; rintro e X ⟨rfl, hX⟩; have HX := Lib.hid (HBW.out.trans (hX.mono HBW.out.size)); clear hX)
    refine bodyPost_ret (v := .tuple #[.int .i64 0, .int .i64 E]) (by simp [results, Try.results30, go_sem]) rfl ?_
    refine ⟨?_, HX.out.alloc HX.out.size _⟩
    unfold untE
    rw [if_neg HN.out]
end Go.Proofs.Ytaocgkmobfocjaa
