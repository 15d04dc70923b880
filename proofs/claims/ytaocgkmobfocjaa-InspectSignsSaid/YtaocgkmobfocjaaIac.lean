/- Contracts of the specification's Due, Open, Released and Why. Conditions: a book and entries that read as data. -/
import Derived.Test.YtaocgkmobfocjaaIab
namespace Go.Proofs.Ytaocgkmobfocjaa
open Go.RowKit

theorem LogOk.up {k : BookZ} {l : List EntZ} (h : LogOk k l) (day : Int) : LogOk k (upL l day) := h.take _
theorem up_day {l : List EntZ} {day : Int} : ∀ x ∈ upL l day, x.day ≤ day := by
  intro x hx
  obtain ⟨i, hi, he⟩ := List.getElem_of_mem hx
  have hu : i < upN l day := by unfold upL at hi; rw [List.length_take] at hi; omega
  have h := upN_in l day hu
  have hl : i < l.length := by have := upN_le l day; omega
  rw [ent_getD hl] at h
  have e : (upL l day)[i] = l[i] := by simp only [upL, List.getElem_take]
  rw [← he, e]; exact h
theorem due_is {k : BookZ} {l : List EntZ} {day : Int} (h : LogOk k l) (hd : 0 ≤ day ∧ day ≤ 10000) : dueS k (upL l day) day = numsL (fun i => !frcS (upL l day) i (k.rules.getD i default) day) k.rules.length :=
  numsL_congr fun i hi => by
    unfold dueP
    rw [frc_inf (h.up day) (book_rule h.book hi).2.1 hd, Bool.not_not]
def relQ (k : BookZ) (l : List EntZ) (day : Int) (r : Nat) : Bool := decide ((reaS k l r day).length = 0)
theorem rel_is {k : BookZ} {l : List EntZ} {day : Int} (h : LogOk k l) (hd : 0 ≤ day ∧ day ≤ 10000) : relS k (upL l day) day = numsL (relQ k (upL l day) day) k.insured.length :=
  numsL_congr fun i _ => by
    unfold relP relQ
    rw [rea_why (h.up day) hd up_day]
theorem LogOk.sev {k : BookZ} {l : List EntZ} (h : LogOk k l) : ∀ j, j < l.length → openS l (j : Int) = true → 0 ≤ (l.getD j default).b ∧ (l.getD j default).b ≤ 3 := by
  intro j hj ho
  have h1 := (openS_kind ho).2
  have h2 := (canB_iff.1 (h.can j hj)).2.2
  unfold kindB at h2
  rw [if_neg (by rw [h1]; decide), if_pos h1] at h2
  simp only [Bool.and_eq_true, inBI] at h2
  omega
structure DuR (U : World) (k : BookZ) (R : BkR) (l : List EntZ) (A : Option Addr) (c n : Nat) (day : Int) (fb : Bool) (done : Nat → Bool) (xs : Nat → Value) (y : World) : Prop where
  bl : Below U.heap.size U y
  v0 : done 0 = true → xs 0 = .agg #[.slice R.A1 k.rules.length R.c1, .slice R.A2 k.ranks.length R.c2, .slice R.A3 k.insured.length R.c3]
  v1 : done 1 = true → xs 1 = .slice A l.length c
  v2 : done 2 = true → xs 2 = .int .i64 day
  v3 : done 3 = true → xs 3 = .slice A (upL l day).length c
  v4 : done 4 = true → xs 4 = .int .i64 (n : Int)
  v5 : done 5 = true → xs 5 = .int .i64 day
  v6 : done 6 = true → xs 6 = .bool fb
  v7 : done 7 = true → xs 7 = .bool !fb
set_option maxRecDepth 100000 in
set_option maxHeartbeats 4000000 in
theorem rDue_any (k : BookZ) (R : BkR) (l : List EntZ) (A : Option Addr) (c B : Nat) (day : Int) (w : World) (hB : B ≤ w.heap.size) (hl : l.length ≤ maxLen) (hlc : l.length ≤ c) (hr : Reads w B 5 A l.length (entCells l)) (hk : BkIn w B k R) :
    Calls Try.prog 21 #[bookV k R, .slice A l.length c, .int .i64 day] w (LsTo w (onE k l day) (lsE (onE k l day) (dueS k (upL l day) day))) := by
  obtain ⟨W, hW⟩ : ∃ W, W = w.alloc (.cells #[.slice R.A1 k.rules.length R.c1, .slice R.A2 k.ranks.length R.c2, .slice R.A3 k.insured.length R.c3] 25) := ⟨_, rfl⟩
  have bW : Below w.heap.size w W := by subst hW; exact (Below.refl _ _).alloc (Nat.le_refl _) _
  have r0 : Row W w.heap.size 25 [.slice R.A1 k.rules.length R.c1, .slice R.A2 k.ranks.length R.c2, .slice R.A3 k.insured.length R.c3] := by subst hW; exact Row.new w _ _
  obtain ⟨zb, hzb⟩ : ∃ z, z = w.heap.size := ⟨_, rfl⟩
  rw [← hzb] at r0
  have q0 : W.cell? ⟨zb, 0, none⟩ = some (.slice R.A1 k.rules.length R.c1) := r0.cell (j := 0) (by simp)
  have q1 : W.cell? ⟨zb, 1, none⟩ = some (.slice R.A2 k.ranks.length R.c2) := r0.cell (j := 1) (by simp)
  have q2 : W.cell? ⟨zb, 2, none⟩ = some (.slice R.A3 k.insured.length R.c3) := r0.cell (j := 2) (by simp)
  have lW := r0.lt
  have HBW := Lib.hid bW
  have HR0 := Lib.hid r0
  have HCk := Lib.hid (rday_any k R l A c B day W (Nat.le_trans hB bW.size) hl hlc (hr.below (bW.mono hB)) (hk.below (bW.mono hB)))
  have HUp : Hid (∀ (X : World), Below w.heap.size w X → Calls Try.prog 40 #[.slice A l.length c, .int .i64 day] X fun e w' => e = .returned (.slice A (upL l day).length c) ∧ w' = X) := fun X hX => rUpto_any l A c B day X (Nat.le_trans hB hX.size) hl hlc (hr.below (hX.mono hB))
  have hul := upL_len (l := l) (day := day)
  have HFo : Hid (∀ (i : Nat) (hi : i < k.rules.length) (X : World), Below w.heap.size w X → Calls Try.prog 52 #[bookV k R, .slice A (upL l day).length c, .int .i64 (i : Int), .int .i64 day] X fun e w' => e = .returned (.bool (frcS (upL l day) i k.rules[i] day)) ∧ Below X.heap.size X w') := fun i hi X hX => rforce_any k R (upL l day) A c B i day X (Nat.le_trans hB hX.size) (Nat.le_trans hul hl) (ents_take (hr.below (hX.mono hB)) (upN_le l day)) (hk.below (hX.mono hB)) hi
  have HOk := Lib.hid (fun h => onE_ok (k := k) (l := l) (day := day) h)
  have hl1 := hk.l1
  have hl3 := hk.l3
  unfold maxLen at hl1 hl3
  obtain ⟨i0, hi, hz0, hz1, hz2⟩ := info_parts Try.info_intI
  generalize onE k l day = E at HCk HOk ⊢
  unfold bookV at *
  clear bW r0 hk hr
  by_cases h0 : E = 0
  · have hok := HOk.out h0
    have HE0 : Hid (E = 0) := h0
    rw [h0] at HCk
    rw [due_is hok.1 hok.2]
    have hb100 : k.rules.length ≤ 1000 := by have := book_lens hok.1.book; omega
    clear h0 HOk
    go_enter Try.func21, Try.ntmps21
    go_upto_region 1 with fail
    rw [← hW, ← hzb]
    clear hW hzb
    go_upto_region 4 with (go_at_call 51; refine HCk.out.mono ?_; rintro e X ⟨rfl, hX⟩)
    have HX := Lib.hid (HBW.out.trans (hX.mono HBW.out.size))
    have HS0 := Lib.hid (HR0.out.below hX HR0.out.lt)
    have HWX := Lib.hid hX
    clear hX HCk
    go_wp2_with fail
    go_loopw [9, 10] (fun v q wr => ∃ n : Nat, n ≤ k.rules.length ∧ q = .int .i64 n ∧ wr.ownsRow W.heap.size 3 1 v (numsL (fun i => !frcS (upL l day) i (k.rules.getD i default) day) n).length ((numsL (fun i => !frcS (upL l day) i (k.rules.getD i default) day) n).map (Value.int .i64)) ∧ Below W.heap.size W wr) (fun _ q _ => k.rules.length - (intOf q).toNat)
    case atStart => exact ⟨0, Nat.zero_le _, rfl, owns_nil _ _ _ _, HWX.out⟩
    case round =>
      obtain ⟨n, hn, rfl, hown, hbel⟩ := hrel
      have HBr := Lib.hid (HBW.out.trans (hbel.mono HBW.out.size))
      have HBL := Lib.hid hbel
      have sB := HR0.out.below hbel HR0.out.lt
      have c0 : wr.cell? ⟨zb, 0, none⟩ = some (.slice R.A1 k.rules.length R.c1) := sB.cell (j := 0) (by simp)
      have c1 : wr.cell? ⟨zb, 1, none⟩ = some (.slice R.A2 k.ranks.length R.c2) := sB.cell (j := 1) (by simp)
      have c2 : wr.cell? ⟨zb, 2, none⟩ = some (.slice R.A3 k.insured.length R.c3) := sB.cell (j := 2) (by simp)
      have lB := sB.lt
      have HSB := Lib.hid sB
      have HOw := Lib.hid hown
      by_cases hlt : n < k.rules.length
      · have n1 : (n : Int) < (k.rules.length : Int) := by omega
        have n0 : ¬ (n : Int) < 0 := by omega
        have en : IntKind.i64.wrap ((n : Int) + 1) = (n : Int) + 1 := IntWalk.i64_in _ (by omega)
        have HNy := Lib.hid (fun h => numsL_yes (p := fun i => !frcS (upL l day) i (k.rules.getD i default) day) (k := n) h)
        have HNn := Lib.hid (fun h => numsL_no (p := fun i => !frcS (upL l day) i (k.rules.getD i default) day) (k := n) h)
        have hnl := numsL_len (fun i => !frcS (upL l day) i (k.rules.getD i default) day) n
        have HF := Lib.hid (HFo.out n hlt)
        have HP : Hid ((fun i => !frcS (upL l day) i (k.rules.getD i default) day) n = !frcS (upL l day) n k.rules[n] day) := by show (!frcS _ _ _ _) = _; rw [rules_at hlt]
        generalize frcS (upL l day) n k.rules[n] day = fb at HF HP
        clear hown hbel sB
        go_upto_region 8 with fail
        refine wp_region_stepsY 8 (ord := [0, 1, 2, 3, 4, 5, 6, 7]) (ds := [(0, 25), (1, 26), (2, 27), (3, 28), (4, 29), (5, 30), (6, 31), (7, 32)]) (I := DuR wr k R l A c n day fb) (by kernel_rfl) (by kernel_rfl) rfl ?iz (StepsY.cons (k := 0) (k' := 1) (o := ⟨some 25, _, _, _, _, _⟩) rfl rfl ?sz0 (StepsY.cons (k := 1) (k' := 2) (o := ⟨some 26, _, _, _, _, _⟩) rfl rfl ?sz1 (StepsY.cons (k := 2) (k' := 3) (o := ⟨some 27, _, _, _, _, _⟩) rfl rfl ?sz2 (StepsY.cons (k := 3) (k' := 4) (o := ⟨some 28, _, _, _, _, _⟩) rfl rfl ?sz3 (StepsY.cons (k := 4) (k' := 5) (o := ⟨some 29, _, _, _, _, _⟩) rfl rfl ?sz4 (StepsY.cons (k := 5) (k' := 6) (o := ⟨some 30, _, _, _, _, _⟩) rfl rfl ?sz5 (StepsY.cons (k := 6) (k' := 7) (o := ⟨some 31, _, _, _, _, _⟩) rfl rfl ?sz6 (StepsY.cons (k := 7) (k' := 8) (o := ⟨some 32, _, _, _, _, _⟩) rfl rfl ?sz7 StepsY.nil)))))))) ?finz
        case iz => exact fun xs => ⟨(Below.refl _ _).drew, fun h => Bool.noConfusion h, fun h => Bool.noConfusion h, fun h => Bool.noConfusion h, fun h => Bool.noConfusion h, fun h => Bool.noConfusion h, fun h => Bool.noConfusion h, fun h => Bool.noConfusion h, fun h => Bool.noConfusion h⟩
        case sz0 =>
          intro xs done y hI hd0 hup hdn K hK
          refine wpOp_go (o := ⟨some 25, _, _, _, _, _⟩) rfl rfl ?_
          simp only [putsF, List.foldl_cons, List.foldl_nil, Act.put, List.setIfInBounds_toArray, List.set_cons_zero, List.set_cons_succ] at hK ⊢
          have rG := HSB.out.below hI.bl HSB.out.lt
          have lG := rG.lt
          have g0 : y.cell? ⟨zb, 0, none⟩ = some (.slice R.A1 k.rules.length R.c1) := rG.cell (j := 0) (by simp)
          have g1 : y.cell? ⟨zb, 1, none⟩ = some (.slice R.A2 k.ranks.length R.c2) := rG.cell (j := 1) (by simp)
          have g2 : y.cell? ⟨zb, 2, none⟩ = some (.slice R.A3 k.insured.length R.c3) := rG.cell (j := 2) (by simp)
          go_wp2_with fail
          exact hK.out _ _ ⟨hI.bl, fun _ => rfl, hI.v1, hI.v2, hI.v3, hI.v4, hI.v5, hI.v6, hI.v7⟩
        case sz1 =>
          intro xs done y hI hd0 hup hdn K hK
          refine wpOp_go (o := ⟨some 26, _, _, _, _, _⟩) rfl rfl ?_
          simp only [putsF, List.foldl_cons, List.foldl_nil, Act.put, List.setIfInBounds_toArray, List.set_cons_zero, List.set_cons_succ] at hK ⊢
          go_wp2_with fail
          exact hK.out _ _ ⟨hI.bl, hI.v0, fun _ => rfl, hI.v2, hI.v3, hI.v4, hI.v5, hI.v6, hI.v7⟩
        case sz2 =>
          intro xs done y hI hd0 hup hdn K hK
          refine wpOp_go (o := ⟨some 27, _, _, _, _, _⟩) rfl rfl ?_
          simp only [putsF, List.foldl_cons, List.foldl_nil, Act.put, List.setIfInBounds_toArray, List.set_cons_zero, List.set_cons_succ] at hK ⊢
          go_wp2_with fail
          exact hK.out _ _ ⟨hI.bl, hI.v0, hI.v1, fun _ => rfl, hI.v3, hI.v4, hI.v5, hI.v6, hI.v7⟩
        case sz3 =>
          intro xs done y hI hd0 hup hdn K hK
          refine wpOp_go (o := ⟨some 28, _, _, _, _, _⟩) rfl rfl ?_
          have e1 := hI.v1 (hdn 1 (by kernel_rfl))
          have e2 := hI.v2 (hdn 2 (by kernel_rfl))
          simp only [putsF, List.foldl_cons, List.foldl_nil, Act.put, List.setIfInBounds_toArray, List.set_cons_zero, List.set_cons_succ] at hK ⊢
          simp only [e1, e2] at hK ⊢
          have hq := HUp.out y (HBr.out.trans (hI.bl.mono HBr.out.size))
          go_wp2_with (go_at_call 40; with_reducible refine hq.mono ?_; rintro e z ⟨rfl, hw⟩; rw [hw]; clear hw)
          exact hK.out _ _ ⟨hI.bl, hI.v0, hI.v1, hI.v2, fun _ => rfl, hI.v4, hI.v5, hI.v6, hI.v7⟩
        case sz4 =>
          intro xs done y hI hd0 hup hdn K hK
          refine wpOp_go (o := ⟨some 29, _, _, _, _, _⟩) rfl rfl ?_
          simp only [putsF, List.foldl_cons, List.foldl_nil, Act.put, List.setIfInBounds_toArray, List.set_cons_zero, List.set_cons_succ] at hK ⊢
          go_wp2_with fail
          exact hK.out _ _ ⟨hI.bl, hI.v0, hI.v1, hI.v2, hI.v3, fun _ => rfl, hI.v5, hI.v6, hI.v7⟩
        case sz5 =>
          intro xs done y hI hd0 hup hdn K hK
          refine wpOp_go (o := ⟨some 30, _, _, _, _, _⟩) rfl rfl ?_
          simp only [putsF, List.foldl_cons, List.foldl_nil, Act.put, List.setIfInBounds_toArray, List.set_cons_zero, List.set_cons_succ] at hK ⊢
          go_wp2_with fail
          exact hK.out _ _ ⟨hI.bl, hI.v0, hI.v1, hI.v2, hI.v3, hI.v4, fun _ => rfl, hI.v6, hI.v7⟩
        case sz6 =>
          intro xs done y hI hd0 hup hdn K hK
          refine wpOp_go (o := ⟨some 31, _, _, _, _, _⟩) rfl rfl ?_
          have e0 := hI.v0 (hdn 0 (by kernel_rfl))
          have e3 := hI.v3 (hdn 3 (by kernel_rfl))
          have e4 := hI.v4 (hdn 4 (by kernel_rfl))
          have e5 := hI.v5 (hdn 5 (by kernel_rfl))
          simp only [putsF, List.foldl_cons, List.foldl_nil, Act.put, List.setIfInBounds_toArray, List.set_cons_zero, List.set_cons_succ] at hK ⊢
          simp only [e0, e3, e4, e5] at hK ⊢
          have hq := HF.out y (HBr.out.trans (hI.bl.mono HBr.out.size))
          go_wp2_with (go_at_call 52; refine hq.mono ?_; rintro e z ⟨rfl, hb4⟩)
          exact hK.out _ _ ⟨(hI.bl.trans (hb4.mono hI.bl.size)), hI.v0, hI.v1, hI.v2, hI.v3, hI.v4, hI.v5, fun _ => rfl, hI.v7⟩
        case sz7 =>
          intro xs done y hI hd0 hup hdn K hK
          refine wpOp_go (o := ⟨some 32, _, _, _, _, _⟩) rfl rfl ?_
          have e6 := hI.v6 (hdn 6 (by kernel_rfl))
          simp only [putsF, List.foldl_cons, List.foldl_nil, Act.put, List.setIfInBounds_toArray, List.set_cons_zero, List.set_cons_succ] at hK ⊢
          simp only [e6] at hK ⊢
          go_wp2_with fail
          exact hK.out _ _ ⟨hI.bl, hI.v0, hI.v1, hI.v2, hI.v3, hI.v4, hI.v5, hI.v6, fun _ => rfl⟩
        case finz =>
        intro xs done y hI hd
        have hby := hI.bl
        have e9 := hI.v7 (hd 7 (by decide))
        simp only [putsF, List.foldl_cons, List.foldl_nil, Act.put, List.setIfInBounds_toArray, List.set_cons_zero, List.set_cons_succ]
        simp only [e9]
        have HBy := Lib.hid hby
        clear hI hby hd e9
        obtain ⟨pb, hpb⟩ : ∃ pb, pb = !fb := ⟨_, rfl⟩
        rw [← hpb] at HP ⊢
        clear hpb
        cases pb with
        | false =>
          have En := Lib.hid (HNn.out (by simpa using HP.out))
          go_wp2_with fail
          go_roundw
          case rel => exact ⟨n + 1, by omega, by go_num, by rw [En.out]; exact own_below HOw.out HBy.out, HBL.out.trans (HBy.out.mono HBL.out.size)⟩
          case measure => simp [intOf]; omega
        | true =>
          have En := Lib.hid (HNy.out (by simpa using HP.out))
          have hwo := own_below HOw.out HBy.out
          have HBLy := Lib.hid (HBL.out.trans (HBy.out.mono HBL.out.size))
          have hws := HBLy.out.size
          generalize numsL (fun i => !frcS (upL l day) i (k.rules.getD i default) day) n = L at hnl hwo En
          have m1 : L.length + 1 ≤ maxLen := by unfold maxLen; omega
          have m2 : (L.length + 1) * 8 ≤ 140737488355328 := by omega
          go_wp2_with (at_builtin; refine wpList_app _ rfl _ _ 23 rfl W.heap.size 3 i0 (.int .i64 0) 1 8 Try.underlying23 hi hz0 hz1 hz2 rfl (by decide) (u9) (L).length ((L).map (Value.int .i64)) rfl ?qoa (y.heap.size + 1) (some ⟨y.heap.size, 0, none⟩) 1 1 ([(n : Int)].map (Value.int .i64)) rfl ?qra ?q1a m1 m2 ?qba ?_)
          case qoa => first | exact owns_alloc hwo _ | exact owns_alloc (owns_drewN hwo _) _ | exact owns_drewN (owns_alloc hwo _) _
          case qra =>
            refine Row.reads (t := 3) ?_ rfl (by omega)
            show Row _ _ _ [.int .i64 n]
            first | exact row_oneI _ _ _ _ (by simp; done) | exact (row_oneI _ _ _ _ (by simp; done)).drewN _
          case q1a => first | rfl | (intro u hu; simp at hu; subst hu; rfl)
          case qba => first | exact hws | (have := hws; omega) | (have := hws; simp; omega)
          intro v' w1 hown' hbel'
          have HB1 : Hid (Below W.heap.size W w1) := by
            refine Below.trans ?_ hbel'
            repeat (first | (with_reducible exact HBLy.out) | (with_reducible exact hws) | (with_reducible refine below_drewN ?_ _) | (with_reducible refine Below.alloc ?_ ?_ _) | (simp; omega))
          go_wp2_with fail
          go_roundw
          case rel => exact ⟨n + 1, by omega, by go_num, by rw [En.out]; simpa using hown', HB1.out⟩
          case measure => simp [intOf]; omega
      · have en : n = k.rules.length := by omega
        have n1 : ¬ (n : Int) < (k.rules.length : Int) := by omega
        obtain ⟨A2, c2, rfl, hr2⟩ := own_readsI hown
        rw [en] at hr2
        have HEn := Lib.hid en
        have HR2 := Lib.hid hr2
        clear en hlt hr2 hown hbel sB
        go_wp2_with fail
        refine bodyPost_ret (v := .tuple #[.slice A2 (numsL (fun i => !frcS (upL l day) i (k.rules.getD i default) day) n).length c2, .int .i64 0]) (by simp [results, Try.results21, go_sem]) rfl ?_
        rw [HEn.out]
        exact LsTo.ok HE0.out HBr.out HR2.out
  · have HN : Hid (E ≠ 0) := h0
    clear hB
    go_enter Try.func21, Try.ntmps21
    go_upto_region 1 with fail
    rw [← hW, ← hzb]
    clear hW hzb
    go_wp2_with (go_at_call 51; refine HCk.out.mono ?_; rintro e X ⟨rfl, hX⟩; have HX := Lib.hid (HBW.out.trans (hX.mono HBW.out.size)); clear hX)
    refine bodyPost_ret (v := .tuple #[.slice none 0 0, .int .i64 E]) (by simp [results, Try.results21, go_sem]) rfl ?_
    exact LsTo.bad HN.out HX.out
structure ReR (U : World) (k : BookZ) (R : BkR) (l : List EntZ) (A : Option Addr) (c n nl : Nat) (day : Int) (done : Nat → Bool) (xs : Nat → Value) (y : World) : Prop where
  bl : Below U.heap.size U y
  m6 : done 6 = true → ∃ A2 c2, xs 6 = .slice A2 nl c2
  v0 : done 0 = true → xs 0 = .agg #[.slice R.A1 k.rules.length R.c1, .slice R.A2 k.ranks.length R.c2, .slice R.A3 k.insured.length R.c3]
  v1 : done 1 = true → xs 1 = .slice A l.length c
  v2 : done 2 = true → xs 2 = .int .i64 day
  v3 : done 3 = true → xs 3 = .slice A (upL l day).length c
  v4 : done 4 = true → xs 4 = .int .i64 (n : Int)
  v5 : done 5 = true → xs 5 = .int .i64 day
  v7 : done 7 = true → xs 7 = .int .i64 (nl : Int)
  v8 : done 8 = true → xs 8 = .bool ((nl : Int) == 0)
set_option maxRecDepth 100000 in
set_option maxHeartbeats 4000000 in
theorem rReleased_any (k : BookZ) (R : BkR) (l : List EntZ) (A : Option Addr) (c B : Nat) (day : Int) (w : World) (hB : B ≤ w.heap.size) (hl : l.length ≤ maxLen) (hlc : l.length ≤ c) (hr : Reads w B 5 A l.length (entCells l)) (hk : BkIn w B k R) :
    Calls Try.prog 26 #[bookV k R, .slice A l.length c, .int .i64 day] w (LsTo w (onE k l day) (lsE (onE k l day) (relS k (upL l day) day))) := by
  obtain ⟨W, hW⟩ : ∃ W, W = w.alloc (.cells #[.slice R.A1 k.rules.length R.c1, .slice R.A2 k.ranks.length R.c2, .slice R.A3 k.insured.length R.c3] 25) := ⟨_, rfl⟩
  have bW : Below w.heap.size w W := by subst hW; exact (Below.refl _ _).alloc (Nat.le_refl _) _
  have r0 : Row W w.heap.size 25 [.slice R.A1 k.rules.length R.c1, .slice R.A2 k.ranks.length R.c2, .slice R.A3 k.insured.length R.c3] := by subst hW; exact Row.new w _ _
  obtain ⟨zb, hzb⟩ : ∃ z, z = w.heap.size := ⟨_, rfl⟩
  rw [← hzb] at r0
  have q0 : W.cell? ⟨zb, 0, none⟩ = some (.slice R.A1 k.rules.length R.c1) := r0.cell (j := 0) (by simp)
  have q1 : W.cell? ⟨zb, 1, none⟩ = some (.slice R.A2 k.ranks.length R.c2) := r0.cell (j := 1) (by simp)
  have q2 : W.cell? ⟨zb, 2, none⟩ = some (.slice R.A3 k.insured.length R.c3) := r0.cell (j := 2) (by simp)
  have lW := r0.lt
  have HBW := Lib.hid bW
  have HR0 := Lib.hid r0
  have HCk := Lib.hid (rday_any k R l A c B day W (Nat.le_trans hB bW.size) hl hlc (hr.below (bW.mono hB)) (hk.below (bW.mono hB)))
  have HUp : Hid (∀ (X : World), Below w.heap.size w X → Calls Try.prog 40 #[.slice A l.length c, .int .i64 day] X fun e w' => e = .returned (.slice A (upL l day).length c) ∧ w' = X) := fun X hX => rUpto_any l A c B day X (Nat.le_trans hB hX.size) hl hlc (hr.below (hX.mono hB))
  have hul := upL_len (l := l) (day := day)
  have HFo : Hid (LogOk k l → ∀ (i : Nat) (hi : i < k.insured.length) (X : World), Below w.heap.size w X → Calls Try.prog 57 #[bookV k R, .slice A (upL l day).length c, .int .i64 (i : Int), .int .i64 day] X fun e w' => Below X.heap.size X w' ∧ ∃ A2 c2, e = .returned (.slice A2 (reaS k (upL l day) i day).length c2)) := fun hok i hi X hX => (reasons_any k R (upL l day) A c B i day X (Nat.le_trans hB hX.size) (by have := hok.len; omega) (ents_take (hr.below (hX.mono hB)) (upN_le l day)) (hk.below (hX.mono hB)) hi (hok.up day).sev).mono fun e w' ⟨h1, A2, c2, h2, _⟩ => ⟨h1, A2, c2, h2⟩
  have HOk := Lib.hid (fun h => onE_ok (k := k) (l := l) (day := day) h)
  have hl1 := hk.l1
  have hl3 := hk.l3
  unfold maxLen at hl1 hl3
  obtain ⟨i0, hi, hz0, hz1, hz2⟩ := info_parts Try.info_intI
  generalize onE k l day = E at HCk HOk ⊢
  unfold bookV at *
  clear bW r0 hk hr
  by_cases h0 : E = 0
  · have hok := HOk.out h0
    have HE0 : Hid (E = 0) := h0
    rw [h0] at HCk
    rw [rel_is hok.1 hok.2]
    have hb100 : k.insured.length ≤ 1000 := by have := book_lens hok.1.book; omega
    have HFk := Lib.hid (HFo.out hok.1)
    clear h0 HOk
    go_enter Try.func26, Try.ntmps26
    go_upto_region 1 with fail
    rw [← hW, ← hzb]
    clear hW hzb
    go_upto_region 4 with (go_at_call 51; refine HCk.out.mono ?_; rintro e X ⟨rfl, hX⟩)
    have HX := Lib.hid (HBW.out.trans (hX.mono HBW.out.size))
    have HS0 := Lib.hid (HR0.out.below hX HR0.out.lt)
    have HWX := Lib.hid hX
    clear hX HCk
    go_wp2_with fail
    go_loopw [9, 10] (fun v q wr => ∃ n : Nat, n ≤ k.insured.length ∧ q = .int .i64 n ∧ wr.ownsRow W.heap.size 3 1 v (numsL (relQ k (upL l day) day) n).length ((numsL (relQ k (upL l day) day) n).map (Value.int .i64)) ∧ Below W.heap.size W wr) (fun _ q _ => k.insured.length - (intOf q).toNat)
    case atStart => exact ⟨0, Nat.zero_le _, rfl, owns_nil _ _ _ _, HWX.out⟩
    case round =>
      obtain ⟨n, hn, rfl, hown, hbel⟩ := hrel
      have HBr := Lib.hid (HBW.out.trans (hbel.mono HBW.out.size))
      have HBL := Lib.hid hbel
      have sB := HR0.out.below hbel HR0.out.lt
      have c0 : wr.cell? ⟨zb, 0, none⟩ = some (.slice R.A1 k.rules.length R.c1) := sB.cell (j := 0) (by simp)
      have c1 : wr.cell? ⟨zb, 1, none⟩ = some (.slice R.A2 k.ranks.length R.c2) := sB.cell (j := 1) (by simp)
      have c2 : wr.cell? ⟨zb, 2, none⟩ = some (.slice R.A3 k.insured.length R.c3) := sB.cell (j := 2) (by simp)
      have lB := sB.lt
      have HSB := Lib.hid sB
      have HOw := Lib.hid hown
      by_cases hlt : n < k.insured.length
      · have n1 : (n : Int) < (k.insured.length : Int) := by omega
        have n0 : ¬ (n : Int) < 0 := by omega
        have en : IntKind.i64.wrap ((n : Int) + 1) = (n : Int) + 1 := IntWalk.i64_in _ (by omega)
        have HNy := Lib.hid (fun h => numsL_yes (p := relQ k (upL l day) day) (k := n) h)
        have HNn := Lib.hid (fun h => numsL_no (p := relQ k (upL l day) day) (k := n) h)
        have hnl := numsL_len (relQ k (upL l day) day) n
        have HF := Lib.hid (HFk.out n hlt)
        have HP : Hid (relQ k (upL l day) day n = decide ((reaS k (upL l day) n day).length = 0)) := rfl
        generalize (reaS k (upL l day) n day).length = nl at HF HP
        clear hown hbel sB
        go_upto_region 8 with fail
        refine wp_region_stepsY 9 (ord := [0, 1, 2, 3, 4, 5, 6, 7, 8]) (ds := [(0, 25), (1, 26), (2, 27), (3, 28), (4, 29), (5, 30), (6, 31), (7, 32), (8, 33)]) (I := ReR wr k R l A c n nl day) (by kernel_rfl) (by kernel_rfl) rfl ?iz (StepsY.cons (k := 0) (k' := 1) (o := ⟨some 25, _, _, _, _, _⟩) rfl rfl ?sz0 (StepsY.cons (k := 1) (k' := 2) (o := ⟨some 26, _, _, _, _, _⟩) rfl rfl ?sz1 (StepsY.cons (k := 2) (k' := 3) (o := ⟨some 27, _, _, _, _, _⟩) rfl rfl ?sz2 (StepsY.cons (k := 3) (k' := 4) (o := ⟨some 28, _, _, _, _, _⟩) rfl rfl ?sz3 (StepsY.cons (k := 4) (k' := 5) (o := ⟨some 29, _, _, _, _, _⟩) rfl rfl ?sz4 (StepsY.cons (k := 5) (k' := 6) (o := ⟨some 30, _, _, _, _, _⟩) rfl rfl ?sz5 (StepsY.cons (k := 6) (k' := 7) (o := ⟨some 31, _, _, _, _, _⟩) rfl rfl ?sz6 (StepsY.cons (k := 7) (k' := 8) (o := ⟨some 32, _, _, _, _, _⟩) rfl rfl ?sz7 (StepsY.cons (k := 8) (k' := 9) (o := ⟨some 33, _, _, _, _, _⟩) rfl rfl ?sz8 StepsY.nil))))))))) ?finz
        case iz => exact fun xs => ⟨(Below.refl _ _).drew, fun h => Bool.noConfusion h, fun h => Bool.noConfusion h, fun h => Bool.noConfusion h, fun h => Bool.noConfusion h, fun h => Bool.noConfusion h, fun h => Bool.noConfusion h, fun h => Bool.noConfusion h, fun h => Bool.noConfusion h, fun h => Bool.noConfusion h⟩
        case sz0 =>
          intro xs done y hI hd0 hup hdn K hK
          refine wpOp_go (o := ⟨some 25, _, _, _, _, _⟩) rfl rfl ?_
          simp only [putsF, List.foldl_cons, List.foldl_nil, Act.put, List.setIfInBounds_toArray, List.set_cons_zero, List.set_cons_succ] at hK ⊢
          have rG := HSB.out.below hI.bl HSB.out.lt
          have lG := rG.lt
          have g0 : y.cell? ⟨zb, 0, none⟩ = some (.slice R.A1 k.rules.length R.c1) := rG.cell (j := 0) (by simp)
          have g1 : y.cell? ⟨zb, 1, none⟩ = some (.slice R.A2 k.ranks.length R.c2) := rG.cell (j := 1) (by simp)
          have g2 : y.cell? ⟨zb, 2, none⟩ = some (.slice R.A3 k.insured.length R.c3) := rG.cell (j := 2) (by simp)
          go_wp2_with fail
          exact hK.out _ _ ⟨hI.bl, hI.m6, fun _ => rfl, hI.v1, hI.v2, hI.v3, hI.v4, hI.v5, hI.v7, hI.v8⟩
        case sz1 =>
          intro xs done y hI hd0 hup hdn K hK
          refine wpOp_go (o := ⟨some 26, _, _, _, _, _⟩) rfl rfl ?_
          simp only [putsF, List.foldl_cons, List.foldl_nil, Act.put, List.setIfInBounds_toArray, List.set_cons_zero, List.set_cons_succ] at hK ⊢
          go_wp2_with fail
          exact hK.out _ _ ⟨hI.bl, hI.m6, hI.v0, fun _ => rfl, hI.v2, hI.v3, hI.v4, hI.v5, hI.v7, hI.v8⟩
        case sz2 =>
          intro xs done y hI hd0 hup hdn K hK
          refine wpOp_go (o := ⟨some 27, _, _, _, _, _⟩) rfl rfl ?_
          simp only [putsF, List.foldl_cons, List.foldl_nil, Act.put, List.setIfInBounds_toArray, List.set_cons_zero, List.set_cons_succ] at hK ⊢
          go_wp2_with fail
          exact hK.out _ _ ⟨hI.bl, hI.m6, hI.v0, hI.v1, fun _ => rfl, hI.v3, hI.v4, hI.v5, hI.v7, hI.v8⟩
        case sz3 =>
          intro xs done y hI hd0 hup hdn K hK
          refine wpOp_go (o := ⟨some 28, _, _, _, _, _⟩) rfl rfl ?_
          have e1 := hI.v1 (hdn 1 (by kernel_rfl))
          have e2 := hI.v2 (hdn 2 (by kernel_rfl))
          simp only [putsF, List.foldl_cons, List.foldl_nil, Act.put, List.setIfInBounds_toArray, List.set_cons_zero, List.set_cons_succ] at hK ⊢
          simp only [e1, e2] at hK ⊢
          have hq := HUp.out y (HBr.out.trans (hI.bl.mono HBr.out.size))
          go_wp2_with (go_at_call 40; with_reducible refine hq.mono ?_; rintro e z ⟨rfl, hw⟩; rw [hw]; clear hw)
          exact hK.out _ _ ⟨hI.bl, hI.m6, hI.v0, hI.v1, hI.v2, fun _ => rfl, hI.v4, hI.v5, hI.v7, hI.v8⟩
        case sz4 =>
          intro xs done y hI hd0 hup hdn K hK
          refine wpOp_go (o := ⟨some 29, _, _, _, _, _⟩) rfl rfl ?_
          simp only [putsF, List.foldl_cons, List.foldl_nil, Act.put, List.setIfInBounds_toArray, List.set_cons_zero, List.set_cons_succ] at hK ⊢
          go_wp2_with fail
          exact hK.out _ _ ⟨hI.bl, hI.m6, hI.v0, hI.v1, hI.v2, hI.v3, fun _ => rfl, hI.v5, hI.v7, hI.v8⟩
        case sz5 =>
          intro xs done y hI hd0 hup hdn K hK
          refine wpOp_go (o := ⟨some 30, _, _, _, _, _⟩) rfl rfl ?_
          simp only [putsF, List.foldl_cons, List.foldl_nil, Act.put, List.setIfInBounds_toArray, List.set_cons_zero, List.set_cons_succ] at hK ⊢
          go_wp2_with fail
          exact hK.out _ _ ⟨hI.bl, hI.m6, hI.v0, hI.v1, hI.v2, hI.v3, hI.v4, fun _ => rfl, hI.v7, hI.v8⟩
        case sz6 =>
          intro xs done y hI hd0 hup hdn K hK
          refine wpOp_go (o := ⟨some 31, _, _, _, _, _⟩) rfl rfl ?_
          have e0 := hI.v0 (hdn 0 (by kernel_rfl))
          have e3 := hI.v3 (hdn 3 (by kernel_rfl))
          have e4 := hI.v4 (hdn 4 (by kernel_rfl))
          have e5 := hI.v5 (hdn 5 (by kernel_rfl))
          simp only [putsF, List.foldl_cons, List.foldl_nil, Act.put, List.setIfInBounds_toArray, List.set_cons_zero, List.set_cons_succ] at hK ⊢
          simp only [e0, e3, e4, e5] at hK ⊢
          have hq := HF.out y (HBr.out.trans (hI.bl.mono HBr.out.size))
          go_wp2_with (go_at_call 57; refine hq.mono ?_; rintro e z ⟨hb4, A2, c2, rfl⟩)
          exact hK.out _ _ ⟨(hI.bl.trans (hb4.mono hI.bl.size)), (fun _ => ⟨_, _, rfl⟩), hI.v0, hI.v1, hI.v2, hI.v3, hI.v4, hI.v5, hI.v7, hI.v8⟩
        case sz7 =>
          intro xs done y hI hd0 hup hdn K hK
          refine wpOp_go (o := ⟨some 32, _, _, _, _, _⟩) rfl rfl ?_
          have hm6 := hI.m6 (hdn 6 (by kernel_rfl))
          simp only [putsF, List.foldl_cons, List.foldl_nil, Act.put, List.setIfInBounds_toArray, List.set_cons_zero, List.set_cons_succ] at hK ⊢
          obtain ⟨A2, c2, e6⟩ := hm6
          simp only [e6] at hK ⊢
          go_wp2_with fail
          exact hK.out _ _ ⟨hI.bl, hI.m6, hI.v0, hI.v1, hI.v2, hI.v3, hI.v4, hI.v5, fun _ => rfl, hI.v8⟩
        case sz8 =>
          intro xs done y hI hd0 hup hdn K hK
          refine wpOp_go (o := ⟨some 33, _, _, _, _, _⟩) rfl rfl ?_
          have e7 := hI.v7 (hdn 7 (by kernel_rfl))
          simp only [putsF, List.foldl_cons, List.foldl_nil, Act.put, List.setIfInBounds_toArray, List.set_cons_zero, List.set_cons_succ] at hK ⊢
          simp only [e7] at hK ⊢
          go_wp2_with fail
          exact hK.out _ _ ⟨hI.bl, hI.m6, hI.v0, hI.v1, hI.v2, hI.v3, hI.v4, hI.v5, hI.v7, fun _ => rfl⟩
        case finz =>
        intro xs done y hI hd
        have hby := hI.bl
        have e9 := hI.v8 (hd 8 (by decide))
        simp only [putsF, List.foldl_cons, List.foldl_nil, Act.put, List.setIfInBounds_toArray, List.set_cons_zero, List.set_cons_succ]
        simp only [e9]
        have HBy := Lib.hid hby
        clear hI hby hd e9
        obtain ⟨pb, hpb⟩ : ∃ pb, pb = ((nl : Int) == 0) := ⟨_, rfl⟩
        rw [show decide (nl = 0) = ((nl : Int) == 0) by rw [Bool.eq_iff_iff]; simp, ← hpb] at HP
        rw [← hpb]
        clear hpb
        cases pb with
        | false =>
          have En := Lib.hid (HNn.out (by simpa using HP.out))
          go_wp2_with fail
          go_roundw
          case rel => exact ⟨n + 1, by omega, by go_num, by rw [En.out]; exact own_below HOw.out HBy.out, HBL.out.trans (HBy.out.mono HBL.out.size)⟩
          case measure => simp [intOf]; omega
        | true =>
          have En := Lib.hid (HNy.out (by simpa using HP.out))
          have hwo := own_below HOw.out HBy.out
          have HBLy := Lib.hid (HBL.out.trans (HBy.out.mono HBL.out.size))
          have hws := HBLy.out.size
          generalize numsL (relQ k (upL l day) day) n = L at hnl hwo En
          have m1 : L.length + 1 ≤ maxLen := by unfold maxLen; omega
          have m2 : (L.length + 1) * 8 ≤ 140737488355328 := by omega
          go_wp2_with (at_builtin; refine wpList_app _ rfl _ _ 23 rfl W.heap.size 3 i0 (.int .i64 0) 1 8 Try.underlying23 hi hz0 hz1 hz2 rfl (by decide) (u9) (L).length ((L).map (Value.int .i64)) rfl ?qoa (y.heap.size + 1) (some ⟨y.heap.size, 0, none⟩) 1 1 ([(n : Int)].map (Value.int .i64)) rfl ?qra ?q1a m1 m2 ?qba ?_)
          case qoa => first | exact owns_alloc hwo _ | exact owns_alloc (owns_drewN hwo _) _ | exact owns_drewN (owns_alloc hwo _) _
          case qra =>
            refine Row.reads (t := 3) ?_ rfl (by omega)
            show Row _ _ _ [.int .i64 n]
            first | exact row_oneI _ _ _ _ (by simp; done) | exact (row_oneI _ _ _ _ (by simp; done)).drewN _
          case q1a => first | rfl | (intro u hu; simp at hu; subst hu; rfl)
          case qba => first | exact hws | (have := hws; omega) | (have := hws; simp; omega)
          intro v' w1 hown' hbel'
          have HB1 : Hid (Below W.heap.size W w1) := by
            refine Below.trans ?_ hbel'
            repeat (first | (with_reducible exact HBLy.out) | (with_reducible exact hws) | (with_reducible refine below_drewN ?_ _) | (with_reducible refine Below.alloc ?_ ?_ _) | (simp; omega))
          go_wp2_with fail
          go_roundw
          case rel => exact ⟨n + 1, by omega, by go_num, by rw [En.out]; simpa using hown', HB1.out⟩
          case measure => simp [intOf]; omega
      · have en : n = k.insured.length := by omega
        have n1 : ¬ (n : Int) < (k.insured.length : Int) := by omega
        obtain ⟨A2, c2, rfl, hr2⟩ := own_readsI hown
        rw [en] at hr2
        have HEn := Lib.hid en
        have HR2 := Lib.hid hr2
        clear en hlt hr2 hown hbel sB
        go_wp2_with fail
        refine bodyPost_ret (v := .tuple #[.slice A2 (numsL (relQ k (upL l day) day) n).length c2, .int .i64 0]) (by simp [results, Try.results26, go_sem]) rfl ?_
        rw [HEn.out]
        exact LsTo.ok HE0.out HBr.out HR2.out
  · have HN : Hid (E ≠ 0) := h0
    clear hB
    go_enter Try.func26, Try.ntmps26
    go_upto_region 1 with fail
    rw [← hW, ← hzb]
    clear hW hzb
    go_wp2_with (go_at_call 51; refine HCk.out.mono ?_; rintro e X ⟨rfl, hX⟩; have HX := Lib.hid (HBW.out.trans (hX.mono HBW.out.size)); clear hX)
    refine bodyPost_ret (v := .tuple #[.slice none 0 0, .int .i64 E]) (by simp [results, Try.results26, go_sem]) rfl ?_
    exact LsTo.bad HN.out HX.out
set_option maxRecDepth 100000 in
set_option maxHeartbeats 4000000 in
theorem rOpen_any (k : BookZ) (R : BkR) (l : List EntZ) (A : Option Addr) (c B : Nat) (day : Int) (w : World) (hB : B ≤ w.heap.size) (hl : l.length ≤ maxLen) (hlc : l.length ≤ c) (hr : Reads w B 5 A l.length (entCells l)) (hk : BkIn w B k R) :
    Calls Try.prog 24 #[bookV k R, .slice A l.length c, .int .i64 day] w (LsTo w (onE k l day) (lsE (onE k l day) (openL (upL l day)))) := by
  obtain ⟨W, hW⟩ : ∃ W, W = w.alloc (.cells #[.slice R.A1 k.rules.length R.c1, .slice R.A2 k.ranks.length R.c2, .slice R.A3 k.insured.length R.c3] 25) := ⟨_, rfl⟩
  have bW : Below w.heap.size w W := by subst hW; exact (Below.refl _ _).alloc (Nat.le_refl _) _
  have r0 : Row W w.heap.size 25 [.slice R.A1 k.rules.length R.c1, .slice R.A2 k.ranks.length R.c2, .slice R.A3 k.insured.length R.c3] := by subst hW; exact Row.new w _ _
  obtain ⟨zb, hzb⟩ : ∃ z, z = w.heap.size := ⟨_, rfl⟩
  rw [← hzb] at r0
  have q0 : W.cell? ⟨zb, 0, none⟩ = some (.slice R.A1 k.rules.length R.c1) := r0.cell (j := 0) (by simp)
  have q1 : W.cell? ⟨zb, 1, none⟩ = some (.slice R.A2 k.ranks.length R.c2) := r0.cell (j := 1) (by simp)
  have q2 : W.cell? ⟨zb, 2, none⟩ = some (.slice R.A3 k.insured.length R.c3) := r0.cell (j := 2) (by simp)
  have lW := r0.lt
  have HBW := Lib.hid bW
  have HR0 := Lib.hid r0
  have HCk := Lib.hid (rday_any k R l A c B day W (Nat.le_trans hB bW.size) hl hlc (hr.below (bW.mono hB)) (hk.below (bW.mono hB)))
  have HUp : Hid (∀ (X : World), Below w.heap.size w X → Calls Try.prog 40 #[.slice A l.length c, .int .i64 day] X fun e w' => e = .returned (.slice A (upL l day).length c) ∧ w' = X) := fun X hX => rUpto_any l A c B day X (Nat.le_trans hB hX.size) hl hlc (hr.below (hX.mono hB))
  have hul := upL_len (l := l) (day := day)
  have HFo : Hid (∀ (i : Nat) (X : World), Below w.heap.size w X → Calls Try.prog 54 #[.slice A (upL l day).length c, .int .i64 (i : Int)] X fun e w' => e = .returned (.bool (openS (upL l day) i)) ∧ w' = X) := fun i X hX => ropen_any (upL l day) A c B i X (Nat.le_trans hB hX.size) (Nat.le_trans hul hl) (ents_take (hr.below (hX.mono hB)) (upN_le l day))
  have HOk := Lib.hid (fun h => onE_ok (k := k) (l := l) (day := day) h)
  have hl1 := hk.l1
  have hl3 := hk.l3
  unfold maxLen at hl1 hl3
  obtain ⟨i0, hi, hz0, hz1, hz2⟩ := info_parts Try.info_intI
  generalize onE k l day = E at HCk HOk ⊢
  unfold bookV at *
  clear bW r0 hk hr
  by_cases h0 : E = 0
  · have hok := HOk.out h0
    have HE0 : Hid (E = 0) := h0
    rw [h0] at HCk
    rw [show openL (upL l day) = numsL (fun i => openS (upL l day) (i : Int)) (upL l day).length from rfl]
    have hb100 : (upL l day).length ≤ 1000 := by have := hok.1.len; omega
    clear h0 HOk
    go_enter Try.func24, Try.ntmps24
    go_upto_region 1 with fail
    rw [← hW, ← hzb]
    clear hW hzb
    go_upto_region 4 with (go_at_call 51; refine HCk.out.mono ?_; rintro e X ⟨rfl, hX⟩)
    have HX := Lib.hid (HBW.out.trans (hX.mono HBW.out.size))
    have HS0 := Lib.hid (HR0.out.below hX HR0.out.lt)
    have HWX := Lib.hid hX
    clear hX HCk
    have HU1 := Lib.hid (HUp.out X HX.out)
    go_upto_region 6 with (go_at_call 40; with_reducible refine HU1.out.mono ?_; rintro e z ⟨rfl, hw⟩; rw [hw]; clear hw)
    go_wp2_with fail
    go_loopw [9, 11] (fun v q wr => ∃ n : Nat, n ≤ (upL l day).length ∧ q = .int .i64 n ∧ wr.ownsRow W.heap.size 3 1 v (numsL (fun i => openS (upL l day) (i : Int)) n).length ((numsL (fun i => openS (upL l day) (i : Int)) n).map (Value.int .i64)) ∧ Below W.heap.size W wr) (fun _ q _ => (upL l day).length - (intOf q).toNat)
    case atStart => exact ⟨0, Nat.zero_le _, rfl, owns_nil _ _ _ _, HWX.out⟩
    case round =>
      obtain ⟨n, hn, rfl, hown, hbel⟩ := hrel
      have HBr := Lib.hid (HBW.out.trans (hbel.mono HBW.out.size))
      have HBL := Lib.hid hbel
      have sB := HR0.out.below hbel HR0.out.lt
      have c0 : wr.cell? ⟨zb, 0, none⟩ = some (.slice R.A1 k.rules.length R.c1) := sB.cell (j := 0) (by simp)
      have c1 : wr.cell? ⟨zb, 1, none⟩ = some (.slice R.A2 k.ranks.length R.c2) := sB.cell (j := 1) (by simp)
      have c2 : wr.cell? ⟨zb, 2, none⟩ = some (.slice R.A3 k.insured.length R.c3) := sB.cell (j := 2) (by simp)
      have lB := sB.lt
      have HSB := Lib.hid sB
      have HOw := Lib.hid hown
      by_cases hlt : n < (upL l day).length
      · have n1 : (n : Int) < ((upL l day).length : Int) := by omega
        have n0 : ¬ (n : Int) < 0 := by omega
        have en : IntKind.i64.wrap ((n : Int) + 1) = (n : Int) + 1 := IntWalk.i64_in _ (by omega)
        have HNy := Lib.hid (fun h => numsL_yes (p := fun i => openS (upL l day) (i : Int)) (k := n) h)
        have HNn := Lib.hid (fun h => numsL_no (p := fun i => openS (upL l day) (i : Int)) (k := n) h)
        have hnl := numsL_len (fun i => openS (upL l day) (i : Int)) n
        have HF := Lib.hid (HFo.out n wr HBr.out)
        have HP : Hid ((fun i => openS (upL l day) (i : Int)) n = openS (upL l day) (n : Int)) := rfl
        generalize openS (upL l day) (n : Int) = pb at HF HP
        have HBy : Hid (Below wr.heap.size wr wr) := Below.refl _ _
        clear hown hbel sB
        obtain ⟨y, rfl⟩ : ∃ y, y = wr := ⟨_, rfl⟩
        cases pb with
        | false =>
          have En := Lib.hid (HNn.out (by simpa using HP.out))
          go_wp2_with (go_at_call 54; with_reducible refine HF.out.mono ?_; rintro e w' ⟨rfl, hw⟩; rw [hw]; clear hw)
          go_roundw
          case rel => exact ⟨n + 1, by omega, by go_num, by rw [En.out]; exact own_below HOw.out HBy.out, HBL.out.trans (HBy.out.mono HBL.out.size)⟩
          case measure => simp [intOf]; omega
        | true =>
          have En := Lib.hid (HNy.out (by simpa using HP.out))
          have hwo := own_below HOw.out HBy.out
          have HBLy := Lib.hid (HBL.out.trans (HBy.out.mono HBL.out.size))
          have hws := HBLy.out.size
          generalize numsL (fun i => openS (upL l day) (i : Int)) n = L at hnl hwo En
          have m1 : L.length + 1 ≤ maxLen := by unfold maxLen; omega
          have m2 : (L.length + 1) * 8 ≤ 140737488355328 := by omega
          go_upto_region 10 with (go_at_call 54; with_reducible refine HF.out.mono ?_; rintro e w' ⟨rfl, hw⟩; rw [hw]; clear hw)
          go_wp2_with (at_builtin; refine wpList_app _ rfl _ _ 23 rfl W.heap.size 3 i0 (.int .i64 0) 1 8 Try.underlying23 hi hz0 hz1 hz2 rfl (by decide) (u9) (L).length ((L).map (Value.int .i64)) rfl ?qoa (y.heap.size + 1) (some ⟨y.heap.size, 0, none⟩) 1 1 ([(n : Int)].map (Value.int .i64)) rfl ?qra ?q1a m1 m2 ?qba ?_)
          case qoa => first | exact owns_alloc hwo _ | exact owns_alloc (owns_drewN hwo _) _ | exact owns_drewN (owns_alloc hwo _) _
          case qra =>
            refine Row.reads (t := 3) ?_ rfl (by omega)
            show Row _ _ _ [.int .i64 n]
            first | exact row_oneI _ _ _ _ (by simp; done) | exact (row_oneI _ _ _ _ (by simp; done)).drewN _
          case q1a => first | rfl | (intro u hu; simp at hu; subst hu; rfl)
          case qba => first | exact hws | (have := hws; omega) | (have := hws; simp; omega)
          intro v' w1 hown' hbel'
          have HB1 : Hid (Below W.heap.size W w1) := by
            refine Below.trans ?_ hbel'
            repeat (first | (with_reducible exact HBLy.out) | (with_reducible exact hws) | (with_reducible refine below_drewN ?_ _) | (with_reducible refine Below.alloc ?_ ?_ _) | (simp; omega))
          go_wp2_with fail
          go_roundw
          case rel => exact ⟨n + 1, by omega, by go_num, by rw [En.out]; simpa using hown', HB1.out⟩
          case measure => simp [intOf]; omega
      · have en : n = (upL l day).length := by omega
        have n1 : ¬ (n : Int) < ((upL l day).length : Int) := by omega
        obtain ⟨A2, c2, rfl, hr2⟩ := own_readsI hown
        rw [en] at hr2
        have HEn := Lib.hid en
        have HR2 := Lib.hid hr2
        clear en hlt hr2 hown hbel sB
        go_wp2_with fail
        refine bodyPost_ret (v := .tuple #[.slice A2 (numsL (fun i => openS (upL l day) (i : Int)) n).length c2, .int .i64 0]) (by simp [results, Try.results24, go_sem]) rfl ?_
        rw [HEn.out]
        exact LsTo.ok HE0.out HBr.out HR2.out
  · have HN : Hid (E ≠ 0) := h0
    clear hB
    go_enter Try.func24, Try.ntmps24
    go_upto_region 1 with fail
    rw [← hW, ← hzb]
    clear hW hzb
    go_wp2_with (go_at_call 51; refine HCk.out.mono ?_; rintro e X ⟨rfl, hX⟩; have HX := Lib.hid (HBW.out.trans (hX.mono HBW.out.size)); clear hX)
    refine bodyPost_ret (v := .tuple #[.slice none 0 0, .int .i64 E]) (by simp [results, Try.results24, go_sem]) rfl ?_
    exact LsTo.bad HN.out HX.out
end Go.Proofs.Ytaocgkmobfocjaa
