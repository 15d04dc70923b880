/- Contracts of the specification's Why and of far. Conditions: a book and entries that read as data. -/
import Derived.Test.YtaocgkmobfocjaaIac
import Derived.Test.YtaocgkmobfocjaaInw
namespace Go.Proofs.Ytaocgkmobfocjaa
open Go.RowKit

structure WyR (U : World) (k : BookZ) (R : BkR) (l : List EntZ) (A : Option Addr) (c : Nat) (ride day : Int) (L : List Int) (done : Nat → Bool) (xs : Nat → Value) (y : World) : Prop where
  bl : Below U.heap.size U y
  m6 : done 6 = true → ∃ A2 c2, xs 6 = .slice A2 L.length c2 ∧ Reads y y.heap.size 1 A2 L.length (L.map (Value.int .i64))
  m7 : done 7 = true → ∃ A2 c2, xs 7 = .slice A2 L.length c2 ∧ Reads y y.heap.size 1 A2 L.length (L.map (Value.int .i64))
  v0 : done 0 = true → xs 0 = .agg #[.slice R.A1 k.rules.length R.c1, .slice R.A2 k.ranks.length R.c2, .slice R.A3 k.insured.length R.c3]
  v1 : done 1 = true → xs 1 = .slice A l.length c
  v2 : done 2 = true → xs 2 = .int .i64 day
  v3 : done 3 = true → xs 3 = .slice A (upL l day).length c
  v4 : done 4 = true → xs 4 = .int .i64 ride
  v5 : done 5 = true → xs 5 = .int .i64 day
  v8 : done 8 = true → xs 8 = .int .i64 0
set_option maxRecDepth 100000 in
set_option maxHeartbeats 4000000 in
theorem rWhy_any (k : BookZ) (R : BkR) (l : List EntZ) (A : Option Addr) (c B : Nat) (ride day : Int) (w : World) (hB : B ≤ w.heap.size) (hl : l.length ≤ maxLen) (hlc : l.length ≤ c) (hr : Reads w B 5 A l.length (entCells l)) (hk : BkIn w B k R) :
    Calls Try.prog 28 #[bookV k R, .slice A l.length c, .int .i64 ride, .int .i64 day] w (LsTo w (rideE k l ride day) (lsE (rideE k l ride day) (whyS k (upL l day) ride.toNat day))) := by
  obtain ⟨W, hW⟩ : ∃ W, W = w.alloc (.cells #[.slice R.A1 k.rules.length R.c1, .slice R.A2 k.ranks.length R.c2, .slice R.A3 k.insured.length R.c3] 25) := ⟨_, rfl⟩
  have bW : Below w.heap.size w W := by subst hW; exact (Below.refl _ _).alloc (Nat.le_refl _) _
  have r0 : Row W w.heap.size 25 [.slice R.A1 k.rules.length R.c1, .slice R.A2 k.ranks.length R.c2, .slice R.A3 k.insured.length R.c3] := by subst hW; exact Row.new w _ _
  obtain ⟨zb, hzb⟩ : ∃ z, z = w.heap.size := ⟨_, rfl⟩
  rw [← hzb] at r0
  have q0 : W.cell? ⟨zb, 0, none⟩ = some (.slice R.A1 k.rules.length R.c1) := r0.cell (j := 0) (by simp)
  have q1 : W.cell? ⟨zb, 1, none⟩ = some (.slice R.A2 k.ranks.length R.c2) := r0.cell (j := 1) (by simp)
  have q2 : W.cell? ⟨zb, 2, none⟩ = some (.slice R.A3 k.insured.length R.c3) := r0.cell (j := 2) (by simp)
  have lW := r0.lt
  have HBW := Lib.hid bW
  have HR0 := Lib.hid r0
  have HCk := Lib.hid (rride_any k R l A c B ride day W (Nat.le_trans hB bW.size) hl hlc (hr.below (bW.mono hB)) (hk.below (bW.mono hB)))
  have HUp : Hid (∀ (X : World), Below w.heap.size w X → Calls Try.prog 40 #[.slice A l.length c, .int .i64 day] X fun e w' => e = .returned (.slice A (upL l day).length c) ∧ w' = X) := fun X hX => rUpto_any l A c B day X (Nat.le_trans hB hX.size) hl hlc (hr.below (hX.mono hB))
  have hul := upL_len (l := l) (day := day)
  have HFo : Hid (LogOk k l → ∀ (i : Nat) (hi : i < k.insured.length) (X : World), Below w.heap.size w X → Calls Try.prog 57 #[bookV k R, .slice A (upL l day).length c, .int .i64 (i : Int), .int .i64 day] X (NumsTo X (reaS k (upL l day) i day))) := fun hok i hi X hX => reasons_any k R (upL l day) A c B i day X (Nat.le_trans hB hX.size) (by have := hok.len; omega) (ents_take (hr.below (hX.mono hB)) (upN_le l day)) (hk.below (hX.mono hB)) hi (hok.up day).sev
  have HEo := Lib.hid (fun h => rideE_ok (k := k) (l := l) (ride := ride) (day := day) h)
  generalize rideE k l ride day = E at HCk HEo ⊢
  unfold bookV at *
  clear bW r0 hk hr
  by_cases h0 : E = 0
  · have hok := HEo.out h0
    have HE0 : Hid (E = 0) := h0
    rw [h0] at HCk
    obtain ⟨i, hi⟩ : ∃ i, i = ride.toNat := ⟨_, rfl⟩
    have hrn : ride = (i : Int) := by omega
    have hil : i < k.insured.length := by omega
    rw [← hi]
    have HF0 := Lib.hid (HFo.out hok.1 i hil)
    rw [rea_why (hok.1.up day) hok.2.1 up_day] at HF0
    rw [← hrn] at HF0
    generalize whyS k (upL l day) i day = L at HF0 ⊢
    have HF := HF0
    clear h0 hi hil hrn HFo hok HEo HF0
    go_enter Try.func28, Try.ntmps28
    go_upto_region 1 with fail
    rw [← hW, ← hzb]
    clear hW hzb
    go_upto_region 4 with (go_at_call 59; refine HCk.out.mono ?_; rintro e wr ⟨rfl, hX⟩)
    have HBr := Lib.hid (HBW.out.trans (hX.mono HBW.out.size))
    have HSB := Lib.hid (HR0.out.below hX HR0.out.lt)
    clear hX HCk q0 q1 q2 lW
    refine wp_region_stepsY 9 (ord := [0, 1, 2, 3, 4, 5, 6, 7, 8]) (ds := [(0, 19), (1, 20), (2, 21), (3, 22), (4, 23), (5, 24), (6, 25), (7, 8), (8, 9)]) (I := WyR wr k R l A c ride day L) (by kernel_rfl) (by kernel_rfl) rfl ?iz (StepsY.cons (k := 0) (k' := 1) (o := ⟨some 19, _, _, _, _, _⟩) rfl rfl ?sz0 (StepsY.cons (k := 1) (k' := 2) (o := ⟨some 20, _, _, _, _, _⟩) rfl rfl ?sz1 (StepsY.cons (k := 2) (k' := 3) (o := ⟨some 21, _, _, _, _, _⟩) rfl rfl ?sz2 (StepsY.cons (k := 3) (k' := 4) (o := ⟨some 22, _, _, _, _, _⟩) rfl rfl ?sz3 (StepsY.cons (k := 4) (k' := 5) (o := ⟨some 23, _, _, _, _, _⟩) rfl rfl ?sz4 (StepsY.cons (k := 5) (k' := 6) (o := ⟨some 24, _, _, _, _, _⟩) rfl rfl ?sz5 (StepsY.cons (k := 6) (k' := 7) (o := ⟨some 25, _, _, _, _, _⟩) rfl rfl ?sz6 (StepsY.cons (k := 7) (k' := 8) (o := ⟨some 8, _, _, _, _, _⟩) rfl rfl ?sz7 (StepsY.cons (k := 8) (k' := 9) (o := ⟨some 9, _, _, _, _, _⟩) rfl rfl ?sz8 StepsY.nil))))))))) ?finz
    case iz => exact fun xs => ⟨(Below.refl _ _).drew, fun h => Bool.noConfusion h, fun h => Bool.noConfusion h, fun h => Bool.noConfusion h, fun h => Bool.noConfusion h, fun h => Bool.noConfusion h, fun h => Bool.noConfusion h, fun h => Bool.noConfusion h, fun h => Bool.noConfusion h, fun h => Bool.noConfusion h⟩
    case sz0 =>
      intro xs done y hI hd0 hup hdn K hK
      refine wpOp_go (o := ⟨some 19, _, _, _, _, _⟩) rfl rfl ?_
      simp only [putsF, List.foldl_cons, List.foldl_nil, Act.put, List.setIfInBounds_toArray, List.set_cons_zero, List.set_cons_succ] at hK ⊢
      have rG := HSB.out.below hI.bl HSB.out.lt
      have lG := rG.lt
      have g0 : y.cell? ⟨zb, 0, none⟩ = some (.slice R.A1 k.rules.length R.c1) := rG.cell (j := 0) (by simp)
      have g1 : y.cell? ⟨zb, 1, none⟩ = some (.slice R.A2 k.ranks.length R.c2) := rG.cell (j := 1) (by simp)
      have g2 : y.cell? ⟨zb, 2, none⟩ = some (.slice R.A3 k.insured.length R.c3) := rG.cell (j := 2) (by simp)
      go_wp2_with fail
      exact hK.out _ _ ⟨hI.bl, hI.m6, hI.m7, fun _ => rfl, hI.v1, hI.v2, hI.v3, hI.v4, hI.v5, hI.v8⟩
    case sz1 =>
      intro xs done y hI hd0 hup hdn K hK
      refine wpOp_go (o := ⟨some 20, _, _, _, _, _⟩) rfl rfl ?_
      simp only [putsF, List.foldl_cons, List.foldl_nil, Act.put, List.setIfInBounds_toArray, List.set_cons_zero, List.set_cons_succ] at hK ⊢
      go_wp2_with fail
      exact hK.out _ _ ⟨hI.bl, hI.m6, hI.m7, hI.v0, fun _ => rfl, hI.v2, hI.v3, hI.v4, hI.v5, hI.v8⟩
    case sz2 =>
      intro xs done y hI hd0 hup hdn K hK
      refine wpOp_go (o := ⟨some 21, _, _, _, _, _⟩) rfl rfl ?_
      simp only [putsF, List.foldl_cons, List.foldl_nil, Act.put, List.setIfInBounds_toArray, List.set_cons_zero, List.set_cons_succ] at hK ⊢
      go_wp2_with fail
      exact hK.out _ _ ⟨hI.bl, hI.m6, hI.m7, hI.v0, hI.v1, fun _ => rfl, hI.v3, hI.v4, hI.v5, hI.v8⟩
    case sz3 =>
      intro xs done y hI hd0 hup hdn K hK
      refine wpOp_go (o := ⟨some 22, _, _, _, _, _⟩) rfl rfl ?_
      have e1 := hI.v1 (hdn 1 (by kernel_rfl))
      have e2 := hI.v2 (hdn 2 (by kernel_rfl))
      simp only [putsF, List.foldl_cons, List.foldl_nil, Act.put, List.setIfInBounds_toArray, List.set_cons_zero, List.set_cons_succ] at hK ⊢
      simp only [e1, e2] at hK ⊢
      have hq := HUp.out y (HBr.out.trans (hI.bl.mono HBr.out.size))
      go_wp2_with (go_at_call 40; with_reducible refine hq.mono ?_; rintro e z ⟨rfl, hw⟩; rw [hw]; clear hw)
      exact hK.out _ _ ⟨hI.bl, hI.m6, hI.m7, hI.v0, hI.v1, hI.v2, fun _ => rfl, hI.v4, hI.v5, hI.v8⟩
    case sz4 =>
      intro xs done y hI hd0 hup hdn K hK
      refine wpOp_go (o := ⟨some 23, _, _, _, _, _⟩) rfl rfl ?_
      simp only [putsF, List.foldl_cons, List.foldl_nil, Act.put, List.setIfInBounds_toArray, List.set_cons_zero, List.set_cons_succ] at hK ⊢
      go_wp2_with fail
      exact hK.out _ _ ⟨hI.bl, hI.m6, hI.m7, hI.v0, hI.v1, hI.v2, hI.v3, fun _ => rfl, hI.v5, hI.v8⟩
    case sz5 =>
      intro xs done y hI hd0 hup hdn K hK
      refine wpOp_go (o := ⟨some 24, _, _, _, _, _⟩) rfl rfl ?_
      simp only [putsF, List.foldl_cons, List.foldl_nil, Act.put, List.setIfInBounds_toArray, List.set_cons_zero, List.set_cons_succ] at hK ⊢
      go_wp2_with fail
      exact hK.out _ _ ⟨hI.bl, hI.m6, hI.m7, hI.v0, hI.v1, hI.v2, hI.v3, hI.v4, fun _ => rfl, hI.v8⟩
    case sz6 =>
      intro xs done y hI hd0 hup hdn K hK
      refine wpOp_go (o := ⟨some 25, _, _, _, _, _⟩) rfl rfl ?_
      have e0 := hI.v0 (hdn 0 (by kernel_rfl))
      have e3 := hI.v3 (hdn 3 (by kernel_rfl))
      have e4 := hI.v4 (hdn 4 (by kernel_rfl))
      have e5 := hI.v5 (hdn 5 (by kernel_rfl))
      simp only [putsF, List.foldl_cons, List.foldl_nil, Act.put, List.setIfInBounds_toArray, List.set_cons_zero, List.set_cons_succ] at hK ⊢
      simp only [e0, e3, e4, e5] at hK ⊢
      have hq := HF.out y (HBr.out.trans (hI.bl.mono HBr.out.size))
      go_wp2_with (go_at_call 57; refine hq.mono ?_; rintro e z ⟨hb4, A2, c2, rfl, hr2⟩)
      exact hK.out _ _ ⟨(hI.bl.trans (hb4.mono hI.bl.size)), (fun _ => ⟨_, _, rfl, hr2⟩), (fun h => Bool.noConfusion ((hup 7 (by kernel_rfl)).symm.trans h)), hI.v0, hI.v1, hI.v2, hI.v3, hI.v4, hI.v5, hI.v8⟩
    case sz7 =>
      intro xs done y hI hd0 hup hdn K hK
      refine wpOp_go (o := ⟨some 8, _, _, _, _, _⟩) rfl rfl ?_
      have hm6 := hI.m6 (hdn 6 (by kernel_rfl))
      simp only [putsF, List.foldl_cons, List.foldl_nil, Act.put, List.setIfInBounds_toArray, List.set_cons_zero, List.set_cons_succ] at hK ⊢
      obtain ⟨A2, c2, e6, hr2⟩ := hm6
      simp only [e6] at hK ⊢
      go_wp2_with fail
      exact hK.out _ _ ⟨hI.bl, hI.m6, (fun _ => ⟨_, _, rfl, hr2⟩), hI.v0, hI.v1, hI.v2, hI.v3, hI.v4, hI.v5, hI.v8⟩
    case sz8 =>
      intro xs done y hI hd0 hup hdn K hK
      refine wpOp_go (o := ⟨some 9, _, _, _, _, _⟩) rfl rfl ?_
      simp only [putsF, List.foldl_cons, List.foldl_nil, Act.put, List.setIfInBounds_toArray, List.set_cons_zero, List.set_cons_succ] at hK ⊢
      go_wp2_with fail
      exact hK.out _ _ ⟨hI.bl, hI.m6, hI.m7, hI.v0, hI.v1, hI.v2, hI.v3, hI.v4, hI.v5, fun _ => rfl⟩
    case finz =>
      intro xs done y hI hd
      have hm6 := hI.m7 (hd 7 (by decide))
      have e8 := hI.v8 (hd 8 (by decide))
      obtain ⟨A2, c2, e9, hr2⟩ := hm6
      have HBy := Lib.hid hI.bl
      have HR2 := Lib.hid hr2
      simp only [putsF, List.foldl_cons, List.foldl_nil, Act.put, List.setIfInBounds_toArray, List.set_cons_zero, List.set_cons_succ]
      simp only [e8, e9]
      clear hI hd e8 e9 hr2
      go_wp2_with fail
      refine bodyPost_ret (v := .tuple #[.slice A2 L.length c2, .int .i64 0]) (by simp [results, Try.results28, go_sem]) rfl ?_
      exact LsTo.ok HE0.out (HBr.out.trans (HBy.out.mono HBr.out.size)) HR2.out
  · have HN : Hid (E ≠ 0) := h0
    clear hB
    go_enter Try.func28, Try.ntmps28
    go_upto_region 1 with fail
    rw [← hW, ← hzb]
    clear hW hzb
    go_wp2_with (go_at_call 59; refine HCk.out.mono ?_; rintro e X ⟨rfl, hX⟩; have HX := Lib.hid (HBW.out.trans (hX.mono HBW.out.size)); clear hX)
    refine bodyPost_ret (v := .tuple #[.slice none 0 0, .int .i64 E]) (by simp [results, Try.results28, go_sem]) rfl ?_
    exact LsTo.bad HN.out HX.out
def IsBool (e : Ending) : Prop := ∃ b, e = .returned (.bool b)
set_option maxRecDepth 100000 in
set_option maxHeartbeats 4000000 in
theorem far_any (k : BookZ) (R : BkR) (l : List EntZ) (A : Option Addr) (c B : Nat) (day : Int) (w : World) (hB : B ≤ w.heap.size) (hl : l.length ≤ maxLen) (hr : Reads w B 5 A l.length (entCells l)) (hk : BkIn w B k R) :
    Calls Try.prog 29 #[bookV k R, .slice A l.length c, .int .i64 day] w fun e w' => IsBool e ∧ Below w.heap.size w w' := by
  obtain ⟨W, hW⟩ : ∃ W, W = w.alloc (.cells #[.slice R.A1 k.rules.length R.c1, .slice R.A2 k.ranks.length R.c2, .slice R.A3 k.insured.length R.c3] 25) := ⟨_, rfl⟩
  have bW : Below w.heap.size w W := by subst hW; exact (Below.refl _ _).alloc (Nat.le_refl _) _
  have r0 : Row W w.heap.size 25 [.slice R.A1 k.rules.length R.c1, .slice R.A2 k.ranks.length R.c2, .slice R.A3 k.insured.length R.c3] := by subst hW; exact Row.new w _ _
  obtain ⟨zb, hzb⟩ : ∃ z, z = w.heap.size := ⟨_, rfl⟩
  rw [← hzb] at r0
  have q0 : W.cell? ⟨zb, 0, none⟩ = some (.slice R.A1 k.rules.length R.c1) := r0.cell (j := 0) (by simp)
  have q1 : W.cell? ⟨zb, 1, none⟩ = some (.slice R.A2 k.ranks.length R.c2) := r0.cell (j := 1) (by simp)
  have q2 : W.cell? ⟨zb, 2, none⟩ = some (.slice R.A3 k.insured.length R.c3) := r0.cell (j := 2) (by simp)
  have lW := r0.lt
  have HBW := Lib.hid bW
  have HR0 := Lib.hid r0
  have HCB : Hid (∀ X, Below w.heap.size w X → Calls Try.prog 45 #[bookV k R] X fun e w' => e = .returned (.int .i64 (bkE k)) ∧ Below X.heap.size X w') := fun X hX => rbook_any k R B X (Nat.le_trans hB hX.size) (hk.below (hX.mono hB))
  have HC0 := Lib.hid (HCB.out W HBW.out)
  have HRd : Hid (∀ (i : Nat) (hi : i < k.rules.length), ∃ b o x, R.A1 = some ⟨b, o, none⟩ ∧ b < W.heap.size ∧ W.cell? ⟨b, o + i * 4 + 1, none⟩ = some (.int .i64 x)) := fun i hi => by
    obtain ⟨b, o, h1, h2, -, h3, -, -⟩ := ru_at (hk.rules.below (bW.mono hB)) hi
    exact ⟨b, o, _, h1, by have := bW.size; omega, h3⟩
  have HIn : Hid (∀ (i : Nat) (hi : i < k.insured.length), ∃ b o x, R.A3 = some ⟨b, o, none⟩ ∧ b < W.heap.size ∧ W.cell? ⟨b, o + i, none⟩ = some (.int .i64 x)) := fun i hi => by
    obtain ⟨b, o, h1, h2, h3⟩ := (hk.insured.below (bW.mono hB)).2 (by omega)
    exact ⟨b, o, _, h1, by have := bW.size; omega, h3 i (.int .i64 k.insured[i]) (by simp [hi])⟩
  have HEt : Hid (∀ (i : Nat) (hi : i < l.length), ∃ b o x y, A = some ⟨b, o, none⟩ ∧ b < W.heap.size ∧ W.cell? ⟨b, o + i * 5 + 1, none⟩ = some (.int .i64 x) ∧ W.cell? ⟨b, o + i * 5 + 3, none⟩ = some (.int .i64 y)) := fun i hi => by
    obtain ⟨b, o, h1, h2, -, h3, -, h4, -⟩ := (ent_cells hr).out i hi W (bW.mono hB) (Nat.le_trans hB bW.size)
    exact ⟨b, o, _, _, h1, h2, h3, h4⟩
  have hl1 := hk.l1
  have hl3 := hk.l3
  unfold maxLen at hl1 hl3 hl
  generalize bkE k = E at HC0
  unfold bookV at *
  clear bW r0 hk hr hB HCB
  go_enter Try.func29, Try.ntmps29
  go_upto_region 1 with fail
  rw [← hW, ← hzb]
  clear hW hzb
  go_wp2_with fail
  go_loopw [7, 8] (fun v q wz => ∃ (n : Nat) (b : Bool), n ≤ k.rules.length ∧ q = .int .i64 n ∧ v = .bool b ∧ wz = W) (fun _ q _ => k.rules.length - (intOf q).toNat)
  case atStart => exact ⟨0, _, Nat.zero_le _, rfl, rfl, rfl⟩
  case round =>
    obtain ⟨n, b, hn, rfl, rfl, rfl⟩ := hrel
    by_cases hlt : n < k.rules.length
    · have n1 : (n : Int) < (k.rules.length : Int) := by omega
      have n0 : ¬ (n : Int) < 0 := by omega
      have en : IntKind.i64.wrap ((n : Int) + 1) = (n : Int) + 1 := IntWalk.i64_in _ (by omega)
      obtain ⟨br, or, x, hR, lr, y0⟩ := HRd.out n hlt
      rw [hR] at q0
      clear hR HRd HIn HEt HC0
      cases b with
      | true =>
        go_wp2_with fail
        go_roundw
        case rel => exact ⟨n + 1, _, by omega, by go_num, rfl, (by first | rfl | trivial)⟩
        case measure => simp [intOf]; omega
      | false =>
        go_wp2_with fail
        go_roundw
        case rel => exact ⟨n + 1, _, by omega, by go_num, rfl, (by first | rfl | trivial)⟩
        case measure => simp [intOf]; omega
    · have n1 : ¬ (n : Int) < (k.rules.length : Int) := by omega
      clear hlt hn HRd
      go_upto_region 7 with fail
      go_loopw [7, 9] (fun v q wz => ∃ (n : Nat) (b : Bool), n ≤ k.insured.length ∧ q = .int .i64 n ∧ v = .bool b ∧ wz = wr) (fun _ q _ => k.insured.length - (intOf q).toNat)
      case atStart => exact ⟨0, _, Nat.zero_le _, rfl, rfl, rfl⟩
      case round =>
        clear n1
        obtain ⟨n, b, hn, rfl, rfl, rfl⟩ := hrel
        by_cases hlt : n < k.insured.length
        · have n1 : (n : Int) < (k.insured.length : Int) := by omega
          have n0 : ¬ (n : Int) < 0 := by omega
          have en : IntKind.i64.wrap ((n : Int) + 1) = (n : Int) + 1 := IntWalk.i64_in _ (by omega)
          obtain ⟨br, or, x, hR, lr, y0⟩ := HIn.out n hlt
          rw [hR] at q2
          clear hR HIn HEt HC0
          cases b with
          | false =>
            go_wp2_with fail
            go_roundw
            case rel => exact ⟨n + 1, _, by omega, by go_num, rfl, (by first | rfl | trivial)⟩
            case measure => simp [intOf]; omega
          | true =>
            go_wp2_with fail
            go_roundw
            case rel => exact ⟨n + 1, _, by omega, by go_num, rfl, (by first | rfl | trivial)⟩
            case measure => simp [intOf]; omega
        · have n1 : ¬ (n : Int) < (k.insured.length : Int) := by omega
          clear hlt hn HIn
          go_upto_region 11 with fail
          go_loopw [7, 10] (fun v q wz => ∃ (n : Nat) (b : Bool), n ≤ l.length ∧ q = .int .i64 n ∧ v = .bool b ∧ wz = wr) (fun _ q _ => l.length - (intOf q).toNat)
          case atStart => exact ⟨0, _, Nat.zero_le _, rfl, rfl, rfl⟩
          case round =>
            clear n1
            obtain ⟨n, b, hn, rfl, rfl, rfl⟩ := hrel
            by_cases hlt : n < l.length
            · have n1 : (n : Int) < (l.length : Int) := by omega
              have n0 : ¬ (n : Int) < 0 := by omega
              have en : IntKind.i64.wrap ((n : Int) + 1) = (n : Int) + 1 := IntWalk.i64_in _ (by omega)
              obtain ⟨br, or, x, y, hR, lr, y0, y1⟩ := HEt.out n hlt
              subst hR
              clear HEt HC0
              cases b with
              | false =>
                go_wp2_with fail
                go_roundw
                case rel => exact ⟨n + 1, _, by omega, by go_num, rfl, (by first | rfl | trivial)⟩
                case measure => simp [intOf]; omega
              | true =>
                by_cases hx : x = 5
                · subst hx
                  go_wp2_with fail
                  go_roundw
                  case rel => exact ⟨n + 1, _, by omega, by go_num, rfl, (by first | rfl | trivial)⟩
                  case measure => simp [intOf]; omega
                · have d2 : (x == 5) = false := by simpa using hx
                  have d1 : decide (x = 5) = false := decide_eq_false hx
                  go_wp2_with fail
                  go_roundw
                  case rel => exact ⟨n + 1, _, by omega, by go_num, rfl, (by first | rfl | trivial)⟩
                  case measure => simp [intOf]; omega
            · have n1 : ¬ (n : Int) < (l.length : Int) := by omega
              clear hlt hn HEt
              cases b with
              | true =>
                clear HC0
                go_wp2_with fail
                go_ret
                exact ⟨⟨_, rfl⟩, HBW.out⟩
              | false =>
                by_cases h0 : E = 0
                · subst h0
                  by_cases h1 : (0 : Int) < (k.insured.length : Int)
                  · go_wp2_with (go_at_call 45; refine HC0.out.mono ?_; rintro e X ⟨rfl, hX⟩; have HX := Lib.hid (HBW.out.trans (hX.mono HBW.out.size)); have sX := HR0.out.below hX HR0.out.lt; have b2 : X.cell? ⟨zb, 2, none⟩ = some (.slice R.A3 k.insured.length R.c3) := sX.cell (j := 2) (by simp); have lX := sX.lt; clear hX sX)
                    go_ret
                    exact ⟨⟨_, rfl⟩, HX.out⟩
                  · go_wp2_with (go_at_call 45; refine HC0.out.mono ?_; rintro e X ⟨rfl, hX⟩; have HX := Lib.hid (HBW.out.trans (hX.mono HBW.out.size)); have sX := HR0.out.below hX HR0.out.lt; have b2 : X.cell? ⟨zb, 2, none⟩ = some (.slice R.A3 k.insured.length R.c3) := sX.cell (j := 2) (by simp); have lX := sX.lt; clear hX sX)
                    go_ret
                    exact ⟨⟨_, rfl⟩, HX.out⟩
                · go_wp2_with (go_at_call 45; refine HC0.out.mono ?_; rintro e X ⟨rfl, hX⟩; have HX := Lib.hid (HBW.out.trans (hX.mono HBW.out.size)); have sX := HR0.out.below hX HR0.out.lt; have b2 : X.cell? ⟨zb, 2, none⟩ = some (.slice R.A3 k.insured.length R.c3) := sX.cell (j := 2) (by simp); have lX := sX.lt; clear hX sX)
                  go_ret
                  exact ⟨⟨_, rfl⟩, HX.out⟩
end Go.Proofs.Ytaocgkmobfocjaa
