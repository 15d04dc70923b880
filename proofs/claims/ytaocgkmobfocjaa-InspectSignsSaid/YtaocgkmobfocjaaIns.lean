/- Contracts of inspect's until, upTo, readOn and readRide. Conditions: a book and entries that read as data. -/
import Derived.Test.YtaocgkmobfocjaaInr
namespace Go.Proofs.Ytaocgkmobfocjaa
open Go.RowKit

theorem int_eqI {k : IntKind} {a b : Int} (h : a = b) : Value.int k a = Value.int k b := by rw [h]
structure Unt (U : World) (k : BookZ) (R : BkR) (l : List EntZ) (A : Option Addr) (c ride : Nat) (cu is : Int) (done : Nat → Bool) (xs : Nat → Value) (y : World) : Prop where
  bl : Below U.heap.size U y
  v0 : done 0 = true → xs 0 = .agg #[.slice R.A1 k.rules.length R.c1, .slice R.A2 k.ranks.length R.c2, .slice R.A3 k.insured.length R.c3, .slice A l.length c]
  v1 : done 1 = true → xs 1 = .int .i64 (ride : Int)
  v2 : done 2 = true → xs 2 = .int .i64 cu
  v3 : done 3 = true → xs 3 = .agg #[.slice R.A1 k.rules.length R.c1, .slice R.A2 k.ranks.length R.c2, .slice R.A3 k.insured.length R.c3, .slice A l.length c]
  v4 : done 4 = true → xs 4 = .int .i64 (ride : Int)
  v5 : done 5 = true → xs 5 = .int .i64 is
  v6 : done 6 = true → xs 6 = .int .i64 (min cu is)
  v7 : done 7 = true → xs 7 = .int .i64 (min cu is)
set_option maxRecDepth 100000 in
set_option maxHeartbeats 2000000 in
theorem until_any (k : BookZ) (R : BkR) (l : List EntZ) (A : Option Addr) (c B : Nat) (ride : Nat) (day : Int) (w : World) (hB : B ≤ w.heap.size) (hl : l.length ≤ 100) (hr : Reads w B 5 A l.length (entCells l)) (hk : BkIn w B k R) (hi : ride < k.insured.length) :
    Calls Try.prog 60 #[logV k R l A c, .int .i64 (ride : Int), .int .i64 day] w fun e w' => e = .returned (.tuple #[.int .i64 (untS k l ride day).1, .int .i64 (untS k l ride day).2]) ∧ Below w.heap.size w w' := by
  have hl' : l.length ≤ maxLen := by unfold maxLen; omega
  obtain ⟨W, hW⟩ : ∃ W, W = w.alloc (.cells #[.slice R.A1 k.rules.length R.c1, .slice R.A2 k.ranks.length R.c2, .slice R.A3 k.insured.length R.c3, .slice A l.length c] 66) := ⟨_, rfl⟩
  have bW : Below w.heap.size w W := by subst hW; exact (Below.refl _ _).alloc (Nat.le_refl _) _
  have gW : Row W w.heap.size 66 [.slice R.A1 k.rules.length R.c1, .slice R.A2 k.ranks.length R.c2, .slice R.A3 k.insured.length R.c3, .slice A l.length c] := by subst hW; exact Row.new w _ _
  obtain ⟨zg, hzg⟩ : ∃ z, z = w.heap.size := ⟨_, rfl⟩
  rw [← hzg] at gW
  have lW := gW.lt
  have HBW := Lib.hid bW
  have HGW := Lib.hid gW
  have H1 : Hid (∀ X, Below w.heap.size w X → Calls Try.prog 78 #[logV k R l A c, .int .i64 (ride : Int)] X fun e w' => e = .returned (.int .i64 (chkU k l ride k.rules.length)) ∧ Below X.heap.size X w') := fun X hX => checked_any k R l A c B ride X (Nat.le_trans hB hX.size) hl' (hr.below (hX.mono hB)) (hk.below (hX.mono hB))
  have H2 : Hid (∀ X, Below w.heap.size w X → Calls Try.prog 79 #[logV k R l A c, .int .i64 (ride : Int)] X fun e w' => e = .returned (.bool (dfvS l ride)) ∧ Below X.heap.size X w') := fun X hX => defective_any k R l A c B ride X (Nat.le_trans hB hX.size) hl (hr.below (hX.mono hB))
  have H4 : Hid (∀ X, Below w.heap.size w X → Calls Try.prog 81 #[logV k R l A c, .int .i64 (ride : Int)] X fun e w' => e = .returned (.int .i64 (insS k l ride)) ∧ Below X.heap.size X w') := fun X hX => insured_any k R l A c B ride X (Nat.le_trans hB hX.size) hl' (hr.below (hX.mono hB)) (hk.below (hX.mono hB)) hi
  have HY : Hid (untS k l ride day = if min (chkU k l ride k.rules.length) (insS k l ride) < day ∨ dfvS l ride = true then (0, 3) else (min (chkU k l ride k.rules.length) (insS k l ride), 0)) := rfl
  generalize untS k l ride day = V at HY ⊢
  generalize chkU k l ride k.rules.length = cu at H1 HY
  generalize dfvS l ride = df at H2 HY
  generalize insS k l ride = is at H4 HY
  unfold logV at *
  clear bW gW hr hk hB hl hl' hi
  go_enter Try.func60, Try.ntmps60
  go_upto_region 1 with fail
  rw [← hW, ← hzg]
  clear hW hzg
  refine wp_region_stepsY 8 (ord := [0, 1, 2, 3, 4, 5, 6, 7]) (ds := [(0, 9), (1, 10), (2, 11), (3, 12), (4, 13), (5, 14), (6, 15), (7, 8)]) (I := Unt W k R l A c ride cu is) (by kernel_rfl) (by kernel_rfl) rfl ?iz (StepsY.cons (k := 0) (k' := 1) (o := ⟨some 9, _, _, _, _, _⟩) rfl rfl ?sz0 (StepsY.cons (k := 1) (k' := 2) (o := ⟨some 10, _, _, _, _, _⟩) rfl rfl ?sz1 (StepsY.cons (k := 2) (k' := 3) (o := ⟨some 11, _, _, _, _, _⟩) rfl rfl ?sz2 (StepsY.cons (k := 3) (k' := 4) (o := ⟨some 12, _, _, _, _, _⟩) rfl rfl ?sz3 (StepsY.cons (k := 4) (k' := 5) (o := ⟨some 13, _, _, _, _, _⟩) rfl rfl ?sz4 (StepsY.cons (k := 5) (k' := 6) (o := ⟨some 14, _, _, _, _, _⟩) rfl rfl ?sz5 (StepsY.cons (k := 6) (k' := 7) (o := ⟨some 15, _, _, _, _, _⟩) rfl rfl ?sz6 (StepsY.cons (k := 7) (k' := 8) (o := ⟨some 8, _, _, _, _, _⟩) rfl rfl ?sz7 StepsY.nil)))))))) ?finz
  case iz => exact fun xs => ⟨(Below.refl _ _).drew, fun h => Bool.noConfusion h, fun h => Bool.noConfusion h, fun h => Bool.noConfusion h, fun h => Bool.noConfusion h, fun h => Bool.noConfusion h, fun h => Bool.noConfusion h, fun h => Bool.noConfusion h, fun h => Bool.noConfusion h⟩
  case sz0 =>
    intro xs done y hI hd0 hup hdn K hK
    refine wpOp_go (o := ⟨some 9, _, _, _, _, _⟩) rfl rfl ?_
    simp only [putsF, List.foldl_cons, List.foldl_nil, Act.put, List.setIfInBounds_toArray, List.set_cons_zero, List.set_cons_succ] at hK ⊢
    have rG := HGW.out.below hI.bl HGW.out.lt
    have lG := rG.lt
    have g0 : y.cell? ⟨zg, 0, none⟩ = some (.slice R.A1 k.rules.length R.c1) := rG.cell (j := 0) (by simp)
    have g1 : y.cell? ⟨zg, 1, none⟩ = some (.slice R.A2 k.ranks.length R.c2) := rG.cell (j := 1) (by simp)
    have g2 : y.cell? ⟨zg, 2, none⟩ = some (.slice R.A3 k.insured.length R.c3) := rG.cell (j := 2) (by simp)
    have g3 : y.cell? ⟨zg, 3, none⟩ = some (.slice A l.length c) := rG.cell (j := 3) (by simp)
    go_wp2_with fail
    exact hK.out _ _ ⟨hI.bl, fun _ => rfl, hI.v1, hI.v2, hI.v3, hI.v4, hI.v5, hI.v6, hI.v7⟩
  case sz1 =>
    intro xs done y hI hd0 hup hdn K hK
    refine wpOp_go (o := ⟨some 10, _, _, _, _, _⟩) rfl rfl ?_
    simp only [putsF, List.foldl_cons, List.foldl_nil, Act.put, List.setIfInBounds_toArray, List.set_cons_zero, List.set_cons_succ] at hK ⊢
    go_wp2_with fail
    exact hK.out _ _ ⟨hI.bl, hI.v0, fun _ => rfl, hI.v2, hI.v3, hI.v4, hI.v5, hI.v6, hI.v7⟩
  case sz2 =>
    intro xs done y hI hd0 hup hdn K hK
    refine wpOp_go (o := ⟨some 11, _, _, _, _, _⟩) rfl rfl ?_
    have e0 := hI.v0 (hdn 0 (by kernel_rfl))
    have e1 := hI.v1 (hdn 1 (by kernel_rfl))
    simp only [putsF, List.foldl_cons, List.foldl_nil, Act.put, List.setIfInBounds_toArray, List.set_cons_zero, List.set_cons_succ] at hK ⊢
    simp only [e0, e1] at hK ⊢
    have hq := H1.out y (HBW.out.trans (hI.bl.mono HBW.out.size))
    go_wp2_with (go_at_call 78; refine hq.mono ?_; rintro e z ⟨rfl, hb4⟩)
    exact hK.out _ _ ⟨(hI.bl.trans (hb4.mono hI.bl.size)), hI.v0, hI.v1, fun _ => rfl, hI.v3, hI.v4, hI.v5, hI.v6, hI.v7⟩
  case sz3 =>
    intro xs done y hI hd0 hup hdn K hK
    refine wpOp_go (o := ⟨some 12, _, _, _, _, _⟩) rfl rfl ?_
    simp only [putsF, List.foldl_cons, List.foldl_nil, Act.put, List.setIfInBounds_toArray, List.set_cons_zero, List.set_cons_succ] at hK ⊢
    have rG := HGW.out.below hI.bl HGW.out.lt
    have lG := rG.lt
    have g0 : y.cell? ⟨zg, 0, none⟩ = some (.slice R.A1 k.rules.length R.c1) := rG.cell (j := 0) (by simp)
    have g1 : y.cell? ⟨zg, 1, none⟩ = some (.slice R.A2 k.ranks.length R.c2) := rG.cell (j := 1) (by simp)
    have g2 : y.cell? ⟨zg, 2, none⟩ = some (.slice R.A3 k.insured.length R.c3) := rG.cell (j := 2) (by simp)
    have g3 : y.cell? ⟨zg, 3, none⟩ = some (.slice A l.length c) := rG.cell (j := 3) (by simp)
    go_wp2_with fail
    exact hK.out _ _ ⟨hI.bl, hI.v0, hI.v1, hI.v2, fun _ => rfl, hI.v4, hI.v5, hI.v6, hI.v7⟩
  case sz4 =>
    intro xs done y hI hd0 hup hdn K hK
    refine wpOp_go (o := ⟨some 13, _, _, _, _, _⟩) rfl rfl ?_
    simp only [putsF, List.foldl_cons, List.foldl_nil, Act.put, List.setIfInBounds_toArray, List.set_cons_zero, List.set_cons_succ] at hK ⊢
    go_wp2_with fail
    exact hK.out _ _ ⟨hI.bl, hI.v0, hI.v1, hI.v2, hI.v3, fun _ => rfl, hI.v5, hI.v6, hI.v7⟩
  case sz5 =>
    intro xs done y hI hd0 hup hdn K hK
    refine wpOp_go (o := ⟨some 14, _, _, _, _, _⟩) rfl rfl ?_
    have e3 := hI.v3 (hdn 3 (by kernel_rfl))
    have e4 := hI.v4 (hdn 4 (by kernel_rfl))
    simp only [putsF, List.foldl_cons, List.foldl_nil, Act.put, List.setIfInBounds_toArray, List.set_cons_zero, List.set_cons_succ] at hK ⊢
    simp only [e3, e4] at hK ⊢
    have hq := H4.out y (HBW.out.trans (hI.bl.mono HBW.out.size))
    go_wp2_with (go_at_call 81; refine hq.mono ?_; rintro e z ⟨rfl, hb4⟩)
    exact hK.out _ _ ⟨(hI.bl.trans (hb4.mono hI.bl.size)), hI.v0, hI.v1, hI.v2, hI.v3, hI.v4, fun _ => rfl, hI.v6, hI.v7⟩
  case sz6 =>
    intro xs done y hI hd0 hup hdn K hK
    refine wpOp_go (o := ⟨some 15, _, _, _, _, _⟩) rfl rfl ?_
    have e2 := hI.v2 (hdn 2 (by kernel_rfl))
    have e5 := hI.v5 (hdn 5 (by kernel_rfl))
    simp only [putsF, List.foldl_cons, List.foldl_nil, Act.put, List.setIfInBounds_toArray, List.set_cons_zero, List.set_cons_succ] at hK ⊢
    simp only [e2, e5] at hK ⊢
    go_wp2_with fail
    all_goals exact hK.out _ _ ⟨hI.bl, hI.v0, hI.v1, hI.v2, hI.v3, hI.v4, hI.v5, fun _ => int_eqI (by omega), hI.v7⟩
  case sz7 =>
    intro xs done y hI hd0 hup hdn K hK
    refine wpOp_go (o := ⟨some 8, _, _, _, _, _⟩) rfl rfl ?_
    have e6 := hI.v6 (hdn 6 (by kernel_rfl))
    simp only [putsF, List.foldl_cons, List.foldl_nil, Act.put, List.setIfInBounds_toArray, List.set_cons_zero, List.set_cons_succ] at hK ⊢
    simp only [e6] at hK ⊢
    go_wp2_with fail
    exact hK.out _ _ ⟨hI.bl, hI.v0, hI.v1, hI.v2, hI.v3, hI.v4, hI.v5, hI.v6, fun _ => rfl⟩
  case finz =>
  intro xs done y hI hd
  have hby := hI.bl
  have e7 := hI.v7 (hd 7 (by decide))
  simp only [putsF, List.foldl_cons, List.foldl_nil, Act.put, List.setIfInBounds_toArray, List.set_cons_zero, List.set_cons_succ]
  simp only [e7]
  have HBY := Lib.hid (HBW.out.trans (hby.mono HBW.out.size))
  have gY := HGW.out.below hby HGW.out.lt
  have q0 : y.cell? ⟨zg, 0, none⟩ = some (.slice R.A1 k.rules.length R.c1) := gY.cell (j := 0) (by simp)
  have q1 : y.cell? ⟨zg, 1, none⟩ = some (.slice R.A2 k.ranks.length R.c2) := gY.cell (j := 1) (by simp)
  have q2 : y.cell? ⟨zg, 2, none⟩ = some (.slice R.A3 k.insured.length R.c3) := gY.cell (j := 2) (by simp)
  have q3 : y.cell? ⟨zg, 3, none⟩ = some (.slice A l.length c) := gY.cell (j := 3) (by simp)
  have lY := gY.lt
  have HD := Lib.hid (H2.out y HBY.out)
  generalize min cu is = m at HY ⊢
  clear hI hby gY H1 H2 H4 e7 hd
  by_cases hm : m < day
  · have HV : Hid (V = (0, 3)) := by show _ = _; rw [HY.out, if_pos (.inl hm)]
    clear HY
    go_wp2_with fail
    refine bodyPost_ret (v := .tuple #[.int .i64 0, .int .i64 3]) (by simp [results, Try.results60, go_sem]) rfl ?_
    exact ⟨by rw [HV.out], HBY.out⟩
  · cases df with
    | true =>
      have HV : Hid (V = (0, 3)) := by show _ = _; rw [HY.out, if_pos (.inr rfl)]
      have d1 : decide (m < day) = false := by simpa using hm
      clear HY hm
      go_wp2_with (go_at_call 79; refine HD.out.mono ?_; rintro e X ⟨rfl, hX⟩; have HX := Lib.hid (HBY.out.trans (hX.mono HBY.out.size)); clear hX)
      refine bodyPost_ret (v := .tuple #[.int .i64 0, .int .i64 3]) (by simp [results, Try.results60, go_sem]) rfl ?_
      exact ⟨by rw [HV.out], HX.out⟩
    | false =>
      have HV : Hid (V = (m, 0)) := by show _ = _; rw [HY.out, if_neg (by simp; omega)]
      have d1 : decide (m < day) = false := by simpa using hm
      clear HY hm
      go_wp2_with (go_at_call 79; refine HD.out.mono ?_; rintro e X ⟨rfl, hX⟩; have HX := Lib.hid (HBY.out.trans (hX.mono HBY.out.size)); clear hX)
      refine bodyPost_ret (v := .tuple #[.int .i64 m, .int .i64 0]) (by simp [results, Try.results60, go_sem]) rfl ?_
      exact ⟨by rw [HV.out], HX.out⟩
/-- The result in a cell, alone. -/
theorem log_end (fn : Func) (p : Tmp) (hf : fn.results = #[.cell p 66]) (tmps : Array Value) (g : Nat) (s1 s2 s3 s4 : Value) (Z : World) (t4 : tmps.getD p undef = .pointer (some ⟨g, 0, none⟩)) (h : Row Z g 66 [s1, s2, s3, s4]) :
    (results fn tmps).run Try.prog Z = .ok (.agg #[s1, s2, s3, s4]) Z := by
  have y0 : Z.cell? ⟨g, 0, none⟩ = some s1 := h.cell (j := 0) (by simp)
  have y1 : Z.cell? ⟨g, 1, none⟩ = some s2 := h.cell (j := 1) (by simp)
  have y2 : Z.cell? ⟨g, 2, none⟩ = some s3 := h.cell (j := 2) (by simp)
  have y3 : Z.cell? ⟨g, 3, none⟩ = some s4 := h.cell (j := 3) (by simp)
  have l2 := h.lt
  rw [Array.getD_eq_getD_getElem?] at t4
  simp only [results, hf]
  simp [Sem.run_bind, Result.andThen, t4]
  go_simp
theorem rd2_end (fn : Func) (p : Tmp) (q : Tmp) (hf : fn.results = #[.cell p 66, .tmp q]) (tmps : Array Value) (g : Nat) (s1 s2 s3 s4 v2 : Value) (Z : World) (t4 : tmps.getD p undef = .pointer (some ⟨g, 0, none⟩)) (t5 : tmps.getD q undef = v2) (h : Row Z g 66 [s1, s2, s3, s4]) :
    (results fn tmps).run Try.prog Z = .ok (.tuple #[.agg #[s1, s2, s3, s4], v2]) Z := by
  have y0 : Z.cell? ⟨g, 0, none⟩ = some s1 := h.cell (j := 0) (by simp)
  have y1 : Z.cell? ⟨g, 1, none⟩ = some s2 := h.cell (j := 1) (by simp)
  have y2 : Z.cell? ⟨g, 2, none⟩ = some s3 := h.cell (j := 2) (by simp)
  have y3 : Z.cell? ⟨g, 3, none⟩ = some s4 := h.cell (j := 3) (by simp)
  have l2 := h.lt
  rw [Array.getD_eq_getD_getElem?] at t4 t5
  simp only [results, hf]
  simp [Sem.run_bind, Result.andThen, t4, t5]
  go_simp
set_option maxRecDepth 100000 in
theorem late_any (x : EntZ) (nb : Nat) (day : Int) (w : World) (hc : w.cell? ⟨nb, 0, none⟩ = some (.int .i64 day)) (_hl : nb < w.heap.size) : Calls Try.prog 89 #[entV x, .pointer (some ⟨nb, 0, none⟩)] w fun e w' => e = .returned (.bool (decide (day < x.day))) ∧ Below w.heap.size w w' := by
  have hc2 : (w.alloc (.cells #[.int .i64 x.day, .int .i64 x.kind, .int .i64 x.a, .int .i64 x.b, .int .i64 x.c] 54)).cell? ⟨nb, 0, none⟩ = some (.int .i64 day) := Lib.cell?_alloc_some _ hc
  have HB := Lib.hid ((Below.refl _ w).alloc (Nat.le_refl _) (.cells #[.int .i64 x.day, .int .i64 x.kind, .int .i64 x.a, .int .i64 x.b, .int .i64 x.c] 54))
  unfold entV
  go_enter Try.func89, Try.ntmps89
  go_wp2_with fail
  go_ret
  exact ⟨rfl, HB.out⟩
/-- The place of the first entry behind a day, or -1. -/
def idxZ (l : List EntZ) (day : Int) : Int := if upN l day < l.length then (upN l day : Int) else -1
set_option maxRecDepth 100000 in
set_option maxHeartbeats 1000000 in
theorem index_any (l : List EntZ) (A : Option Addr) (c B : Nat) (day : Int) (nb : Nat) (w : World) (hB : B ≤ w.heap.size) (hl : l.length ≤ maxLen) (hr : Reads w B 5 A l.length (entCells l)) (hc : Row w nb 3 [.int .i64 day]) :
    Calls Try.prog 88 #[.slice A l.length c, .func (.func 89) #[] #[.pointer (some ⟨nb, 0, none⟩)]] w fun e w' => e = .returned (.int .i64 (idxZ l day)) ∧ Below w.heap.size w w' := by
  have HEn : Hid (∀ (n : Nat) (hn : n < l.length) (X : World), Below w.heap.size w X → ∃ b o, A = some ⟨b, o, none⟩ ∧ b < X.heap.size ∧ X.cell? ⟨b, o + n * 5, none⟩ = some (.int .i64 l[n].day) ∧ X.cell? ⟨b, o + n * 5 + 1, none⟩ = some (.int .i64 l[n].kind) ∧ X.cell? ⟨b, o + n * 5 + 2, none⟩ = some (.int .i64 l[n].a) ∧ X.cell? ⟨b, o + n * 5 + 3, none⟩ = some (.int .i64 l[n].b) ∧ X.cell? ⟨b, o + n * 5 + 4, none⟩ = some (.int .i64 l[n].c)) := fun n hn X hX => by
    obtain ⟨b, o, h1, h2, h3⟩ := ent_at (hr.below (hX.mono hB)) hn
    exact ⟨b, o, h1, by have := hX.size; omega, h3⟩
  have HCl : Hid (∀ (x : EntZ) (X : World), Below w.heap.size w X → Calls Try.prog 89 #[entV x, .pointer (some ⟨nb, 0, none⟩)] X fun e w' => e = .returned (.bool (decide (day < x.day))) ∧ Below X.heap.size X w') := fun x X hX => by
    have h := hc.below hX hc.lt
    exact late_any x nb day X (h.cell (j := 0) (by simp)) h.lt
  unfold maxLen at hl
  unfold entV at *
  clear hr hc hB
  go_enter Try.func88, Try.ntmps88
  go_wp2_with fail
  go_loopw [5, 8] (fun _ i wr => ∃ n : Nat, n ≤ l.length ∧ i = .int .i64 n ∧ Below w.heap.size w wr ∧ Hid (∀ j, j < n → (l.getD j default).day ≤ day)) (fun _ i _ => l.length - (intOf i).toNat)
  case atStart => exact ⟨0, Nat.zero_le _, rfl, Below.refl _ _, fun j hj => absurd hj (Nat.not_lt_zero _)⟩
  case round =>
    obtain ⟨n, hn, rfl, hbel, Hall⟩ := hrel
    have HBr := Lib.hid hbel
    by_cases hlt : n < l.length
    · have n1 : (n : Int) < (l.length : Int) := by omega
      have n0 : ¬ (n : Int) < 0 := by omega
      have en : IntKind.i64.wrap ((n : Int) + 1) = (n : Int) + 1 := IntWalk.i64_in _ (by omega)
      obtain ⟨b, o, hA, lb, x0, x1, x2, x3, x4⟩ := HEn.out n hlt wr hbel
      have HX := Lib.hid (ent_getD hlt)
      generalize l[n] = x at x0 x1 x2 x3 x4 HX
      have HC := Lib.hid (HCl.out x wr hbel)
      rw [hA]
      clear hbel hA
      by_cases hd : day < x.day
      · have HI : Hid (idxZ l day = (n : Int)) := by
          show _ = _
          unfold idxZ
          rw [upN_is l day (n := n) (by omega) Hall.out (fun _ => by rw [HX.out]; exact hd), if_pos hlt]
        rw [decide_eq_true hd] at HC
        clear hd
        go_wp2_with (go_at_call 89; refine HC.out.mono ?_; rintro e X ⟨rfl, hX⟩; have HBX := Lib.hid (HBr.out.trans (hX.mono HBr.out.size)); clear hX)
        go_ret
        exact ⟨ret_intI HI.out.symm, HBX.out⟩
      · have HI : Hid (∀ j, j < n + 1 → (l.getD j default).day ≤ day) := fun j hj => by
          rcases Nat.lt_or_ge j n with h | h
          · exact Hall.out j h
          · rw [show j = n by omega, HX.out]; omega
        rw [decide_eq_false hd] at HC
        clear hd
        go_wp2_with (go_at_call 89; refine HC.out.mono ?_; rintro e X ⟨rfl, hX⟩; have HBX := Lib.hid (HBr.out.trans (hX.mono HBr.out.size)); clear hX)
        go_roundw
        case rel => exact ⟨n + 1, by omega, by go_num, HBX.out, HI⟩
        case measure => simp [intOf]; omega
    · have HI : Hid (idxZ l day = -1) := by
        show _ = _
        unfold idxZ
        rw [upN_is l day (n := n) (by omega) Hall.out (fun h => absurd h hlt), if_neg hlt]
      have n1 : ¬ (n : Int) < (l.length : Int) := by omega
      clear hlt
      go_wp2_with fail
      go_ret
      exact ⟨ret_intI HI.out.symm, HBr.out⟩
set_option maxRecDepth 100000 in
set_option maxHeartbeats 1000000 in
theorem upto_any (k : BookZ) (R : BkR) (l : List EntZ) (A : Option Addr) (c B : Nat) (day : Int) (w : World) (hB : B ≤ w.heap.size) (hl : l.length ≤ maxLen) (hlc : l.length ≤ c) (hr : Reads w B 5 A l.length (entCells l)) :
    Calls Try.prog 73 #[logV k R l A c, .int .i64 day] w fun e w' => e = .returned (logV k R (upL l day) A c) ∧ Below w.heap.size w w' := by
  obtain ⟨W, hW⟩ : ∃ W, W = ((w.alloc (.cells #[.slice R.A1 k.rules.length R.c1, .slice R.A2 k.ranks.length R.c2, .slice R.A3 k.insured.length R.c3, .slice A l.length c] 66)).alloc (.cells #[.int .i64 day] 3)).alloc (.cells #[.slice none 0 0, .slice none 0 0, .slice none 0 0, .slice none 0 0] 66) := ⟨_, rfl⟩
  have bW : Below w.heap.size w W := by subst hW; exact (((Below.refl _ _).alloc (Nat.le_refl _) _).alloc (by simp) _).alloc (by simp; omega) _
  have gW : Row W w.heap.size 66 [.slice R.A1 k.rules.length R.c1, .slice R.A2 k.ranks.length R.c2, .slice R.A3 k.insured.length R.c3, .slice A l.length c] := by subst hW; exact ((Row.new w _ _).alloc _).alloc _
  have r1 : Row W (w.heap.size + 1) 3 [.int .i64 day] := by
    subst hW
    have h := Row.new (w.alloc (.cells #[.slice R.A1 k.rules.length R.c1, .slice R.A2 k.ranks.length R.c2, .slice R.A3 k.insured.length R.c3, .slice A l.length c] 66)) 3 #[.int .i64 day]
    rw [World.size_alloc] at h
    exact h.alloc _
  have r2 : Row W (w.heap.size + 1 + 1) 66 [.slice none 0 0, .slice none 0 0, .slice none 0 0, .slice none 0 0] := by
    subst hW
    have h := Row.new ((w.alloc (.cells #[.slice R.A1 k.rules.length R.c1, .slice R.A2 k.ranks.length R.c2, .slice R.A3 k.insured.length R.c3, .slice A l.length c] 66)).alloc (.cells #[.int .i64 day] 3)) 66 #[.slice none 0 0, .slice none 0 0, .slice none 0 0, .slice none 0 0]
    rw [World.size_alloc, World.size_alloc] at h
    exact h
  obtain ⟨zg, hzg⟩ : ∃ z, z = w.heap.size := ⟨_, rfl⟩
  obtain ⟨zd, hzd⟩ : ∃ z, z = w.heap.size + 1 := ⟨_, rfl⟩
  obtain ⟨zl, hzl⟩ : ∃ z, z = w.heap.size + 1 + 1 := ⟨_, rfl⟩
  have HZ1 : Hid (w.heap.size ≤ zl) := by show _ ≤ _; omega
  have HZ2 : Hid (w.heap.size ≤ zg) := by show _ ≤ _; omega
  have HZ3 : Hid (zl ≠ zg) := by show _ ≠ _; omega
  rw [← hzg] at gW
  rw [← hzd] at r1
  rw [← hzl] at r2
  have g3 : W.cell? ⟨zg, 3, none⟩ = some (.slice A l.length c) := gW.cell (j := 3) (by simp)
  have lW := gW.lt
  have HBW := Lib.hid bW
  have HGW := Lib.hid gW
  have HR2 := Lib.hid r2
  have HIx := Lib.hid (index_any l A c B day zd W (Nat.le_trans hB bW.size) hl (hr.below (bW.mono hB)) r1)
  have HU : Hid (upL l day = l.take (upN l day)) := rfl
  have hul := upN_le l day
  have hrn := hr.2
  unfold logV maxLen at *
  clear bW gW r1 r2 hr hB
  have cells : ∀ X : World, Row X zg 66 [.slice R.A1 k.rules.length R.c1, .slice R.A2 k.ranks.length R.c2, .slice R.A3 k.insured.length R.c3, .slice A l.length c] → X.cell? ⟨zg, 0, none⟩ = some (.slice R.A1 k.rules.length R.c1) ∧ X.cell? ⟨zg, 1, none⟩ = some (.slice R.A2 k.ranks.length R.c2) ∧ X.cell? ⟨zg, 2, none⟩ = some (.slice R.A3 k.insured.length R.c3) ∧ X.cell? ⟨zg, 3, none⟩ = some (.slice A l.length c) := fun X h => ⟨h.cell (j := 0) (by simp), h.cell (j := 1) (by simp), h.cell (j := 2) (by simp), h.cell (j := 3) (by simp)⟩
  have zeros : ∀ X : World, Row X zl 66 [.slice none 0 0, .slice none 0 0, .slice none 0 0, .slice none 0 0] → X.cell? ⟨zl, 0, none⟩ = some (.slice none 0 0) ∧ X.cell? ⟨zl, 1, none⟩ = some (.slice none 0 0) ∧ X.cell? ⟨zl, 2, none⟩ = some (.slice none 0 0) ∧ X.cell? ⟨zl, 3, none⟩ = some (.slice none 0 0) := fun X h => ⟨h.cell (j := 0) (by simp), h.cell (j := 1) (by simp), h.cell (j := 2) (by simp), h.cell (j := 3) (by simp)⟩
  have HCe := Lib.hid cells
  have HZe := Lib.hid zeros
  clear cells zeros
  by_cases hu : upN l day < l.length
  · have hx : idxZ l day = (upN l day : Int) := if_pos hu
    have hlen : (upL l day).length = upN l day := by rw [HU.out, List.length_take]; omega
    rw [hx] at HIx
    rw [hlen]
    generalize upN l day = n at HIx hu hul
    obtain ⟨b, o, hA, -, -⟩ := hrn (by omega)
    subst hA
    have n0 : ¬ (n : Int) < 0 := by omega
    have nc : ¬ (c : Int) < (n : Int) := by omega
    clear hx hlen HU hrn hul
    go_enter Try.func73, Try.ntmps73
    go_upto_region 1 with fail
    rw [← hW, ← hzl, ← hzd, ← hzg]
    clear hW hzg hzd hzl
    go_upto_region 2 with (go_at_call 88; refine HIx.out.mono ?_; rintro e X ⟨rfl, hX⟩; have HX := Lib.hid (HBW.out.trans (hX.mono HBW.out.size)))
    have sG := HGW.out.below hX HGW.out.lt
    have sL := HR2.out.below hX HR2.out.lt
    have fG := sG.frozen
    have lG := sG.lt
    obtain ⟨c0, c1, c2, c3⟩ := HCe.out X sG
    have HGX := Lib.hid sG
    have HLX := Lib.hid sL
    clear hX sG sL
    go_upto_region 4 with fail
    have sG := HGX.out.set 3 (.slice (some ⟨b, o, none⟩) n c)
    have sL := HLX.out.far (p := ⟨zg, 3, none⟩) HZ3.out (.slice (some ⟨b, o, none⟩) n c)
    have bY := HX.out.setCell (p := ⟨zg, 3, none⟩) HZ2.out (.slice (some ⟨b, o, none⟩) n c)
    generalize X.setCell ⟨zg, 3, none⟩ (.slice (some ⟨b, o, none⟩) n c) = Y at sG sL bY ⊢
    have d0 : Y.cell? ⟨zg, 0, none⟩ = some (.slice R.A1 k.rules.length R.c1) := sG.cell (j := 0) (by simp)
    have d1 : Y.cell? ⟨zg, 1, none⟩ = some (.slice R.A2 k.ranks.length R.c2) := sG.cell (j := 1) (by simp)
    have d2 : Y.cell? ⟨zg, 2, none⟩ = some (.slice R.A3 k.insured.length R.c3) := sG.cell (j := 2) (by simp)
    have d3 : Y.cell? ⟨zg, 3, none⟩ = some (.slice (some ⟨b, o, none⟩) n c) := sG.cell (j := 3) (by simp)
    obtain ⟨e0, e1, e2, e3⟩ := HZe.out Y sL
    have fL := sL.frozen
    have lL := sL.lt
    have lG2 := sG.lt
    have HLY := Lib.hid sL
    have HBY := Lib.hid bY
    clear sG sL bY c0 c1 c2 c3 fG lG
    go_wp2_with fail
    refine bodyPost_ret (v := .agg #[.slice R.A1 k.rules.length R.c1, .slice R.A2 k.ranks.length R.c2, .slice R.A3 k.insured.length R.c3, .slice (some ⟨b, o, none⟩) n c]) (log_end _ 4 rfl _ zl _ _ _ _ _ rfl (row4 HLY.out _ _ _ _)) rfl ?_
    exact ⟨rfl, below4 HBY.out HZ1.out _ _ _ _⟩
  · have hx : idxZ l day = -1 := if_neg hu
    have hlen : (upL l day).length = l.length := by rw [HU.out, List.length_take]; omega
    rw [hx] at HIx
    rw [hlen]
    clear hx hlen HU hrn hul hu
    go_enter Try.func73, Try.ntmps73
    go_upto_region 1 with fail
    rw [← hW, ← hzl, ← hzd, ← hzg]
    clear hW hzg hzd hzl
    go_upto_region 2 with (go_at_call 88; refine HIx.out.mono ?_; rintro e X ⟨rfl, hX⟩; have HX := Lib.hid (HBW.out.trans (hX.mono HBW.out.size)))
    have sG := HGW.out.below hX HGW.out.lt
    have sL := HR2.out.below hX HR2.out.lt
    have lG := sG.lt
    have fL := sL.frozen
    have lL := sL.lt
    obtain ⟨c0, c1, c2, c3⟩ := HCe.out X sG
    obtain ⟨e0, e1, e2, e3⟩ := HZe.out X sL
    have HLX := Lib.hid sL
    clear hX sG sL
    go_wp2_with fail
    refine bodyPost_ret (v := .agg #[.slice R.A1 k.rules.length R.c1, .slice R.A2 k.ranks.length R.c2, .slice R.A3 k.insured.length R.c3, .slice A l.length c]) (log_end _ 4 rfl _ zl _ _ _ _ _ rfl (row4 HLX.out _ _ _ _)) rfl ?_
    exact ⟨rfl, below4 HX.out HZ1.out _ _ _ _⟩
end Go.Proofs.Ytaocgkmobfocjaa
