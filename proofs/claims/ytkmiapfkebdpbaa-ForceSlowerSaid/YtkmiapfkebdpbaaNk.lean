/- The walk of ForceKeeps. Conditions: a path that reads as points. -/
import Derived.Test.YtkmiapfkebdpbaaNc
import Derived.Test.YtkmiapfkebdpbaaRj
import Derived.Test.YtkmiapfkebdpbaaKy
import Derived.Test.YtkmiapfkebdpbaaLi
namespace Go.Proofs.Ytkmiapfkebdpbaa
open Go.RowKit

theorem mine_reads {w : World} {base : Nat} {e : TypeId} {size n c : Nat} {A : Option Addr} {xs : List Value} (h : w.ownsRow base e size (.slice A n c) n xs) : Reads w w.heap.size size A n xs := by
  obtain ⟨A', c', he, hr⟩ := own_reads h
  injection he with h1
  subst h1
  exact hr
theorem row_at7 {w : World} {g : Nat} {t : TypeId} {v0 v1 v2 v3 v4 v5 v6 : Value} (h : Row w g t [v0, v1, v2, v3, v4, v5, v6]) : (∀ o, w.frozen? ⟨g, o, none⟩ = false) ∧ w.cell? ⟨g, 0, none⟩ = some v0 ∧ w.cell? ⟨g, 1, none⟩ = some v1 ∧ w.cell? ⟨g, 2, none⟩ = some v2 ∧ w.cell? ⟨g, 3, none⟩ = some v3 ∧ w.cell? ⟨g, 4, none⟩ = some v4 ∧ w.cell? ⟨g, 5, none⟩ = some v5 ∧ w.cell? ⟨g, 6, none⟩ = some v6 :=
  ⟨fun o => h.frozen o, h.cell (j := 0) (by simp), h.cell (j := 1) (by simp), h.cell (j := 2) (by simp), h.cell (j := 3) (by simp), h.cell (j := 4) (by simp), h.cell (j := 5) (by simp), h.cell (j := 6) (by simp)⟩
def OwnPost (w : World) (t : List Pt) (e : Ending) (w' : World) : Prop := Below w.heap.size w w' ∧ ∃ A c, e = .returned (.slice A t.length c) ∧ Reads w' w'.heap.size 3 A t.length (ptCells t) ∧ w'.ownsRow w.heap.size 28 3 (.slice A t.length c) t.length (ptCells t)
set_option maxHeartbeats 1000000 in
theorem own_mine (t : List Pt) (A : Option Addr) (c B : Nat) (w : World) (hB : B ≤ w.heap.size) (hr : Reads w B 3 A t.length (ptCells t)) (hn : t.length ≤ 1000) :
    Calls Try.prog 16 #[.slice A t.length c] w (OwnPost w t) := by
  obtain ⟨i0, hi, hz0, hz1, hz2⟩ := info_parts Try.info_pt
  have hones : ∀ u ∈ ptCells t, u.oneCell' = true := by
    intro u hu
    simp only [ptCells, List.mem_flatMap] at hu
    obtain ⟨p, _, hu⟩ := hu
    simp at hu
    rcases hu with rfl | rfl | rfl <;> rfl
  have hown := World.ownsRow_made (w := w) (e := 28) (size := 3) (base := w.heap.size) #[] 0 (Nat.le_refl _) (Nat.zero_le _) (by simp)
  have m1 : 0 + t.length ≤ maxLen := by unfold maxLen; omega
  have m2 : (0 + t.length) * 24 ≤ 140737488355328 := by omega
  have hrX := hr.alloc hB (.cells #[] 28)
  have hm := Lib.hid hn
  clear hn
  go_enter Try.func16, Try.ntmps16
  go_wp2_with (at_builtin; refine wpList_app _ rfl _ _ 22 rfl w.heap.size 28 i0 (.agg #[.int .i64 0, .int .i64 0, .int .i64 0]) 3 24 Try.underlying22 hi hz0 hz1 hz2 rfl (by decide) (.slice (some ⟨w.heap.size, 0, none⟩) 0 0) 0 [] rfl hown B A t.length c (ptCells t) rfl hrX hones m1 m2 (by simp) ?_)
  intro v' w1 hown' hbel'
  obtain ⟨A', c', rfl, hrd⟩ := own_reads hown'
  have hb := ((Below.refl w.heap.size w).alloc (Nat.le_refl _) (.cells #[] 28)).trans hbel'
  have hrd2 : Reads w1 w1.heap.size 3 A' t.length (ptCells t) := by simpa using hrd
  go_wp2_with fail
  go_ret
  exact ⟨hb, A', c', rfl, hrd2, by simpa using hown'⟩
def RTrue (w : World) (e : Ending) (w' : World) : Prop := e = .returned (.bool true) ∧ Below w.heap.size w w'
set_option maxRecDepth 100000 in
set_option maxHeartbeats 4000000 in
theorem keeps_walk (t : List Pt) (m : Mot) (x : Lim) (fails : Bool) (A : Option Addr) (c B : Nat) (w : World) (hB : B ≤ w.heap.size) (hr : Reads w B 3 A t.length (ptCells t)) (hn : t.length ≤ maxLen) :
    Calls Try.prog 4 #[.slice A t.length c, rideV m x fails] w (RTrue w) := by
  obtain ⟨W, hW⟩ : ∃ W, W = w.alloc (.cells #[.int .i64 m.top, .int .i64 m.ease, .int .i64 m.jerk, .int .i64 x.side, .int .i64 x.low, .int .i64 x.high, .bool fails] 39) := ⟨_, rfl⟩
  have bW : Below w.heap.size w W := by subst hW; exact (Below.refl _ _).alloc (Nat.le_refl _) _
  have r0 : Row W w.heap.size 39 [.int .i64 m.top, .int .i64 m.ease, .int .i64 m.jerk, .int .i64 x.side, .int .i64 x.low, .int .i64 x.high, .bool fails] := by subst hW; exact Row.new w _ _
  have z0 := r0.lt
  have Hfin : Hid (∀ X : World, Below w.heap.size w X → Calls Try.prog 15 #[] X fun e w' => e = .returned (.bool true) ∧ Below w.heap.size w w') := fun X hX => (works_any X).mono fun _ _ h => ⟨h.1, hX.trans (h.2.mono hX.size)⟩
  obtain ⟨_, q0, q1, q2, q3, q4, q5, q6⟩ := row_at7 r0
  by_cases h70 : 70 < t.length
  · have h70' : (70 : Int) < (t.length : Int) := by omega
    clear hr hn
    unfold rideV
    go_enter Try.func4, Try.ntmps4
    go_wp2_with fail
    rw [← hW]
    refine (Hfin.out _ bW).mono ?_
    rintro e w4 ⟨rfl, hb4⟩
    go_wp2_with fail
    go_ret
    exact ⟨rfl, hb4⟩
  have h70' : ¬ (70 : Int) < (t.length : Int) := by omega
  have HR : Hid (∀ X, Below w.heap.size w X → B ≤ X.heap.size ∧ Reads X B 3 A t.length (ptCells t)) := fun X hX => ⟨Nat.le_trans hB hX.size, hr.below (hX.mono hB)⟩
  have HO : Hid (∀ X, Below w.heap.size w X → Calls Try.prog 16 #[.slice A t.length c] X (OwnPost X t)) := fun X hX => own_mine t A c B X (HR.out X hX).1 (HR.out X hX).2 (by omega)
  obtain ⟨⟨ch, bo, er⟩, hke⟩ : ∃ q, q = keepS t m x fails := ⟨_, rfl⟩
  obtain ⟨⟨⟨ws, wl, wh⟩, we⟩, hwe⟩ : ∃ q, q = wrS t m fails := ⟨_, rfl⟩
  have HK : Hid (∀ X A1 c1, Reads X X.heap.size 3 A1 t.length (ptCells t) → Calls Try.prog 20 #[.slice A1 t.length c1, .agg #[.int .i64 m.top, .int .i64 m.ease, .int .i64 m.jerk], .agg #[.int .i64 x.side, .int .i64 x.low, .int .i64 x.high], .bool fails] X fun e w' => e = .returned (.tuple #[.agg #[.int .i64 (ch.ph : Int), .int .i64 (ch.bf : Int), .int .i64 (ch.af : Int)], .bool bo, .int .i64 er]) ∧ Below X.heap.size X w') := fun X A1 c1 hX =>
    (Keeps_any t m x fails A1 c1 X.heap.size X (Nat.le_refl _) hX hn).mono fun e w' h => by
      obtain ⟨h1, h2⟩ := h
      rw [← hke] at h2
      exact ⟨h2, h1⟩
  have HKr : Hid (∀ X, Below w.heap.size w X → Calls Try.prog 21 #[.slice A t.length c, .agg #[.int .i64 m.top, .int .i64 m.ease, .int .i64 m.jerk], .agg #[.int .i64 x.side, .int .i64 x.low, .int .i64 x.high], .bool fails] X fun e w' => e = .returned (.tuple #[.agg #[.int .i64 (ch.ph : Int), .int .i64 (ch.bf : Int), .int .i64 (ch.af : Int)], .bool bo, .int .i64 er]) ∧ Below X.heap.size X w') := fun X hX =>
    (rKeeps_any t m x fails A c B X (HR.out X hX).1 (HR.out X hX).2 hn).mono fun e w' h => by
      obtain ⟨h1, h2⟩ := h
      rw [← hke] at h2
      exact ⟨h2, h1⟩
  have HWo : Hid (∀ X A1 c1, Reads X X.heap.size 3 A1 t.length (ptCells t) → Calls Try.prog 22 #[.slice A1 t.length c1, .agg #[.int .i64 m.top, .int .i64 m.ease, .int .i64 m.jerk], .bool fails] X fun e w' => e = .returned (.tuple #[.int .i64 ws, .int .i64 wl, .int .i64 wh, .int .i64 we]) ∧ Below X.heap.size X w') := fun X A1 c1 hX =>
    (Worst_any t m fails A1 c1 X.heap.size X (Nat.le_refl _) hX hn).mono fun e w' h => by
      obtain ⟨h1, h2⟩ := h
      rw [← hwe] at h2
      exact ⟨h2, h1⟩
  have HWr : Hid (∀ X, Below w.heap.size w X → Calls Try.prog 23 #[.slice A t.length c, .agg #[.int .i64 m.top, .int .i64 m.ease, .int .i64 m.jerk], .bool fails] X fun e w' => e = .returned (.tuple #[.int .i64 ws, .int .i64 wl, .int .i64 wh, .int .i64 we]) ∧ Below X.heap.size X w') := fun X hX =>
    (rWorst_any t m fails A c B X (HR.out X hX).1 (HR.out X hX).2 hn).mono fun e w' h => by
      obtain ⟨h1, h2⟩ := h
      rw [← hwe] at h2
      exact ⟨h2, h1⟩
  clear hke hwe hr hn
  unfold rideV
  go_enter Try.func4, Try.ntmps4
  go_upto_region 3 with (fail)
  rw [← hW]
  clear hW h70'
  refine wp_region_store 17 13 14 15 2 (w0 := W) (ord := [0, 1, 2, 3, 4, 5, 6, 7, 8, 9, 10, 11, 12, 13, 14, 15, 16]) (ds := [(0, 24), (1, 25), (2, 26), (3, 27), (4, 28), (5, 29), (6, 30), (7, 31), (8, 32), (9, 23), (10, 33), (11, 34), (12, 35), (13, 5), (15, 6), (16, 7)]) (l := [isV ?va0, isMine 28 3 t.length (ptCells t), isV ?va2, isV ?va3, isV ?va4, isV ?va5, isV ?va6, isV ?va7, isV ?va8, isV ?va9, isV ?va10, isV ?va11, isV ?va12, isPlace W.heap.size 24 3, anyV, isV ?va15, isV ?va16]) (holdsRow 24 [.int .i64 (ch.ph : Int), .int .i64 (ch.bf : Int), .int .i64 (ch.af : Int)]) rfl rfl (by kernel_rfl) (by kernel_rfl) (by first | rfl | kernel_rfl) (by kernel_rfl) rfl (AddSteps.cons (k := 0) (k' := 1) rfl ?sa0 (AddSteps.cons (k := 1) (k' := 2) rfl ?sa1 (AddSteps.cons (k := 2) (k' := 3) rfl ?sa2 (AddSteps.cons (k := 3) (k' := 4) rfl ?sa3 (AddSteps.cons (k := 4) (k' := 5) rfl ?sa4 (AddSteps.cons (k := 5) (k' := 6) rfl ?sa5 (AddSteps.cons (k := 6) (k' := 7) rfl ?sa6 (AddSteps.cons (k := 7) (k' := 8) rfl ?sa7 (AddSteps.cons (k := 8) (k' := 9) rfl ?sa8 (AddSteps.cons (k := 9) (k' := 10) rfl ?sa9 (AddSteps.cons (k := 10) (k' := 11) rfl ?sa10 (AddSteps.cons (k := 11) (k' := 12) rfl ?sa11 (AddSteps.cons (k := 12) (k' := 13) rfl ?sa12 (AddSteps.cons (k := 13) (k' := 14) rfl ?sa13 AddSteps.nil)))))))))))))) ?ssa (AddSteps.cons (k := 15) (k' := 16) rfl ?sa15 (AddSteps.cons (k := 16) (k' := 17) rfl ?sa16 AddSteps.nil)) rfl ?sta (stable_holdsRow _ _) ?fina
  case sa0 =>
    refine AddStep.go (o := ⟨some 24, _, _, _, _, _⟩) rfl rfl (fun xs y hy hV K hK => ?_)
    clear hV
    simp only [putsF, List.foldl_cons, List.foldl_nil, Act.put, List.setIfInBounds_toArray, List.set_cons_zero, List.set_cons_succ] at hK ⊢
    go_wp2_with fail
    exact hK.out _ _ (Below.refl _ _) (by exact rfl)
  case sa1 =>
    refine AddStep.go (o := ⟨some 25, _, _, _, _, _⟩) rfl rfl (fun xs y hy hV K hK => ?_)
    have e0 : xs 0 = _ := hV 0 (by kernel_rfl)
    clear hV
    simp only [putsF, List.foldl_cons, List.foldl_nil, Act.put, List.setIfInBounds_toArray, List.set_cons_zero, List.set_cons_succ] at hK ⊢
    simp only [e0] at hK ⊢
    clear e0
    go_wp2_with (go_at_call 16; refine (HO.out y (bW.trans (hy.mono bW.size))).mono ?_; rintro e z ⟨hz, A1, c1, rfl, _, ho⟩)
    exact hK.out _ _ hz ⟨A1, c1, _, rfl, ho⟩
  case sa2 =>
    refine AddStep.go (o := ⟨some 26, _, _, _, _, _⟩) rfl rfl (fun xs y hy hV K hK => ?_)
    clear hV
    simp only [putsF, List.foldl_cons, List.foldl_nil, Act.put, List.setIfInBounds_toArray, List.set_cons_zero, List.set_cons_succ] at hK ⊢
    go_wp2_with fail
    exact hK.out _ _ (Below.refl _ _) (by exact rfl)
  case sa3 =>
    refine AddStep.go (o := ⟨some 27, _, _, _, _, _⟩) rfl rfl (fun xs y hy hV K hK => ?_)
    have e2 : xs 2 = _ := hV 2 (by kernel_rfl)
    clear hV
    simp only [putsF, List.foldl_cons, List.foldl_nil, Act.put, List.setIfInBounds_toArray, List.set_cons_zero, List.set_cons_succ] at hK ⊢
    simp only [e2] at hK ⊢
    clear e2
    obtain ⟨_, q0, q1, q2, q3, q4, q5, q6⟩ := row_at7 (r0.below hy z0)
    go_wp2_with fail
    exact hK.out _ _ (Below.refl _ _) (by exact rfl)
  case sa4 =>
    refine AddStep.go (o := ⟨some 28, _, _, _, _, _⟩) rfl rfl (fun xs y hy hV K hK => ?_)
    clear hV
    simp only [putsF, List.foldl_cons, List.foldl_nil, Act.put, List.setIfInBounds_toArray, List.set_cons_zero, List.set_cons_succ] at hK ⊢
    go_wp2_with fail
    exact hK.out _ _ (Below.refl _ _) (by exact rfl)
  case sa5 =>
    refine AddStep.go (o := ⟨some 29, _, _, _, _, _⟩) rfl rfl (fun xs y hy hV K hK => ?_)
    have e4 : xs 4 = _ := hV 4 (by kernel_rfl)
    clear hV
    simp only [putsF, List.foldl_cons, List.foldl_nil, Act.put, List.setIfInBounds_toArray, List.set_cons_zero, List.set_cons_succ] at hK ⊢
    simp only [e4] at hK ⊢
    clear e4
    obtain ⟨_, q0, q1, q2, q3, q4, q5, q6⟩ := row_at7 (r0.below hy z0)
    go_wp2_with fail
    exact hK.out _ _ (Below.refl _ _) (by exact rfl)
  case sa6 =>
    refine AddStep.go (o := ⟨some 30, _, _, _, _, _⟩) rfl rfl (fun xs y hy hV K hK => ?_)
    clear hV
    simp only [putsF, List.foldl_cons, List.foldl_nil, Act.put, List.setIfInBounds_toArray, List.set_cons_zero, List.set_cons_succ] at hK ⊢
    go_wp2_with fail
    exact hK.out _ _ (Below.refl _ _) (by exact rfl)
  case sa7 =>
    refine AddStep.go (o := ⟨some 31, _, _, _, _, _⟩) rfl rfl (fun xs y hy hV K hK => ?_)
    have e6 : xs 6 = _ := hV 6 (by kernel_rfl)
    clear hV
    simp only [putsF, List.foldl_cons, List.foldl_nil, Act.put, List.setIfInBounds_toArray, List.set_cons_zero, List.set_cons_succ] at hK ⊢
    simp only [e6] at hK ⊢
    clear e6
    obtain ⟨_, q0, q1, q2, q3, q4, q5, q6⟩ := row_at7 (r0.below hy z0)
    go_wp2_with fail
    exact hK.out _ _ (Below.refl _ _) (by exact rfl)
  case sa8 =>
    refine AddStep.go (o := ⟨some 32, _, _, _, _, _⟩) rfl rfl (fun xs y hy hV K hK => ?_)
    obtain ⟨A1, c1, o1, e1, ho1⟩ := (hV 1 (by kernel_rfl))
    have e3 : xs 3 = _ := hV 3 (by kernel_rfl)
    have e5 : xs 5 = _ := hV 5 (by kernel_rfl)
    have e7 : xs 7 = _ := hV 7 (by kernel_rfl)
    clear hV
    simp only [putsF, List.foldl_cons, List.foldl_nil, Act.put, List.setIfInBounds_toArray, List.set_cons_zero, List.set_cons_succ] at hK ⊢
    simp only [e1, e3, e5, e7] at hK ⊢
    clear e1 e3 e5 e7
    go_wp2_with (go_at_call 20; refine (HK.out y A1 c1 (mine_reads ho1)).mono ?_; rintro e z ⟨rfl, hz⟩)
    exact hK.out _ _ hz (by exact rfl)
  case sa9 =>
    refine AddStep.go (o := ⟨some 23, _, _, _, _, _⟩) rfl rfl (fun xs y hy hV K hK => ?_)
    have e8 : xs 8 = _ := hV 8 (by kernel_rfl)
    clear hV
    simp only [putsF, List.foldl_cons, List.foldl_nil, Act.put, List.setIfInBounds_toArray, List.set_cons_zero, List.set_cons_succ] at hK ⊢
    simp only [e8] at hK ⊢
    clear e8
    go_wp2_with fail
    exact hK.out _ _ (Below.refl _ _) (by exact rfl)
  case sa10 =>
    refine AddStep.go (o := ⟨some 33, _, _, _, _, _⟩) rfl rfl (fun xs y hy hV K hK => ?_)
    have e9 : xs 9 = _ := hV 9 (by kernel_rfl)
    clear hV
    simp only [putsF, List.foldl_cons, List.foldl_nil, Act.put, List.setIfInBounds_toArray, List.set_cons_zero, List.set_cons_succ] at hK ⊢
    simp only [e9] at hK ⊢
    clear e9
    go_wp2_with fail
    exact hK.out _ _ (Below.refl _ _) (by exact rfl)
  case sa11 =>
    refine AddStep.go (o := ⟨some 34, _, _, _, _, _⟩) rfl rfl (fun xs y hy hV K hK => ?_)
    have e9 : xs 9 = _ := hV 9 (by kernel_rfl)
    clear hV
    simp only [putsF, List.foldl_cons, List.foldl_nil, Act.put, List.setIfInBounds_toArray, List.set_cons_zero, List.set_cons_succ] at hK ⊢
    simp only [e9] at hK ⊢
    clear e9
    go_wp2_with fail
    exact hK.out _ _ (Below.refl _ _) (by exact rfl)
  case sa12 =>
    refine AddStep.go (o := ⟨some 35, _, _, _, _, _⟩) rfl rfl (fun xs y hy hV K hK => ?_)
    have e9 : xs 9 = _ := hV 9 (by kernel_rfl)
    clear hV
    simp only [putsF, List.foldl_cons, List.foldl_nil, Act.put, List.setIfInBounds_toArray, List.set_cons_zero, List.set_cons_succ] at hK ⊢
    simp only [e9] at hK ⊢
    clear e9
    go_wp2_with fail
    exact hK.out _ _ (Below.refl _ _) (by exact rfl)
  case sa13 =>
    refine AddStep.go (o := ⟨some 5, _, _, _, _, _⟩) rfl rfl (fun xs y hy hV K hK => ?_)
    clear hV
    simp only [putsF, List.foldl_cons, List.foldl_nil, Act.put, List.setIfInBounds_toArray, List.set_cons_zero, List.set_cons_succ] at hK ⊢
    go_wp2_with fail
    exact hK.out _ _ ((Below.refl _ _).alloc (Nat.le_refl _) _) ⟨y.heap.size, _, rfl, hy.size, Row.new y _ _, rfl⟩
  case ssa =>
    refine StoreStep.go (o := ⟨none, _, _, _, _, _⟩) rfl rfl rfl (fun xs y hy hV K hK => ?_)
    simp only [putsF, List.foldl_cons, List.foldl_nil, Act.put, List.setIfInBounds_toArray, List.set_cons_zero, List.set_cons_succ] at hK ⊢
    obtain ⟨g, cs, e13, hg, hrow, hlen⟩ := (hV 13 (by kernel_rfl))
    have e10 : xs 10 = _ := hV 10 (by kernel_rfl)
    clear hV
    simp only [e13, e10] at hK ⊢
    clear e13 e10
    match cs, hlen, hrow with
    | [a0, a1, a2], _, hrow =>
      obtain ⟨_, q0, q1, q2⟩ := Row.at_3 hrow
      go_wp2_with fail
      exact hK.out _ (below_set3 hy hg _ _ _) (KeepL.cons (fun _ h => h) (KeepL.cons (keep_mine hrow (by decide) _ _ _) (KeepL.cons (fun _ h => h) (KeepL.cons (fun _ h => h) (KeepL.cons (fun _ h => h) (KeepL.cons (fun _ h => h) (KeepL.cons (fun _ h => h) (KeepL.cons (fun _ h => h) (KeepL.cons (fun _ h => h) (KeepL.cons (fun _ h => h) (KeepL.cons (fun _ h => h) (KeepL.cons (fun _ h => h) (KeepL.cons (fun _ h => h) (KeepL.cons (keep_place _ _ _) (KeepL.cons (fun _ h => h) (KeepL.cons (fun _ h => h) (KeepL.cons (fun _ h => h) KeepL.nil))))))))))))))))) ⟨g, rfl, row_set3 hrow _ _ _⟩
  case sa15 =>
    refine AddStep.go (o := ⟨some 6, _, _, _, _, _⟩) rfl rfl (fun xs y hy hV K hK => ?_)
    have e11 : xs 11 = _ := hV 11 (by kernel_rfl)
    clear hV
    simp only [putsF, List.foldl_cons, List.foldl_nil, Act.put, List.setIfInBounds_toArray, List.set_cons_zero, List.set_cons_succ] at hK ⊢
    simp only [e11] at hK ⊢
    clear e11
    go_wp2_with fail
    exact hK.out _ _ (Below.refl _ _) (by exact rfl)
  case sa16 =>
    refine AddStep.go (o := ⟨some 7, _, _, _, _, _⟩) rfl rfl (fun xs y hy hV K hK => ?_)
    have e12 : xs 12 = _ := hV 12 (by kernel_rfl)
    clear hV
    simp only [putsF, List.foldl_cons, List.foldl_nil, Act.put, List.setIfInBounds_toArray, List.set_cons_zero, List.set_cons_succ] at hK ⊢
    simp only [e12] at hK ⊢
    clear e12
    go_wp2_with fail
    exact hK.out _ _ (Below.refl _ _) (by exact rfl)
  case sta => exact (AllSt.cons (stable_isV _) (AllSt.cons (stable_isMine _ _ _ _) (AllSt.cons (stable_isV _) (AllSt.cons (stable_isV _) (AllSt.cons (stable_isV _) (AllSt.cons (stable_isV _) (AllSt.cons (stable_isV _) (AllSt.cons (stable_isV _) (AllSt.cons (stable_isV _) (AllSt.cons (stable_isV _) (AllSt.cons (stable_isV _) (AllSt.cons (stable_isV _) (AllSt.cons (stable_isV _) (AllSt.cons (stable_isPlace _ _ _) (AllSt.cons (stable_anyV) (AllSt.cons (stable_isV _) (AllSt.cons (stable_isV _) AllSt.nil)))))))))))))))))
  case fina =>
    intro xs y hy hV hL
    have e0 : xs 0 = _ := hV 0 (by decide)
    obtain ⟨A1, c1, o1, e1, ho1⟩ := (hV 1 (by decide))
    have e2 : xs 2 = _ := hV 2 (by decide)
    have e3 : xs 3 = _ := hV 3 (by decide)
    have e4 : xs 4 = _ := hV 4 (by decide)
    have e5 : xs 5 = _ := hV 5 (by decide)
    have e6 : xs 6 = _ := hV 6 (by decide)
    have e7 : xs 7 = _ := hV 7 (by decide)
    have e8 : xs 8 = _ := hV 8 (by decide)
    have e9 : xs 9 = _ := hV 9 (by decide)
    have e10 : xs 10 = _ := hV 10 (by decide)
    have e11 : xs 11 = _ := hV 11 (by decide)
    have e12 : xs 12 = _ := hV 12 (by decide)
    obtain ⟨g, cs, e13, hg, hrow, hlen⟩ := (hV 13 (by decide))
    have e15 : xs 15 = _ := hV 15 (by decide)
    have e16 : xs 16 = _ := hV 16 (by decide)
    clear hV
    simp only [putsF, List.foldl_cons, List.foldl_nil, Act.put, List.setIfInBounds_toArray, List.set_cons_zero, List.set_cons_succ]
    simp only [e0, e1, e2, e3, e4, e5, e6, e7, e8, e9, e10, e11, e12, e13, e15, e16]
    rw [e13] at hL
    clear e0 e1 e2 e3 e4 e5 e6 e7 e8 e9 e10 e11 e12 e13 e15 e16
    clear ho1 hrow
    obtain ⟨g', hgg, hch⟩ := hL
    injection hgg with hgg
    injection hgg with hgg
    injection hgg with hgg
    subst hgg
    have by0 := bW.trans (hy.mono bW.size)
    have ry := r0.below hy z0
    have zy := ry.lt
    clear q0 q1 q2 q3 q4 q5 q6
    obtain ⟨_, q0, q1, q2, q3, q4, q5, q6⟩ := row_at7 ry
    go_wp2_with fail
    refine (HKr.out y by0).mono ?_
    rintro e w3 ⟨rfl, hb3⟩
    have b3 := by0.trans (hb3.mono by0.size)
    have r3 := ry.below hb3 zy
    have c3 := hch.below hb3 hch.lt
    go_upto_region 5 with (fail)
    obtain ⟨X, hX⟩ : ∃ X, X = w3.alloc (.cells #[.int .i64 (ch.ph : Int), .int .i64 (ch.bf : Int), .int .i64 (ch.af : Int)] 24) := ⟨_, rfl⟩
    rw [← hX]
    have bX : Below w.heap.size w X := by subst hX; exact b3.alloc b3.size _
    have rX : Row X w.heap.size 39 [.int .i64 m.top, .int .i64 m.ease, .int .i64 m.jerk, .int .i64 x.side, .int .i64 x.low, .int .i64 x.high, .bool fails] := by subst hX; exact r3.alloc _
    have cX : Row X g 24 [.int .i64 (ch.ph : Int), .int .i64 (ch.bf : Int), .int .i64 (ch.af : Int)] := by subst hX; exact c3.alloc _
    have dX : Row X w3.heap.size 24 [.int .i64 (ch.ph : Int), .int .i64 (ch.bf : Int), .int .i64 (ch.af : Int)] := by subst hX; exact Row.new w3 _ _
    clear hX q0 q1 q2 q3 q4 q5 q6 r3 c3 b3 hb3 ry hch by0 zy hy
    have zX := rX.lt
    refine wp_region_all 16 (w0 := X) (ord := [0, 1, 2, 3, 4, 5, 6, 7, 8, 9, 10, 11, 12, 13, 14, 15]) (ds := [(0, 49), (1, 50), (2, 51), (3, 52), (4, 53), (5, 54), (6, 55), (7, 48), (8, 56), (9, 57), (10, 58), (11, 59), (12, 11), (13, 12), (14, 13), (15, 14)]) (l := [isV ?vb0, isMine 28 3 t.length (ptCells t), isV ?vb2, isV ?vb3, isV ?vb4, isV ?vb5, isV ?vb6, isV ?vb7, isV ?vb8, isV ?vb9, isV ?vb10, isV ?vb11, isV ?vb12, isV ?vb13, isV ?vb14, isV ?vb15]) (by kernel_rfl) (by kernel_rfl) (by first | rfl | kernel_rfl) (AddSteps.cons (k := 0) (k' := 1) rfl ?sb0 (AddSteps.cons (k := 1) (k' := 2) rfl ?sb1 (AddSteps.cons (k := 2) (k' := 3) rfl ?sb2 (AddSteps.cons (k := 3) (k' := 4) rfl ?sb3 (AddSteps.cons (k := 4) (k' := 5) rfl ?sb4 (AddSteps.cons (k := 5) (k' := 6) rfl ?sb5 (AddSteps.cons (k := 6) (k' := 7) rfl ?sb6 (AddSteps.cons (k := 7) (k' := 8) rfl ?sb7 (AddSteps.cons (k := 8) (k' := 9) rfl ?sb8 (AddSteps.cons (k := 9) (k' := 10) rfl ?sb9 (AddSteps.cons (k := 10) (k' := 11) rfl ?sb10 (AddSteps.cons (k := 11) (k' := 12) rfl ?sb11 (AddSteps.cons (k := 12) (k' := 13) rfl ?sb12 (AddSteps.cons (k := 13) (k' := 14) rfl ?sb13 (AddSteps.cons (k := 14) (k' := 15) rfl ?sb14 (AddSteps.cons (k := 15) (k' := 16) rfl ?sb15 AddSteps.nil)))))))))))))))) ?stb ?finb
    case sb0 =>
      refine AddStep.go (o := ⟨some 49, _, _, _, _, _⟩) rfl rfl (fun xs y hy hV K hK => ?_)
      clear hV
      simp only [putsF, List.foldl_cons, List.foldl_nil, Act.put, List.setIfInBounds_toArray, List.set_cons_zero, List.set_cons_succ] at hK ⊢
      go_wp2_with fail
      exact hK.out _ _ (Below.refl _ _) (by exact rfl)
    case sb1 =>
      refine AddStep.go (o := ⟨some 50, _, _, _, _, _⟩) rfl rfl (fun xs y hy hV K hK => ?_)
      have e0 : xs 0 = _ := hV 0 (by kernel_rfl)
      clear hV
      simp only [putsF, List.foldl_cons, List.foldl_nil, Act.put, List.setIfInBounds_toArray, List.set_cons_zero, List.set_cons_succ] at hK ⊢
      simp only [e0] at hK ⊢
      clear e0
      go_wp2_with (go_at_call 16; refine (HO.out y (bX.trans (hy.mono bX.size))).mono ?_; rintro e z ⟨hz, A1, c1, rfl, _, ho⟩)
      exact hK.out _ _ hz ⟨A1, c1, _, rfl, ho⟩
    case sb2 =>
      refine AddStep.go (o := ⟨some 51, _, _, _, _, _⟩) rfl rfl (fun xs y hy hV K hK => ?_)
      clear hV
      simp only [putsF, List.foldl_cons, List.foldl_nil, Act.put, List.setIfInBounds_toArray, List.set_cons_zero, List.set_cons_succ] at hK ⊢
      go_wp2_with fail
      exact hK.out _ _ (Below.refl _ _) (by exact rfl)
    case sb3 =>
      refine AddStep.go (o := ⟨some 52, _, _, _, _, _⟩) rfl rfl (fun xs y hy hV K hK => ?_)
      have e2 : xs 2 = _ := hV 2 (by kernel_rfl)
      clear hV
      simp only [putsF, List.foldl_cons, List.foldl_nil, Act.put, List.setIfInBounds_toArray, List.set_cons_zero, List.set_cons_succ] at hK ⊢
      simp only [e2] at hK ⊢
      clear e2
      obtain ⟨_, q0, q1, q2, q3, q4, q5, q6⟩ := row_at7 (rX.below hy zX)
      go_wp2_with fail
      exact hK.out _ _ (Below.refl _ _) (by exact rfl)
    case sb4 =>
      refine AddStep.go (o := ⟨some 53, _, _, _, _, _⟩) rfl rfl (fun xs y hy hV K hK => ?_)
      clear hV
      simp only [putsF, List.foldl_cons, List.foldl_nil, Act.put, List.setIfInBounds_toArray, List.set_cons_zero, List.set_cons_succ] at hK ⊢
      go_wp2_with fail
      exact hK.out _ _ (Below.refl _ _) (by exact rfl)
    case sb5 =>
      refine AddStep.go (o := ⟨some 54, _, _, _, _, _⟩) rfl rfl (fun xs y hy hV K hK => ?_)
      have e4 : xs 4 = _ := hV 4 (by kernel_rfl)
      clear hV
      simp only [putsF, List.foldl_cons, List.foldl_nil, Act.put, List.setIfInBounds_toArray, List.set_cons_zero, List.set_cons_succ] at hK ⊢
      simp only [e4] at hK ⊢
      clear e4
      obtain ⟨_, q0, q1, q2, q3, q4, q5, q6⟩ := row_at7 (rX.below hy zX)
      go_wp2_with fail
      exact hK.out _ _ (Below.refl _ _) (by exact rfl)
    case sb6 =>
      refine AddStep.go (o := ⟨some 55, _, _, _, _, _⟩) rfl rfl (fun xs y hy hV K hK => ?_)
      obtain ⟨A1, c1, o1, e1, ho1⟩ := (hV 1 (by kernel_rfl))
      have e3 : xs 3 = _ := hV 3 (by kernel_rfl)
      have e5 : xs 5 = _ := hV 5 (by kernel_rfl)
      clear hV
      simp only [putsF, List.foldl_cons, List.foldl_nil, Act.put, List.setIfInBounds_toArray, List.set_cons_zero, List.set_cons_succ] at hK ⊢
      simp only [e1, e3, e5] at hK ⊢
      clear e1 e3 e5
      go_wp2_with (go_at_call 22; refine (HWo.out y A1 c1 (mine_reads ho1)).mono ?_; rintro e z ⟨rfl, hz⟩)
      exact hK.out _ _ hz (by exact rfl)
    case sb7 =>
      refine AddStep.go (o := ⟨some 48, _, _, _, _, _⟩) rfl rfl (fun xs y hy hV K hK => ?_)
      have e6 : xs 6 = _ := hV 6 (by kernel_rfl)
      clear hV
      simp only [putsF, List.foldl_cons, List.foldl_nil, Act.put, List.setIfInBounds_toArray, List.set_cons_zero, List.set_cons_succ] at hK ⊢
      simp only [e6] at hK ⊢
      clear e6
      go_wp2_with fail
      exact hK.out _ _ (Below.refl _ _) (by exact rfl)
    case sb8 =>
      refine AddStep.go (o := ⟨some 56, _, _, _, _, _⟩) rfl rfl (fun xs y hy hV K hK => ?_)
      have e7 : xs 7 = _ := hV 7 (by kernel_rfl)
      clear hV
      simp only [putsF, List.foldl_cons, List.foldl_nil, Act.put, List.setIfInBounds_toArray, List.set_cons_zero, List.set_cons_succ] at hK ⊢
      simp only [e7] at hK ⊢
      clear e7
      go_wp2_with fail
      exact hK.out _ _ (Below.refl _ _) (by exact rfl)
    case sb9 =>
      refine AddStep.go (o := ⟨some 57, _, _, _, _, _⟩) rfl rfl (fun xs y hy hV K hK => ?_)
      have e7 : xs 7 = _ := hV 7 (by kernel_rfl)
      clear hV
      simp only [putsF, List.foldl_cons, List.foldl_nil, Act.put, List.setIfInBounds_toArray, List.set_cons_zero, List.set_cons_succ] at hK ⊢
      simp only [e7] at hK ⊢
      clear e7
      go_wp2_with fail
      exact hK.out _ _ (Below.refl _ _) (by exact rfl)
    case sb10 =>
      refine AddStep.go (o := ⟨some 58, _, _, _, _, _⟩) rfl rfl (fun xs y hy hV K hK => ?_)
      have e7 : xs 7 = _ := hV 7 (by kernel_rfl)
      clear hV
      simp only [putsF, List.foldl_cons, List.foldl_nil, Act.put, List.setIfInBounds_toArray, List.set_cons_zero, List.set_cons_succ] at hK ⊢
      simp only [e7] at hK ⊢
      clear e7
      go_wp2_with fail
      exact hK.out _ _ (Below.refl _ _) (by exact rfl)
    case sb11 =>
      refine AddStep.go (o := ⟨some 59, _, _, _, _, _⟩) rfl rfl (fun xs y hy hV K hK => ?_)
      have e7 : xs 7 = _ := hV 7 (by kernel_rfl)
      clear hV
      simp only [putsF, List.foldl_cons, List.foldl_nil, Act.put, List.setIfInBounds_toArray, List.set_cons_zero, List.set_cons_succ] at hK ⊢
      simp only [e7] at hK ⊢
      clear e7
      go_wp2_with fail
      exact hK.out _ _ (Below.refl _ _) (by exact rfl)
    case sb12 =>
      refine AddStep.go (o := ⟨some 11, _, _, _, _, _⟩) rfl rfl (fun xs y hy hV K hK => ?_)
      have e8 : xs 8 = _ := hV 8 (by kernel_rfl)
      clear hV
      simp only [putsF, List.foldl_cons, List.foldl_nil, Act.put, List.setIfInBounds_toArray, List.set_cons_zero, List.set_cons_succ] at hK ⊢
      simp only [e8] at hK ⊢
      clear e8
      go_wp2_with fail
      exact hK.out _ _ (Below.refl _ _) (by exact rfl)
    case sb13 =>
      refine AddStep.go (o := ⟨some 12, _, _, _, _, _⟩) rfl rfl (fun xs y hy hV K hK => ?_)
      have e9 : xs 9 = _ := hV 9 (by kernel_rfl)
      clear hV
      simp only [putsF, List.foldl_cons, List.foldl_nil, Act.put, List.setIfInBounds_toArray, List.set_cons_zero, List.set_cons_succ] at hK ⊢
      simp only [e9] at hK ⊢
      clear e9
      go_wp2_with fail
      exact hK.out _ _ (Below.refl _ _) (by exact rfl)
    case sb14 =>
      refine AddStep.go (o := ⟨some 13, _, _, _, _, _⟩) rfl rfl (fun xs y hy hV K hK => ?_)
      have e10 : xs 10 = _ := hV 10 (by kernel_rfl)
      clear hV
      simp only [putsF, List.foldl_cons, List.foldl_nil, Act.put, List.setIfInBounds_toArray, List.set_cons_zero, List.set_cons_succ] at hK ⊢
      simp only [e10] at hK ⊢
      clear e10
      go_wp2_with fail
      exact hK.out _ _ (Below.refl _ _) (by exact rfl)
    case sb15 =>
      refine AddStep.go (o := ⟨some 14, _, _, _, _, _⟩) rfl rfl (fun xs y hy hV K hK => ?_)
      have e11 : xs 11 = _ := hV 11 (by kernel_rfl)
      clear hV
      simp only [putsF, List.foldl_cons, List.foldl_nil, Act.put, List.setIfInBounds_toArray, List.set_cons_zero, List.set_cons_succ] at hK ⊢
      simp only [e11] at hK ⊢
      clear e11
      go_wp2_with fail
      exact hK.out _ _ (Below.refl _ _) (by exact rfl)
    case stb => exact (AllSt.cons (stable_isV _) (AllSt.cons (stable_isMine _ _ _ _) (AllSt.cons (stable_isV _) (AllSt.cons (stable_isV _) (AllSt.cons (stable_isV _) (AllSt.cons (stable_isV _) (AllSt.cons (stable_isV _) (AllSt.cons (stable_isV _) (AllSt.cons (stable_isV _) (AllSt.cons (stable_isV _) (AllSt.cons (stable_isV _) (AllSt.cons (stable_isV _) (AllSt.cons (stable_isV _) (AllSt.cons (stable_isV _) (AllSt.cons (stable_isV _) (AllSt.cons (stable_isV _) AllSt.nil))))))))))))))))
    case finb =>
      intro xs y hy hV
      have e0 : xs 0 = _ := hV 0 (by decide)
      obtain ⟨A1, c1, o1, e1, ho1⟩ := (hV 1 (by decide))
      have e2 : xs 2 = _ := hV 2 (by decide)
      have e3 : xs 3 = _ := hV 3 (by decide)
      have e4 : xs 4 = _ := hV 4 (by decide)
      have e5 : xs 5 = _ := hV 5 (by decide)
      have e6 : xs 6 = _ := hV 6 (by decide)
      have e7 : xs 7 = _ := hV 7 (by decide)
      have e8 : xs 8 = _ := hV 8 (by decide)
      have e9 : xs 9 = _ := hV 9 (by decide)
      have e10 : xs 10 = _ := hV 10 (by decide)
      have e11 : xs 11 = _ := hV 11 (by decide)
      have e12 : xs 12 = _ := hV 12 (by decide)
      have e13 : xs 13 = _ := hV 13 (by decide)
      have e14 : xs 14 = _ := hV 14 (by decide)
      have e15 : xs 15 = _ := hV 15 (by decide)
      clear hV
      simp only [putsF, List.foldl_cons, List.foldl_nil, Act.put, List.setIfInBounds_toArray, List.set_cons_zero, List.set_cons_succ]
      simp only [e0, e1, e2, e3, e4, e5, e6, e7, e8, e9, e10, e11, e12, e13, e14, e15]
      clear e0 e1 e2 e3 e4 e5 e6 e7 e8 e9 e10 e11 e12 e13 e14 e15
      clear ho1
      have b5 := bX.trans (hy.mono bX.size)
      have r5 := rX.below hy zX
      have c5 := cX.below hy cX.lt
      have d5 := dX.below hy dX.lt
      obtain ⟨_, q0, q1, q2, q3, q4, q5, q6⟩ := row_at7 r5
      go_wp2_with fail
      refine (HWr.out y b5).mono ?_
      rintro e w6 ⟨rfl, hb6⟩
      have b6 := b5.trans (hb6.mono b5.size)
      have c6 := c5.below hb6 c5.lt
      have d6 := d5.below hb6 d5.lt
      clear q0 q1 q2 q3 q4 q5 q6
      obtain ⟨_, q0, q1, q2⟩ := Row.at_3 c6
      obtain ⟨_, u0, u1, u2⟩ := Row.at_3 d6
      go_wp2_with fail
      refine (Hfin.out _ b6).mono ?_
      rintro e w7 ⟨rfl, hb7⟩
      go_wp2_with fail
      go_ret
      exact ⟨rfl, hb7⟩
end Go.Proofs.Ytkmiapfkebdpbaa
