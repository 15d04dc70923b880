/- Contracts of inspect's readOn, readRide and Check. Conditions: a book and entries that read as data. -/
import Derived.Test.YtaocgkmobfocjaaIns
namespace Go.Proofs.Ytaocgkmobfocjaa
open Go.RowKit

/-- The error of a book, entries and a day. -/
def onE (k : BookZ) (l : List EntZ) (day : Int) : Int := if (chkR k l).2 = 0 then if inB day 0 10000 = true then 0 else 1 else (chkR k l).2
/-- The error of a book, entries, a ride and a day. -/
def rideE (k : BookZ) (l : List EntZ) (ride day : Int) : Int := if onE k l day = 0 then if inB ride 0 ((k.insured.length : Int) - 1) = true then 0 else 1 else onE k l day
/-- A log, unless there is an error. -/
def LgTo (w : World) (E : Int) (L : Value) (e : Ending) (w' : World) : Prop := e = .returned (.tuple #[if E = 0 then L else logZ, .int .i64 E]) ∧ Below w.heap.size w w'
theorem LgTo.bad {w w' : World} {E : Int} {L : Value} (h : E ≠ 0) (hb : Below w.heap.size w w') : LgTo w E L (.returned (.tuple #[.agg #[.slice none 0 0, .slice none 0 0, .slice none 0 0, .slice none 0 0], .int .i64 E])) w' := ⟨by rw [if_neg h]; rfl, hb⟩
theorem LgTo.ok {w w' : World} {E : Int} {L : Value} (h : E = 0) (hb : Below w.heap.size w w') : LgTo w E L (.returned (.tuple #[L, .int .i64 0])) w' := ⟨by rw [if_pos h, h], hb⟩
set_option maxRecDepth 100000 in
set_option maxHeartbeats 1000000 in
theorem readOn_any (k : BookZ) (R : BkR) (l : List EntZ) (A : Option Addr) (c B : Nat) (day : Int) (w : World) (hB : B ≤ w.heap.size) (hl : l.length ≤ maxLen) (hlc : l.length ≤ c) (hr : Reads w B 5 A l.length (entCells l)) (hk : BkIn w B k R) :
    Calls Try.prog 47 #[bookV k R, .slice A l.length c, .int .i64 day] w (LgTo w (onE k l day) (logV k R (upL l day) A c)) := by
  obtain ⟨W, hW⟩ : ∃ W, W = (w.alloc (.cells #[.slice R.A1 k.rules.length R.c1, .slice R.A2 k.ranks.length R.c2, .slice R.A3 k.insured.length R.c3] 25)).alloc (.cells #[.slice none 0 0, .slice none 0 0, .slice none 0 0, .slice none 0 0] 66) := ⟨_, rfl⟩
  have bW : Below w.heap.size w W := by subst hW; exact ((Below.refl _ _).alloc (Nat.le_refl _) _).alloc (by simp) _
  have r0 : Row W w.heap.size 25 [.slice R.A1 k.rules.length R.c1, .slice R.A2 k.ranks.length R.c2, .slice R.A3 k.insured.length R.c3] := by subst hW; exact (Row.new w _ _).alloc _
  have r1 : Row W (w.heap.size + 1) 66 [.slice none 0 0, .slice none 0 0, .slice none 0 0, .slice none 0 0] := by
    subst hW
    have h := Row.new (w.alloc (.cells #[.slice R.A1 k.rules.length R.c1, .slice R.A2 k.ranks.length R.c2, .slice R.A3 k.insured.length R.c3] 25)) 66 #[.slice none 0 0, .slice none 0 0, .slice none 0 0, .slice none 0 0]
    rw [World.size_alloc] at h
    exact h
  obtain ⟨zb, hzb⟩ : ∃ z, z = w.heap.size := ⟨_, rfl⟩
  obtain ⟨zl, hzl⟩ : ∃ z, z = w.heap.size + 1 := ⟨_, rfl⟩
  have HZL : Hid (w.heap.size ≤ zl) := by show _ ≤ _; omega
  rw [← hzb] at r0
  rw [← hzl] at r1
  have q0 : W.cell? ⟨zb, 0, none⟩ = some (.slice R.A1 k.rules.length R.c1) := r0.cell (j := 0) (by simp)
  have q1 : W.cell? ⟨zb, 1, none⟩ = some (.slice R.A2 k.ranks.length R.c2) := r0.cell (j := 1) (by simp)
  have q2 : W.cell? ⟨zb, 2, none⟩ = some (.slice R.A3 k.insured.length R.c3) := r0.cell (j := 2) (by simp)
  have lW := r0.lt
  have HBW := Lib.hid bW
  have HR1 := Lib.hid r1
  have HRd := Lib.hid (read_any k R l A c B W (Nat.le_trans hB bW.size) hl hlc (hr.below (bW.mono hB)) (hk.below (bW.mono hB)))
  have HDay : Hid (∀ (X : World), Calls Try.prog 63 #[.int .i64 day] X fun e w' => e = .returned (.bool (inB day 0 10000)) ∧ Below X.heap.size X w') := fun X => isDay_any day X
  have HUp : Hid (∀ (X : World), Below w.heap.size w X → Calls Try.prog 73 #[logV k R l A c, .int .i64 day] X fun e w' => e = .returned (logV k R (upL l day) A c) ∧ Below X.heap.size X w') := fun X hX => upto_any k R l A c B day X (Nat.le_trans hB hX.size) hl hlc (hr.below (hX.mono hB))
  have zeros : ∀ X : World, Row X zl 66 [.slice none 0 0, .slice none 0 0, .slice none 0 0, .slice none 0 0] → X.cell? ⟨zl, 0, none⟩ = some (.slice none 0 0) ∧ X.cell? ⟨zl, 1, none⟩ = some (.slice none 0 0) ∧ X.cell? ⟨zl, 2, none⟩ = some (.slice none 0 0) ∧ X.cell? ⟨zl, 3, none⟩ = some (.slice none 0 0) := fun X h => ⟨h.cell (j := 0) (by simp), h.cell (j := 1) (by simp), h.cell (j := 2) (by simp), h.cell (j := 3) (by simp)⟩
  have HZe := Lib.hid zeros
  have HE : Hid (onE k l day = if (chkR k l).2 = 0 then if inB day 0 10000 = true then 0 else 1 else (chkR k l).2) := rfl
  unfold RdTo at HRd
  generalize onE k l day = E at HE ⊢
  clear bW r0 r1 hr hk hB zeros hl hlc
  by_cases h0 : (chkR k l).2 = 0
  · rw [logE_ok h0, chkR_zero h0] at HRd
    rw [if_pos h0] at HE
    have HD2 := Lib.hid (Eq.refl (inB day 0 10000))
    cases hd : inB day 0 10000 with
    | false =>
      have HV : Hid (E = 1) := by show _ = _; rw [HE.out, hd]; rfl
      have HDay2 : Hid (∀ (X : World), Calls Try.prog 63 #[.int .i64 day] X fun e w' => e = .returned (.bool false) ∧ Below X.heap.size X w') := by intro X; have h := HDay.out X; rw [hd] at h; exact h
      unfold bookV logV at *
      clear HE HD2 hd h0 HDay HUp
      go_enter Try.func47, Try.ntmps47
      go_upto_region 1 with fail
      rw [← hW, ← hzl, ← hzb]
      clear hW hzl hzb
      go_upto_region 2 with (go_at_call 44; refine HRd.out.mono ?_; rintro e X ⟨rfl, hX⟩)
      have bY := hX.alloc hX.size (.cells #[.slice R.A1 k.rules.length R.c1, .slice R.A2 k.ranks.length R.c2, .slice R.A3 k.insured.length R.c3, .slice A l.length c] 66)
      generalize X.alloc (.cells #[.slice R.A1 k.rules.length R.c1, .slice R.A2 k.ranks.length R.c2, .slice R.A3 k.insured.length R.c3, .slice A l.length c] 66) = Y at bY ⊢
      have HBY := Lib.hid (HBW.out.trans (bY.mono HBW.out.size))
      have HLY := Lib.hid (HR1.out.below bY HR1.out.lt)
      clear hX bY HRd
      go_wp2_with (go_at_call 63; refine (HDay2.out Y).mono ?_; rintro e Z ⟨rfl, hZ⟩; have sL := HLY.out.below hZ HLY.out.lt; obtain ⟨e0, e1, e2, e3⟩ := HZe.out Z sL; have fL := sL.frozen; have lL := sL.lt; have HLZ := Lib.hid sL; have HBZ := Lib.hid (HBY.out.trans (hZ.mono HBY.out.size)); clear hZ sL)
      refine bodyPost_ret (v := .tuple #[.agg #[.slice none 0 0, .slice none 0 0, .slice none 0 0, .slice none 0 0], .int .i64 1]) (rd2_end _ 6 7 rfl _ zl _ _ _ _ _ _ rfl rfl (row4 HLZ.out _ _ _ _)) rfl ?_
      rw [HV.out]
      exact LgTo.bad (by decide) (below4 HBZ.out HZL.out _ _ _ _)
    | true =>
      have HV : Hid (E = 0) := by show _ = _; rw [HE.out, hd]; rfl
      have HDay2 : Hid (∀ (X : World), Calls Try.prog 63 #[.int .i64 day] X fun e w' => e = .returned (.bool true) ∧ Below X.heap.size X w') := by intro X; have h := HDay.out X; rw [hd] at h; exact h
      unfold bookV logV at *
      clear HE HD2 hd h0 HDay
      go_enter Try.func47, Try.ntmps47
      go_upto_region 1 with fail
      rw [← hW, ← hzl, ← hzb]
      clear hW hzl hzb
      go_upto_region 2 with (go_at_call 44; refine HRd.out.mono ?_; rintro e X ⟨rfl, hX⟩)
      have bY := hX.alloc hX.size (.cells #[.slice R.A1 k.rules.length R.c1, .slice R.A2 k.ranks.length R.c2, .slice R.A3 k.insured.length R.c3, .slice A l.length c] 66)
      have gY := Row.new X 66 #[.slice R.A1 k.rules.length R.c1, .slice R.A2 k.ranks.length R.c2, .slice R.A3 k.insured.length R.c3, .slice A l.length c]
      generalize X.alloc (.cells #[.slice R.A1 k.rules.length R.c1, .slice R.A2 k.ranks.length R.c2, .slice R.A3 k.insured.length R.c3, .slice A l.length c] 66) = Y at bY gY ⊢
      generalize X.heap.size = zg at gY ⊢
      have HBY := Lib.hid (HBW.out.trans (bY.mono HBW.out.size))
      have HLY := Lib.hid (HR1.out.below bY HR1.out.lt)
      have HGY := Lib.hid gY
      clear hX bY HRd gY
      go_upto_region 6 with (go_at_call 63; refine (HDay2.out Y).mono ?_; rintro e Z ⟨rfl, hZ⟩)
      have sL := HLY.out.below hZ HLY.out.lt
      have sG := HGY.out.below hZ HGY.out.lt
      have HLZ := Lib.hid sL
      have HBZ := Lib.hid (HBY.out.trans (hZ.mono HBY.out.size))
      have g0 : Z.cell? ⟨zg, 0, none⟩ = some (.slice R.A1 k.rules.length R.c1) := sG.cell (j := 0) (by simp)
      have g1 : Z.cell? ⟨zg, 1, none⟩ = some (.slice R.A2 k.ranks.length R.c2) := sG.cell (j := 1) (by simp)
      have g2 : Z.cell? ⟨zg, 2, none⟩ = some (.slice R.A3 k.insured.length R.c3) := sG.cell (j := 2) (by simp)
      have g3 : Z.cell? ⟨zg, 3, none⟩ = some (.slice A l.length c) := sG.cell (j := 3) (by simp)
      have lG := sG.lt
      clear hZ sL sG
      go_wp2_with (go_at_call 73; refine (HUp.out Z HBZ.out).mono ?_; rintro e V ⟨rfl, hV⟩; have sL := HLZ.out.below hV HLZ.out.lt; obtain ⟨e0, e1, e2, e3⟩ := HZe.out V sL; have fL := sL.frozen; have lL := sL.lt; have HLV := Lib.hid sL; have HBV := Lib.hid (HBZ.out.trans (hV.mono HBZ.out.size)); clear hV sL)
      refine bodyPost_ret (v := .tuple #[.agg #[.slice R.A1 k.rules.length R.c1, .slice R.A2 k.ranks.length R.c2, .slice R.A3 k.insured.length R.c3, .slice A (upL l day).length c], .int .i64 0]) (rd2_end _ 6 7 rfl _ zl _ _ _ _ _ _ rfl rfl (row4 HLV.out _ _ _ _)) rfl ?_
      exact LgTo.ok HV.out (below4 HBV.out HZL.out _ _ _ _)
  · rw [logE_bad h0] at HRd
    rw [if_neg h0] at HE
    have HV : Hid (E = (chkR k l).2) := HE.out
    generalize (chkR k l).2 = er at HRd HV h0
    generalize (chkR k l).1 = at0 at HRd
    have HN : Hid (er ≠ 0) := h0
    unfold bookV logZ at *
    clear HE HDay HUp
    go_enter Try.func47, Try.ntmps47
    go_upto_region 1 with fail
    rw [← hW, ← hzl, ← hzb]
    clear hW hzl hzb
    go_upto_region 2 with (go_at_call 44; refine HRd.out.mono ?_; rintro e X ⟨rfl, hX⟩)
    have bY := hX.alloc hX.size (.cells #[.slice none 0 0, .slice none 0 0, .slice none 0 0, .slice none 0 0] 66)
    generalize X.alloc (.cells #[.slice none 0 0, .slice none 0 0, .slice none 0 0, .slice none 0 0] 66) = Y at bY ⊢
    have HBY := Lib.hid (HBW.out.trans (bY.mono HBW.out.size))
    have sL := HR1.out.below bY HR1.out.lt
    obtain ⟨e0, e1, e2, e3⟩ := HZe.out Y sL
    have fL := sL.frozen
    have lL := sL.lt
    have HLY := Lib.hid sL
    clear hX bY HRd sL
    go_wp2_with fail
    refine bodyPost_ret (v := .tuple #[.agg #[.slice none 0 0, .slice none 0 0, .slice none 0 0, .slice none 0 0], .int .i64 er]) (rd2_end _ 6 7 rfl _ zl _ _ _ _ _ _ rfl rfl (row4 HLY.out _ _ _ _)) rfl ?_
    rw [HV.out]
    exact LgTo.bad HN.out (below4 HBY.out HZL.out _ _ _ _)
set_option maxRecDepth 100000 in
set_option maxHeartbeats 1000000 in
theorem readRide_any (k : BookZ) (R : BkR) (l : List EntZ) (A : Option Addr) (c B : Nat) (ride day : Int) (w : World) (hB : B ≤ w.heap.size) (hl : l.length ≤ maxLen) (hlc : l.length ≤ c) (hr : Reads w B 5 A l.length (entCells l)) (hk : BkIn w B k R) :
    Calls Try.prog 58 #[bookV k R, .slice A l.length c, .int .i64 ride, .int .i64 day] w (LgTo w (rideE k l ride day) (logV k R (upL l day) A c)) := by
  obtain ⟨W, hW⟩ : ∃ W, W = (w.alloc (.cells #[.slice R.A1 k.rules.length R.c1, .slice R.A2 k.ranks.length R.c2, .slice R.A3 k.insured.length R.c3] 25)).alloc (.cells #[.slice none 0 0, .slice none 0 0, .slice none 0 0, .slice none 0 0] 66) := ⟨_, rfl⟩
  have bW : Below w.heap.size w W := by subst hW; exact ((Below.refl _ _).alloc (Nat.le_refl _) _).alloc (by simp) _
  have r0 : Row W w.heap.size 25 [.slice R.A1 k.rules.length R.c1, .slice R.A2 k.ranks.length R.c2, .slice R.A3 k.insured.length R.c3] := by subst hW; exact (Row.new w _ _).alloc _
  have r1 : Row W (w.heap.size + 1) 66 [.slice none 0 0, .slice none 0 0, .slice none 0 0, .slice none 0 0] := by
    subst hW
    have h := Row.new (w.alloc (.cells #[.slice R.A1 k.rules.length R.c1, .slice R.A2 k.ranks.length R.c2, .slice R.A3 k.insured.length R.c3] 25)) 66 #[.slice none 0 0, .slice none 0 0, .slice none 0 0, .slice none 0 0]
    rw [World.size_alloc] at h
    exact h
  obtain ⟨zb, hzb⟩ : ∃ z, z = w.heap.size := ⟨_, rfl⟩
  obtain ⟨zl, hzl⟩ : ∃ z, z = w.heap.size + 1 := ⟨_, rfl⟩
  have HZL : Hid (w.heap.size ≤ zl) := by show _ ≤ _; omega
  rw [← hzb] at r0
  rw [← hzl] at r1
  have q0 : W.cell? ⟨zb, 0, none⟩ = some (.slice R.A1 k.rules.length R.c1) := r0.cell (j := 0) (by simp)
  have q1 : W.cell? ⟨zb, 1, none⟩ = some (.slice R.A2 k.ranks.length R.c2) := r0.cell (j := 1) (by simp)
  have q2 : W.cell? ⟨zb, 2, none⟩ = some (.slice R.A3 k.insured.length R.c3) := r0.cell (j := 2) (by simp)
  have lW := r0.lt
  have HBW := Lib.hid bW
  have HR0 := Lib.hid r0
  have HR1 := Lib.hid r1
  have HRd := Lib.hid (readOn_any k R l A c B day W (Nat.le_trans hB bW.size) hl hlc (hr.below (bW.mono hB)) (hk.below (bW.mono hB)))
  have HRi : Hid (∀ (X : World), Calls Try.prog 62 #[bookV k R, .int .i64 ride] X fun e w' => e = .returned (.bool (inB ride 0 ((k.insured.length : Int) - 1))) ∧ Below X.heap.size X w') := fun X => isRide_any k R ride hk.l3 X
  have zeros : ∀ X : World, Row X zl 66 [.slice none 0 0, .slice none 0 0, .slice none 0 0, .slice none 0 0] → X.cell? ⟨zl, 0, none⟩ = some (.slice none 0 0) ∧ X.cell? ⟨zl, 1, none⟩ = some (.slice none 0 0) ∧ X.cell? ⟨zl, 2, none⟩ = some (.slice none 0 0) ∧ X.cell? ⟨zl, 3, none⟩ = some (.slice none 0 0) := fun X h => ⟨h.cell (j := 0) (by simp), h.cell (j := 1) (by simp), h.cell (j := 2) (by simp), h.cell (j := 3) (by simp)⟩
  have HZe := Lib.hid zeros
  have HE : Hid (rideE k l ride day = if onE k l day = 0 then if inB ride 0 ((k.insured.length : Int) - 1) = true then 0 else 1 else onE k l day) := rfl
  unfold LgTo at HRd
  generalize rideE k l ride day = E at HE ⊢
  generalize onE k l day = er at HRd HE
  clear bW r0 r1 hr hk hB zeros hl hlc
  by_cases h0 : er = 0
  · subst h0
    rw [if_pos rfl] at HRd HE
    cases hd : inB ride 0 ((k.insured.length : Int) - 1) with
    | false =>
      have HV : Hid (E = 1) := by show _ = _; rw [HE.out, hd]; rfl
      rw [hd] at HRi
      unfold bookV logV at *
      clear HE hd
      go_enter Try.func58, Try.ntmps58
      go_upto_region 1 with fail
      rw [← hW, ← hzl, ← hzb]
      clear hW hzl hzb
      go_upto_region 2 with (go_at_call 47; refine HRd.out.mono ?_; rintro e X ⟨rfl, hX⟩)
      have bY := hX.alloc hX.size (.cells #[.slice R.A1 k.rules.length R.c1, .slice R.A2 k.ranks.length R.c2, .slice R.A3 k.insured.length R.c3, .slice A (upL l day).length c] 66)
      generalize X.alloc (.cells #[.slice R.A1 k.rules.length R.c1, .slice R.A2 k.ranks.length R.c2, .slice R.A3 k.insured.length R.c3, .slice A (upL l day).length c] 66) = Y at bY ⊢
      have HBY := Lib.hid (HBW.out.trans (bY.mono HBW.out.size))
      have HLY := Lib.hid (HR1.out.below bY HR1.out.lt)
      have sB := HR0.out.below bY HR0.out.lt
      have p0 : Y.cell? ⟨zb, 0, none⟩ = some (.slice R.A1 k.rules.length R.c1) := sB.cell (j := 0) (by simp)
      have p1 : Y.cell? ⟨zb, 1, none⟩ = some (.slice R.A2 k.ranks.length R.c2) := sB.cell (j := 1) (by simp)
      have p2 : Y.cell? ⟨zb, 2, none⟩ = some (.slice R.A3 k.insured.length R.c3) := sB.cell (j := 2) (by simp)
      have lB := sB.lt
      clear hX bY HRd sB
      go_wp2_with (go_at_call 62; refine (HRi.out Y).mono ?_; rintro e Z ⟨rfl, hZ⟩; have sL := HLY.out.below hZ HLY.out.lt; obtain ⟨e0, e1, e2, e3⟩ := HZe.out Z sL; have fL := sL.frozen; have lL := sL.lt; have HLZ := Lib.hid sL; have HBZ := Lib.hid (HBY.out.trans (hZ.mono HBY.out.size)); clear hZ sL)
      refine bodyPost_ret (v := .tuple #[.agg #[.slice none 0 0, .slice none 0 0, .slice none 0 0, .slice none 0 0], .int .i64 1]) (rd2_end _ 8 9 rfl _ zl _ _ _ _ _ _ rfl rfl (row4 HLZ.out _ _ _ _)) rfl ?_
      rw [HV.out]
      exact LgTo.bad (by decide) (below4 HBZ.out HZL.out _ _ _ _)
    | true =>
      have HV : Hid (E = 0) := by show _ = _; rw [HE.out, hd]; rfl
      rw [hd] at HRi
      unfold bookV logV at *
      clear HE hd
      go_enter Try.func58, Try.ntmps58
      go_upto_region 1 with fail
      rw [← hW, ← hzl, ← hzb]
      clear hW hzl hzb
      go_upto_region 2 with (go_at_call 47; refine HRd.out.mono ?_; rintro e X ⟨rfl, hX⟩)
      have bY := hX.alloc hX.size (.cells #[.slice R.A1 k.rules.length R.c1, .slice R.A2 k.ranks.length R.c2, .slice R.A3 k.insured.length R.c3, .slice A (upL l day).length c] 66)
      have gY := Row.new X 66 #[.slice R.A1 k.rules.length R.c1, .slice R.A2 k.ranks.length R.c2, .slice R.A3 k.insured.length R.c3, .slice A (upL l day).length c]
      generalize X.alloc (.cells #[.slice R.A1 k.rules.length R.c1, .slice R.A2 k.ranks.length R.c2, .slice R.A3 k.insured.length R.c3, .slice A (upL l day).length c] 66) = Y at bY gY ⊢
      generalize X.heap.size = zg at gY ⊢
      have HBY := Lib.hid (HBW.out.trans (bY.mono HBW.out.size))
      have HLY := Lib.hid (HR1.out.below bY HR1.out.lt)
      have HGY := Lib.hid gY
      have sB := HR0.out.below bY HR0.out.lt
      have p0 : Y.cell? ⟨zb, 0, none⟩ = some (.slice R.A1 k.rules.length R.c1) := sB.cell (j := 0) (by simp)
      have p1 : Y.cell? ⟨zb, 1, none⟩ = some (.slice R.A2 k.ranks.length R.c2) := sB.cell (j := 1) (by simp)
      have p2 : Y.cell? ⟨zb, 2, none⟩ = some (.slice R.A3 k.insured.length R.c3) := sB.cell (j := 2) (by simp)
      have lB := sB.lt
      clear hX bY HRd sB gY
      go_wp2_with (go_at_call 62; refine (HRi.out Y).mono ?_; rintro e Z ⟨rfl, hZ⟩; have sL := HLY.out.below hZ HLY.out.lt; obtain ⟨e0, e1, e2, e3⟩ := HZe.out Z sL; have fL := sL.frozen; have lL := sL.lt; have HLZ := Lib.hid sL; have HBZ := Lib.hid (HBY.out.trans (hZ.mono HBY.out.size)); have sG := HGY.out.below hZ HGY.out.lt; have g0 : Z.cell? ⟨zg, 0, none⟩ = some (.slice R.A1 k.rules.length R.c1) := sG.cell (j := 0) (by simp); have g1 : Z.cell? ⟨zg, 1, none⟩ = some (.slice R.A2 k.ranks.length R.c2) := sG.cell (j := 1) (by simp); have g2 : Z.cell? ⟨zg, 2, none⟩ = some (.slice R.A3 k.insured.length R.c3) := sG.cell (j := 2) (by simp); have g3 : Z.cell? ⟨zg, 3, none⟩ = some (.slice A (upL l day).length c) := sG.cell (j := 3) (by simp); have lG := sG.lt; clear hZ sL sG)
      refine bodyPost_ret (v := .tuple #[.agg #[.slice R.A1 k.rules.length R.c1, .slice R.A2 k.ranks.length R.c2, .slice R.A3 k.insured.length R.c3, .slice A (upL l day).length c], .int .i64 0]) (rd2_end _ 8 9 rfl _ zl _ _ _ _ _ _ rfl rfl (row4 HLZ.out _ _ _ _)) rfl ?_
      exact LgTo.ok HV.out (below4 HBZ.out HZL.out _ _ _ _)
  · rw [if_neg h0] at HRd HE
    have HV : Hid (E = er) := HE.out
    have HN : Hid (er ≠ 0) := h0
    unfold bookV logZ at *
    clear HE HRi
    go_enter Try.func58, Try.ntmps58
    go_upto_region 1 with fail
    rw [← hW, ← hzl, ← hzb]
    clear hW hzl hzb
    go_upto_region 2 with (go_at_call 47; refine HRd.out.mono ?_; rintro e X ⟨rfl, hX⟩)
    have bY := hX.alloc hX.size (.cells #[.slice none 0 0, .slice none 0 0, .slice none 0 0, .slice none 0 0] 66)
    generalize X.alloc (.cells #[.slice none 0 0, .slice none 0 0, .slice none 0 0, .slice none 0 0] 66) = Y at bY ⊢
    have HBY := Lib.hid (HBW.out.trans (bY.mono HBW.out.size))
    have sL := HR1.out.below bY HR1.out.lt
    obtain ⟨e0, e1, e2, e3⟩ := HZe.out Y sL
    have fL := sL.frozen
    have lL := sL.lt
    have HLY := Lib.hid sL
    clear hX bY HRd sL
    go_wp2_with fail
    refine bodyPost_ret (v := .tuple #[.agg #[.slice none 0 0, .slice none 0 0, .slice none 0 0, .slice none 0 0], .int .i64 er]) (rd2_end _ 8 9 rfl _ zl _ _ _ _ _ _ rfl rfl (row4 HLY.out _ _ _ _)) rfl ?_
    rw [HV.out]
    exact LgTo.bad HN.out (below4 HBY.out HZL.out _ _ _ _)
set_option maxRecDepth 100000 in
theorem Check_any (k : BookZ) (R : BkR) (l : List EntZ) (A : Option Addr) (c B : Nat) (w : World) (hB : B ≤ w.heap.size) (hl : l.length ≤ maxLen) (hlc : l.length ≤ c) (hr : Reads w B 5 A l.length (entCells l)) (hk : BkIn w B k R) :
    Calls Try.prog 18 #[bookV k R, .slice A l.length c] w fun e w' => e = .returned (.tuple #[.int .i64 (chkR k l).1, .int .i64 (chkR k l).2]) ∧ Below w.heap.size w w' := by
  obtain ⟨W, hW⟩ : ∃ W, W = w.alloc (.cells #[.slice R.A1 k.rules.length R.c1, .slice R.A2 k.ranks.length R.c2, .slice R.A3 k.insured.length R.c3] 25) := ⟨_, rfl⟩
  have bW : Below w.heap.size w W := by subst hW; exact (Below.refl _ _).alloc (Nat.le_refl _) _
  have r0 : Row W w.heap.size 25 [.slice R.A1 k.rules.length R.c1, .slice R.A2 k.ranks.length R.c2, .slice R.A3 k.insured.length R.c3] := by subst hW; exact Row.new w _ _
  have q0 : W.cell? ⟨w.heap.size, 0, none⟩ = some (.slice R.A1 k.rules.length R.c1) := r0.cell (j := 0) (by simp)
  have q1 : W.cell? ⟨w.heap.size, 1, none⟩ = some (.slice R.A2 k.ranks.length R.c2) := r0.cell (j := 1) (by simp)
  have q2 : W.cell? ⟨w.heap.size, 2, none⟩ = some (.slice R.A3 k.insured.length R.c3) := r0.cell (j := 2) (by simp)
  have lW := r0.lt
  have HBW := Lib.hid bW
  have HRd := Lib.hid (read_any k R l A c B W (Nat.le_trans hB bW.size) hl hlc (hr.below (bW.mono hB)) (hk.below (bW.mono hB)))
  unfold RdTo at HRd
  generalize logE k R l A c = lg at HRd
  generalize (chkR k l).2 = er at HRd ⊢
  generalize (chkR k l).1 = at0 at HRd ⊢
  unfold bookV at *
  clear bW r0 hr hk hB
  go_enter Try.func18, Try.ntmps18
  go_upto_region 1 with fail
  rw [← hW]
  clear hW
  go_wp2_with (go_at_call 44; refine HRd.out.mono ?_; rintro e X ⟨rfl, hX⟩; have HX := Lib.hid (HBW.out.trans (hX.mono HBW.out.size)); clear hX)
  refine bodyPost_ret (v := .tuple #[.int .i64 at0, .int .i64 er]) (by simp [results, Try.results18, go_sem]) rfl ?_
  exact ⟨rfl, HX.out⟩
end Go.Proofs.Ytaocgkmobfocjaa
