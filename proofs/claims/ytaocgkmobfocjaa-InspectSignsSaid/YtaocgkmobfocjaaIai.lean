/- Contracts of inspect's Visits and the specification's. Conditions: a book that reads as data. -/
import Derived.Test.YtaocgkmobfocjaaIah
namespace Go.Proofs.Ytaocgkmobfocjaa
open Go.RowKit

def argV (k : BookZ) (ride f t : Int) : Bool := inB ride 0 ((k.insured.length : Int) - 1) && (inB t 0 10000 && inB f 0 t)
def vE (k : BookZ) (ride f t : Int) : Int := if bookB k = true then (if argV k ride f t = true then visE (evN k ride k.rules.length) f t else 1) else 100
def vL (k : BookZ) (ride f t : Int) : List Int := visL f (evN k ride k.rules.length) (visN (evN k ride k.rules.length) f t)
theorem vL_len {k : BookZ} {ride f t : Int} (h : vE k ride f t = 0) : (vL k ride f t).length ≤ 1000 := by
  unfold vE at h
  by_cases hb : bookB k = true
  · rw [if_pos hb] at h
    by_cases ha : argV k ride f t = true
    · rw [if_pos ha] at h
      unfold argV at ha
      simp only [Bool.and_eq_true, inBI] at ha
      have hv := (evN_bd hb ride k.rules.length (Nat.le_refl _)).1
      unfold vL
      rw [visL_len]
      by_cases h0 : evN k ride k.rules.length = 0
      · unfold visN; rw [if_pos h0]; omega
      · rw [visE_many (by omega) ha.2.2.2] at h
        by_cases hn : 1000 < visN (evN k ride k.rules.length) f t
        · rw [if_pos hn] at h; omega
        · omega
    · rw [if_neg ha] at h; omega
  · rw [if_neg hb] at h; omega
set_option maxRecDepth 100000 in
set_option maxHeartbeats 2000000 in
theorem Visits_any (k : BookZ) (R : BkR) (ride f t : Int) (B : Nat) (w : World) (hB : B ≤ w.heap.size) (hk : BkIn w B k R) :
    Calls Try.prog 32 #[bookV k R, .int .i64 ride, .int .i64 f, .int .i64 t] w (LsTo w (vE k ride f t) (lsE (vE k ride f t) (vL k ride f t))) := by
  obtain ⟨W, hW⟩ : ∃ W, W = w.alloc (.cells #[.slice R.A1 k.rules.length R.c1, .slice R.A2 k.ranks.length R.c2, .slice R.A3 k.insured.length R.c3] 25) := ⟨_, rfl⟩
  have bW : Below w.heap.size w W := by subst hW; exact (Below.refl _ _).alloc (Nat.le_refl _) _
  have r0 : Row W w.heap.size 25 [.slice R.A1 k.rules.length R.c1, .slice R.A2 k.ranks.length R.c2, .slice R.A3 k.insured.length R.c3] := by subst hW; exact Row.new w _ _
  obtain ⟨zb, hzb⟩ : ∃ z, z = w.heap.size := ⟨_, rfl⟩
  rw [← hzb] at r0
  have q0 : W.cell? ⟨zb, 0, none⟩ = some (.slice R.A1 k.rules.length R.c1) := r0.cell (j := 0) (by simp)
  have q1 : W.cell? ⟨zb, 1, none⟩ = some (.slice R.A2 k.ranks.length R.c2) := r0.cell (j := 1) (by simp)
  have q2 : W.cell? ⟨zb, 2, none⟩ = some (.slice R.A3 k.insured.length R.c3) := r0.cell (j := 2) (by simp)
  have lW := r0.lt
  have HBW := Lib.hid bW
  have HR0 := Lib.hid r0
  have HVa := Lib.hid (valid_any k R B W (Nat.le_trans hB bW.size) (hk.below (bW.mono hB)))
  have HRi : Hid (∀ (X : World), Calls Try.prog 62 #[bookV k R, .int .i64 ride] X fun e w' => e = .returned (.bool (inB ride 0 ((k.insured.length : Int) - 1))) ∧ Below X.heap.size X w') := fun X => isRide_any k R ride hk.l3 X
  have HDay : Hid (∀ (X : World), Calls Try.prog 63 #[.int .i64 t] X fun e w' => e = .returned (.bool (inB t 0 10000)) ∧ Below X.heap.size X w') := fun X => isDay_any t X
  have HFr : Hid (∀ (X : World) (c : Nat), Calls Try.prog 64 #[.int .i64 0, .int .i64 t, .slice (some ⟨X.heap.size, 0, none⟩) 1 c] (X.alloc (.cells #[.int .i64 f] 3)) fun e w' => e = .returned (.bool (inB f 0 t)) ∧ X.alloc (.cells #[.int .i64 f] 3) = w') := fun X c => iall_one _ _ c f 0 t (Row.new X 3 #[.int .i64 f])
  have HVs : Hid (bookB k = true → 0 ≤ f → f ≤ t → t ≤ 10000 → ∀ X, Below w.heap.size w X → Calls Try.prog 65 #[bookV k R, .int .i64 ride, .int .i64 f, .int .i64 t] X (LsTo X (visE (evN k ride k.rules.length) f t) (lsE (visE (evN k ride k.rules.length) f t) (vL k ride f t)))) := fun hb h1 h2 h3 X hX => visits_any k R ride f t B X (Nat.le_trans hB hX.size) (hk.below (hX.mono hB)) hb h1 h2 h3
  have HE : Hid (vE k ride f t = if bookB k = true then (if (inB ride 0 ((k.insured.length : Int) - 1) && (inB t 0 10000 && inB f 0 t)) = true then visE (evN k ride k.rules.length) f t else 1) else 100) := rfl
  have HD : Hid (inB t 0 10000 = true → t ≤ 10000) := fun h => (inBI.1 h).2
  have HF : Hid (inB f 0 t = true → 0 ≤ f ∧ f ≤ t) := fun h => inBI.1 h
  generalize vE k ride f t = E at HE ⊢
  generalize vL k ride f t = L at HVs ⊢
  generalize inB ride 0 ((k.insured.length : Int) - 1) = br at HRi HE
  generalize inB t 0 10000 = bd at HDay HE HD
  generalize inB f 0 t = bf at HFr HE HF
  generalize visE (evN k ride k.rules.length) f t = ve at HVs HE
  generalize bookB k = bb at HVa HVs HE
  unfold bookV at *
  clear bW r0 hk hB
  cases bb with
  | false =>
    have HV : Hid (E = 100) := HE.out.trans rfl
    rw [HV.out]
    go_enter Try.func32, Try.ntmps32
    go_upto_region 1 with fail
    rw [← hW, ← hzb]
    clear hW hzb
    go_wp2_with (go_at_call 61; refine HVa.out.mono ?_; rintro e X ⟨rfl, hX⟩; have sX := HR0.out.below hX HR0.out.lt; have gX0 : X.cell? ⟨zb, 0, none⟩ = some (.slice R.A1 k.rules.length R.c1) := sX.cell (j := 0) (by simp); have gX1 : X.cell? ⟨zb, 1, none⟩ = some (.slice R.A2 k.ranks.length R.c2) := sX.cell (j := 1) (by simp); have gX2 : X.cell? ⟨zb, 2, none⟩ = some (.slice R.A3 k.insured.length R.c3) := sX.cell (j := 2) (by simp); have lX := sX.lt; have HSX := Lib.hid sX; have HBX := Lib.hid (HBW.out.trans (hX.mono HBW.out.size)); clear hX sX)
    refine bodyPost_ret (v := .tuple #[.slice none 0 0, .int .i64 100]) (by simp [results, Try.results32, go_sem]) rfl ?_
    exact LsTo.bad (by decide) HBX.out
  | true =>
    cases br with
    | false =>
      have HV : Hid (E = 1) := HE.out.trans rfl
      rw [HV.out]
      go_enter Try.func32, Try.ntmps32
      go_upto_region 1 with fail
      rw [← hW, ← hzb]
      clear hW hzb
      go_wp2_with (first | (go_at_call 61; refine HVa.out.mono ?_; rintro e X ⟨rfl, hX⟩; have sX := HR0.out.below hX HR0.out.lt; have gX0 : X.cell? ⟨zb, 0, none⟩ = some (.slice R.A1 k.rules.length R.c1) := sX.cell (j := 0) (by simp); have gX1 : X.cell? ⟨zb, 1, none⟩ = some (.slice R.A2 k.ranks.length R.c2) := sX.cell (j := 1) (by simp); have gX2 : X.cell? ⟨zb, 2, none⟩ = some (.slice R.A3 k.insured.length R.c3) := sX.cell (j := 2) (by simp); have lX := sX.lt; have HSX := Lib.hid sX; have HBX := Lib.hid (HBW.out.trans (hX.mono HBW.out.size)); clear hX sX) | (go_at_call 62; refine (HRi.out X).mono ?_; rintro e X2 ⟨rfl, hX2⟩; have sX2 := HSX.out.below hX2 HSX.out.lt; have gX20 : X2.cell? ⟨zb, 0, none⟩ = some (.slice R.A1 k.rules.length R.c1) := sX2.cell (j := 0) (by simp); have gX21 : X2.cell? ⟨zb, 1, none⟩ = some (.slice R.A2 k.ranks.length R.c2) := sX2.cell (j := 1) (by simp); have gX22 : X2.cell? ⟨zb, 2, none⟩ = some (.slice R.A3 k.insured.length R.c3) := sX2.cell (j := 2) (by simp); have lX2 := sX2.lt; have HSX2 := Lib.hid sX2; have HBX2 := Lib.hid (HBX.out.trans (hX2.mono HBX.out.size)); clear hX2 sX2))
      refine bodyPost_ret (v := .tuple #[.slice none 0 0, .int .i64 1]) (by simp [results, Try.results32, go_sem]) rfl ?_
      exact LsTo.bad (by decide) HBX2.out
    | true =>
      cases bd with
      | false =>
        have HV : Hid (E = 1) := HE.out.trans rfl
        rw [HV.out]
        go_enter Try.func32, Try.ntmps32
        go_upto_region 1 with fail
        rw [← hW, ← hzb]
        clear hW hzb
        go_wp2_with (first | (go_at_call 61; refine HVa.out.mono ?_; rintro e X ⟨rfl, hX⟩; have sX := HR0.out.below hX HR0.out.lt; have gX0 : X.cell? ⟨zb, 0, none⟩ = some (.slice R.A1 k.rules.length R.c1) := sX.cell (j := 0) (by simp); have gX1 : X.cell? ⟨zb, 1, none⟩ = some (.slice R.A2 k.ranks.length R.c2) := sX.cell (j := 1) (by simp); have gX2 : X.cell? ⟨zb, 2, none⟩ = some (.slice R.A3 k.insured.length R.c3) := sX.cell (j := 2) (by simp); have lX := sX.lt; have HSX := Lib.hid sX; have HBX := Lib.hid (HBW.out.trans (hX.mono HBW.out.size)); clear hX sX) | (go_at_call 62; refine (HRi.out X).mono ?_; rintro e X2 ⟨rfl, hX2⟩; have sX2 := HSX.out.below hX2 HSX.out.lt; have gX20 : X2.cell? ⟨zb, 0, none⟩ = some (.slice R.A1 k.rules.length R.c1) := sX2.cell (j := 0) (by simp); have gX21 : X2.cell? ⟨zb, 1, none⟩ = some (.slice R.A2 k.ranks.length R.c2) := sX2.cell (j := 1) (by simp); have gX22 : X2.cell? ⟨zb, 2, none⟩ = some (.slice R.A3 k.insured.length R.c3) := sX2.cell (j := 2) (by simp); have lX2 := sX2.lt; have HSX2 := Lib.hid sX2; have HBX2 := Lib.hid (HBX.out.trans (hX2.mono HBX.out.size)); clear hX2 sX2) | (go_at_call 63; refine (HDay.out X2).mono ?_; rintro e X3 ⟨rfl, hX3⟩; have sX3 := HSX2.out.below hX3 HSX2.out.lt; have gX30 : X3.cell? ⟨zb, 0, none⟩ = some (.slice R.A1 k.rules.length R.c1) := sX3.cell (j := 0) (by simp); have gX31 : X3.cell? ⟨zb, 1, none⟩ = some (.slice R.A2 k.ranks.length R.c2) := sX3.cell (j := 1) (by simp); have gX32 : X3.cell? ⟨zb, 2, none⟩ = some (.slice R.A3 k.insured.length R.c3) := sX3.cell (j := 2) (by simp); have lX3 := sX3.lt; have HSX3 := Lib.hid sX3; have HBX3 := Lib.hid (HBX2.out.trans (hX3.mono HBX2.out.size)); clear hX3 sX3))
        refine bodyPost_ret (v := .tuple #[.slice none 0 0, .int .i64 1]) (by simp [results, Try.results32, go_sem]) rfl ?_
        exact LsTo.bad (by decide) HBX3.out
      | true =>
        cases bf with
        | false =>
          have HV : Hid (E = 1) := HE.out.trans rfl
          rw [HV.out]
          go_enter Try.func32, Try.ntmps32
          go_upto_region 1 with fail
          rw [← hW, ← hzb]
          clear hW hzb
          go_wp2_with (first | (go_at_call 61; refine HVa.out.mono ?_; rintro e X ⟨rfl, hX⟩; have sX := HR0.out.below hX HR0.out.lt; have gX0 : X.cell? ⟨zb, 0, none⟩ = some (.slice R.A1 k.rules.length R.c1) := sX.cell (j := 0) (by simp); have gX1 : X.cell? ⟨zb, 1, none⟩ = some (.slice R.A2 k.ranks.length R.c2) := sX.cell (j := 1) (by simp); have gX2 : X.cell? ⟨zb, 2, none⟩ = some (.slice R.A3 k.insured.length R.c3) := sX.cell (j := 2) (by simp); have lX := sX.lt; have HSX := Lib.hid sX; have HBX := Lib.hid (HBW.out.trans (hX.mono HBW.out.size)); clear hX sX) | (go_at_call 62; refine (HRi.out X).mono ?_; rintro e X2 ⟨rfl, hX2⟩; have sX2 := HSX.out.below hX2 HSX.out.lt; have gX20 : X2.cell? ⟨zb, 0, none⟩ = some (.slice R.A1 k.rules.length R.c1) := sX2.cell (j := 0) (by simp); have gX21 : X2.cell? ⟨zb, 1, none⟩ = some (.slice R.A2 k.ranks.length R.c2) := sX2.cell (j := 1) (by simp); have gX22 : X2.cell? ⟨zb, 2, none⟩ = some (.slice R.A3 k.insured.length R.c3) := sX2.cell (j := 2) (by simp); have lX2 := sX2.lt; have HSX2 := Lib.hid sX2; have HBX2 := Lib.hid (HBX.out.trans (hX2.mono HBX.out.size)); clear hX2 sX2) | (go_at_call 63; refine (HDay.out X2).mono ?_; rintro e X3 ⟨rfl, hX3⟩; have sX3 := HSX2.out.below hX3 HSX2.out.lt; have gX30 : X3.cell? ⟨zb, 0, none⟩ = some (.slice R.A1 k.rules.length R.c1) := sX3.cell (j := 0) (by simp); have gX31 : X3.cell? ⟨zb, 1, none⟩ = some (.slice R.A2 k.ranks.length R.c2) := sX3.cell (j := 1) (by simp); have gX32 : X3.cell? ⟨zb, 2, none⟩ = some (.slice R.A3 k.insured.length R.c3) := sX3.cell (j := 2) (by simp); have lX3 := sX3.lt; have HSX3 := Lib.hid sX3; have HBX3 := Lib.hid (HBX2.out.trans (hX3.mono HBX2.out.size)); clear hX3 sX3) | (go_at_call 64; refine (HFr.out _ _).mono ?_; rintro e w' ⟨rfl, rfl⟩))
          refine bodyPost_ret (v := .tuple #[.slice none 0 0, .int .i64 1]) (by simp [results, Try.results32, go_sem]) rfl ?_
          exact LsTo.bad (by decide) (HBX3.out.alloc HBX3.out.size _)
        | true =>
          have HV : Hid (E = ve) := HE.out.trans rfl
          have HVt := Lib.hid (HVs.out rfl (HF.out rfl).1 (HF.out rfl).2 (HD.out rfl))
          clear HVs
          rw [HV.out]
          go_enter Try.func32, Try.ntmps32
          go_upto_region 1 with fail
          rw [← hW, ← hzb]
          clear hW hzb
          go_upto_region 5 with (first | (go_at_call 61; refine HVa.out.mono ?_; rintro e X ⟨rfl, hX⟩; have sX := HR0.out.below hX HR0.out.lt; have gX0 : X.cell? ⟨zb, 0, none⟩ = some (.slice R.A1 k.rules.length R.c1) := sX.cell (j := 0) (by simp); have gX1 : X.cell? ⟨zb, 1, none⟩ = some (.slice R.A2 k.ranks.length R.c2) := sX.cell (j := 1) (by simp); have gX2 : X.cell? ⟨zb, 2, none⟩ = some (.slice R.A3 k.insured.length R.c3) := sX.cell (j := 2) (by simp); have lX := sX.lt; have HSX := Lib.hid sX; have HBX := Lib.hid (HBW.out.trans (hX.mono HBW.out.size)); clear hX sX) | (go_at_call 62; refine (HRi.out X).mono ?_; rintro e X2 ⟨rfl, hX2⟩; have sX2 := HSX.out.below hX2 HSX.out.lt; have gX20 : X2.cell? ⟨zb, 0, none⟩ = some (.slice R.A1 k.rules.length R.c1) := sX2.cell (j := 0) (by simp); have gX21 : X2.cell? ⟨zb, 1, none⟩ = some (.slice R.A2 k.ranks.length R.c2) := sX2.cell (j := 1) (by simp); have gX22 : X2.cell? ⟨zb, 2, none⟩ = some (.slice R.A3 k.insured.length R.c3) := sX2.cell (j := 2) (by simp); have lX2 := sX2.lt; have HSX2 := Lib.hid sX2; have HBX2 := Lib.hid (HBX.out.trans (hX2.mono HBX.out.size)); clear hX2 sX2) | (go_at_call 63; refine (HDay.out X2).mono ?_; rintro e X3 ⟨rfl, hX3⟩; have sX3 := HSX2.out.below hX3 HSX2.out.lt; have gX30 : X3.cell? ⟨zb, 0, none⟩ = some (.slice R.A1 k.rules.length R.c1) := sX3.cell (j := 0) (by simp); have gX31 : X3.cell? ⟨zb, 1, none⟩ = some (.slice R.A2 k.ranks.length R.c2) := sX3.cell (j := 1) (by simp); have gX32 : X3.cell? ⟨zb, 2, none⟩ = some (.slice R.A3 k.insured.length R.c3) := sX3.cell (j := 2) (by simp); have lX3 := sX3.lt; have HSX3 := Lib.hid sX3; have HBX3 := Lib.hid (HBX2.out.trans (hX3.mono HBX2.out.size)); clear hX3 sX3) | (go_at_call 64; refine (HFr.out _ _).mono ?_; rintro e w' ⟨rfl, rfl⟩))
          have bY := (Below.refl X3.heap.size X3).alloc (Nat.le_refl _) (.cells #[.int .i64 f] 3)
          clear HDay HRi HFr HVa
          generalize X3.alloc (.cells #[.int .i64 f] 3) = Y at bY ⊢
          have HBY := Lib.hid (HBX3.out.trans (bY.mono HBX3.out.size))
          have sY := HSX3.out.below bY HSX3.out.lt
          have gY0 : Y.cell? ⟨zb, 0, none⟩ = some (.slice R.A1 k.rules.length R.c1) := sY.cell (j := 0) (by simp)
          have gY1 : Y.cell? ⟨zb, 1, none⟩ = some (.slice R.A2 k.ranks.length R.c2) := sY.cell (j := 1) (by simp)
          have gY2 : Y.cell? ⟨zb, 2, none⟩ = some (.slice R.A3 k.insured.length R.c3) := sY.cell (j := 2) (by simp)
          have lY := sY.lt
          clear bY sY
          go_wp2_with (go_at_call 65; refine (HVt.out Y HBY.out).mono ?_; rintro e Z ⟨hZ, A2, c2, rfl, hr2⟩; have HR2 := Lib.hid hr2; clear hr2; have HZ := Lib.hid (HBY.out.trans (hZ.mono HBY.out.size)); clear hZ)
          refine bodyPost_ret (v := .tuple #[.slice A2 (lsE ve L).length c2, .int .i64 ve]) (by simp [results, Try.results32, go_sem]) rfl ?_
          exact ⟨HZ.out, A2, c2, rfl, HR2.out⟩
set_option maxRecDepth 100000 in
set_option maxHeartbeats 4000000 in
theorem rVisits_any (k : BookZ) (R : BkR) (ride f t : Int) (B : Nat) (w : World) (hB : B ≤ w.heap.size) (hk : BkIn w B k R) :
    Calls Try.prog 33 #[bookV k R, .int .i64 ride, .int .i64 f, .int .i64 t] w (LsTo w (vE k ride f t) (lsE (vE k ride f t) (vL k ride f t))) := by
  obtain ⟨W, hW⟩ : ∃ W, W = w.alloc (.cells #[.slice R.A1 k.rules.length R.c1, .slice R.A2 k.ranks.length R.c2, .slice R.A3 k.insured.length R.c3] 25) := ⟨_, rfl⟩
  have bW : Below w.heap.size w W := by subst hW; exact (Below.refl _ _).alloc (Nat.le_refl _) _
  have r0 : Row W w.heap.size 25 [.slice R.A1 k.rules.length R.c1, .slice R.A2 k.ranks.length R.c2, .slice R.A3 k.insured.length R.c3] := by subst hW; exact Row.new w _ _
  obtain ⟨zb, hzb⟩ : ∃ z, z = w.heap.size := ⟨_, rfl⟩
  rw [← hzb] at r0
  have q0 : W.cell? ⟨zb, 0, none⟩ = some (.slice R.A1 k.rules.length R.c1) := r0.cell (j := 0) (by simp)
  have q1 : W.cell? ⟨zb, 1, none⟩ = some (.slice R.A2 k.ranks.length R.c2) := r0.cell (j := 1) (by simp)
  have q2 : W.cell? ⟨zb, 2, none⟩ = some (.slice R.A3 k.insured.length R.c3) := r0.cell (j := 2) (by simp)
  have lW := r0.lt
  have HBW := Lib.hid bW
  have HR0 := Lib.hid r0
  have HCB := Lib.hid (rbook_any k R B W (Nat.le_trans hB bW.size) (hk.below (bW.mono hB)))
  have HW1 : Hid (∀ X, Calls Try.prog 66 #[.int .i64 ride, .int .i64 0, .int .i64 ((k.insured.length : Int) - 1)] X fun e w' => e = .returned (.bool (inB ride 0 ((k.insured.length : Int) - 1))) ∧ w' = X) := fun X => within_any _ _ _ X
  have HW2 : Hid (∀ X, Calls Try.prog 66 #[.int .i64 t, .int .i64 0, .int .i64 10000] X fun e w' => e = .returned (.bool (inB t 0 10000)) ∧ w' = X) := fun X => within_any _ _ _ X
  have HW3 : Hid (∀ X, Calls Try.prog 66 #[.int .i64 f, .int .i64 0, .int .i64 t] X fun e w' => e = .returned (.bool (inB f 0 t)) ∧ w' = X) := fun X => within_any _ _ _ X
  have HRd : Hid (∀ (i : Nat) (hi : i < k.rules.length) (X : World), Below w.heap.size w X → ∃ b o, R.A1 = some ⟨b, o, none⟩ ∧ b < X.heap.size ∧ X.cell? ⟨b, o + i * 4, none⟩ = some (.int .i64 k.rules[i].ride) ∧ X.cell? ⟨b, o + i * 4 + 1, none⟩ = some (.int .i64 k.rules[i].every)) := fun i hi X hX => by
    obtain ⟨b, o, h1, h2, h3, h4, -, -⟩ := ru_at (hk.rules.below (hX.mono hB)) hi
    exact ⟨b, o, h1, by have := hX.size; omega, h3, h4⟩
  have hl1 := hk.l1
  have hl3 := hk.l3
  unfold maxLen at hl1 hl3
  have w3 : IntKind.i64.wrap ((k.insured.length : Int) - 1) = (k.insured.length : Int) - 1 := IntWalk.i64_in _ (by omega)
  obtain ⟨i0, hi, hz0, hz1, hz2⟩ := info_parts Try.info_intI
  obtain ⟨EV, hEV⟩ : ∃ EV, EV = evN k ride k.rules.length := ⟨_, rfl⟩
  have HE : Hid (vE k ride f t = if bookB k = true then (if (inB ride 0 ((k.insured.length : Int) - 1) && (inB t 0 10000 && inB f 0 t)) = true then visE EV f t else 1) else 100) := by show _ = _; rw [hEV]; rfl
  have HL : Hid (vL k ride f t = visL f EV (visN EV f t)) := by show _ = _; rw [hEV]; rfl
  have HBo : Hid (bookB k = true → 0 ≤ EV ∧ EV ≤ 10000) := fun h => by rw [hEV]; exact evN_bd h ride _ (Nat.le_refl _)
  have HBK : Hid (bkE k = if bookB k = true then 0 else 100) := rfl
  have HEv := Lib.hid hEV
  clear hEV
  have HD : Hid (inB t 0 10000 = true → t ≤ 10000) := fun h => (inBI.1 h).2
  have HF : Hid (inB f 0 t = true → 0 ≤ f ∧ f ≤ t) := fun h => inBI.1 h
  rw [HL.out]
  generalize vE k ride f t = E at HE ⊢
  generalize inB ride 0 ((k.insured.length : Int) - 1) = br at HW1 HE
  generalize inB t 0 10000 = bd at HW2 HE HD
  generalize inB f 0 t = bf at HW3 HE HF
  generalize bkE k = bk at HCB HBK
  generalize bookB k = bb at HBo HE HBK
  unfold bookV at *
  clear bW r0 hk hB
  cases bb with
  | false =>
    have HV : Hid (E = 100) := HE.out.trans rfl
    have hbk : bk = 100 := HBK.out
    rw [hbk] at HCB
    rw [HV.out]
    clear hbk
    go_enter Try.func33, Try.ntmps33
    go_upto_region 1 with fail
    rw [← hW, ← hzb]
    clear hW hzb
    go_wp2_with (go_at_call 45; refine HCB.out.mono ?_; rintro e X ⟨rfl, hX⟩; have sX := HR0.out.below hX HR0.out.lt; have gX0 : X.cell? ⟨zb, 0, none⟩ = some (.slice R.A1 k.rules.length R.c1) := sX.cell (j := 0) (by simp); have gX1 : X.cell? ⟨zb, 1, none⟩ = some (.slice R.A2 k.ranks.length R.c2) := sX.cell (j := 1) (by simp); have gX2 : X.cell? ⟨zb, 2, none⟩ = some (.slice R.A3 k.insured.length R.c3) := sX.cell (j := 2) (by simp); have lX := sX.lt; have HSX := Lib.hid sX; have HBX := Lib.hid (HBW.out.trans (hX.mono HBW.out.size)); clear hX sX)
    refine bodyPost_ret (v := .tuple #[.slice none 0 0, .int .i64 100]) (by simp [results, Try.results33, go_sem]) rfl ?_
    exact LsTo.bad (by decide) HBX.out
  | true =>
    have hbk : bk = 0 := HBK.out
    rw [hbk] at HCB
    clear hbk
    cases br with
    | false =>
      have HV : Hid (E = 1) := HE.out.trans rfl
      rw [HV.out]
      go_enter Try.func33, Try.ntmps33
      go_upto_region 1 with fail
      rw [← hW, ← hzb]
      clear hW hzb
      go_wp2_with (first | (go_at_call 45; refine HCB.out.mono ?_; rintro e X ⟨rfl, hX⟩; have sX := HR0.out.below hX HR0.out.lt; have gX0 : X.cell? ⟨zb, 0, none⟩ = some (.slice R.A1 k.rules.length R.c1) := sX.cell (j := 0) (by simp); have gX1 : X.cell? ⟨zb, 1, none⟩ = some (.slice R.A2 k.ranks.length R.c2) := sX.cell (j := 1) (by simp); have gX2 : X.cell? ⟨zb, 2, none⟩ = some (.slice R.A3 k.insured.length R.c3) := sX.cell (j := 2) (by simp); have lX := sX.lt; have HSX := Lib.hid sX; have HBX := Lib.hid (HBW.out.trans (hX.mono HBW.out.size)); clear hX sX) | (go_at_call 66; with_reducible refine (HW1.out _).mono ?_; rintro e w' ⟨rfl, hw⟩; rw [hw]; clear hw))
      refine bodyPost_ret (v := .tuple #[.slice none 0 0, .int .i64 1]) (by simp [results, Try.results33, go_sem]) rfl ?_
      exact LsTo.bad (by decide) HBX.out
    | true =>
      cases bd with
      | false =>
        have HV : Hid (E = 1) := HE.out.trans rfl
        rw [HV.out]
        go_enter Try.func33, Try.ntmps33
        go_upto_region 1 with fail
        rw [← hW, ← hzb]
        clear hW hzb
        go_wp2_with (first | (go_at_call 45; refine HCB.out.mono ?_; rintro e X ⟨rfl, hX⟩; have sX := HR0.out.below hX HR0.out.lt; have gX0 : X.cell? ⟨zb, 0, none⟩ = some (.slice R.A1 k.rules.length R.c1) := sX.cell (j := 0) (by simp); have gX1 : X.cell? ⟨zb, 1, none⟩ = some (.slice R.A2 k.ranks.length R.c2) := sX.cell (j := 1) (by simp); have gX2 : X.cell? ⟨zb, 2, none⟩ = some (.slice R.A3 k.insured.length R.c3) := sX.cell (j := 2) (by simp); have lX := sX.lt; have HSX := Lib.hid sX; have HBX := Lib.hid (HBW.out.trans (hX.mono HBW.out.size)); clear hX sX) | (go_at_call 66; with_reducible refine (HW1.out _).mono ?_; rintro e w' ⟨rfl, hw⟩; rw [hw]; clear hw) | (go_at_call 66; with_reducible refine (HW2.out _).mono ?_; rintro e w' ⟨rfl, hw⟩; rw [hw]; clear hw))
        refine bodyPost_ret (v := .tuple #[.slice none 0 0, .int .i64 1]) (by simp [results, Try.results33, go_sem]) rfl ?_
        exact LsTo.bad (by decide) HBX.out
      | true =>
        cases bf with
        | false =>
          have HV : Hid (E = 1) := HE.out.trans rfl
          rw [HV.out]
          go_enter Try.func33, Try.ntmps33
          go_upto_region 1 with fail
          rw [← hW, ← hzb]
          clear hW hzb
          go_wp2_with (first | (go_at_call 45; refine HCB.out.mono ?_; rintro e X ⟨rfl, hX⟩; have sX := HR0.out.below hX HR0.out.lt; have gX0 : X.cell? ⟨zb, 0, none⟩ = some (.slice R.A1 k.rules.length R.c1) := sX.cell (j := 0) (by simp); have gX1 : X.cell? ⟨zb, 1, none⟩ = some (.slice R.A2 k.ranks.length R.c2) := sX.cell (j := 1) (by simp); have gX2 : X.cell? ⟨zb, 2, none⟩ = some (.slice R.A3 k.insured.length R.c3) := sX.cell (j := 2) (by simp); have lX := sX.lt; have HSX := Lib.hid sX; have HBX := Lib.hid (HBW.out.trans (hX.mono HBW.out.size)); clear hX sX) | (go_at_call 66; with_reducible refine (HW1.out _).mono ?_; rintro e w' ⟨rfl, hw⟩; rw [hw]; clear hw) | (go_at_call 66; with_reducible refine (HW2.out _).mono ?_; rintro e w' ⟨rfl, hw⟩; rw [hw]; clear hw) | (go_at_call 66; with_reducible refine (HW3.out _).mono ?_; rintro e w' ⟨rfl, hw⟩; rw [hw]; clear hw))
          refine bodyPost_ret (v := .tuple #[.slice none 0 0, .int .i64 1]) (by simp [results, Try.results33, go_sem]) rfl ?_
          exact LsTo.bad (by decide) HBX.out
        | true =>
          have HV : Hid (E = visE EV f t) := HE.out.trans rfl
          have hf := (HF.out rfl).1
          have hft := (HF.out rfl).2
          have ht := HD.out rfl
          have hev := HBo.out rfl
          obtain ⟨N, hN⟩ : ∃ N, N = visN EV f t := ⟨_, rfl⟩
          have HEE : Hid (E = if 1000 < N then 2 else 0) := by
            show _ = _
            by_cases h0 : EV = 0
            · rw [HV.out, hN]
              unfold visN visE
              rw [if_pos h0, if_neg (fun q => q.1 h0)]; rfl
            · rw [HV.out, hN]; exact visE_many (by omega) hft
          have HDl : Hid (0 < EV → ∀ n, dyv f EV n ≤ t ↔ n < N) := fun h => by rw [hN]; exact dyv_le h hft
          have HDb : Hid (0 < EV → ∀ n, n ≤ N → 0 ≤ dyv f EV n ∧ dyv f EV n ≤ t + EV) := fun h => by rw [hN]; exact dyv_bd h hf hft
          have HN0 : Hid (EV = 0 → N = 0) := fun h => by rw [hN]; exact if_pos h
          have HD0 := Lib.hid (dyv_zero f EV)
          rw [← hN]
          clear hN HV HE HL HBo HF HD
          go_enter Try.func33, Try.ntmps33
          go_upto_region 1 with fail
          rw [← hW, ← hzb]
          clear hW hzb
          go_upto_region 8 with (first | (go_at_call 45; refine HCB.out.mono ?_; rintro e X ⟨rfl, hX⟩; have sX := HR0.out.below hX HR0.out.lt; have gX0 : X.cell? ⟨zb, 0, none⟩ = some (.slice R.A1 k.rules.length R.c1) := sX.cell (j := 0) (by simp); have gX1 : X.cell? ⟨zb, 1, none⟩ = some (.slice R.A2 k.ranks.length R.c2) := sX.cell (j := 1) (by simp); have gX2 : X.cell? ⟨zb, 2, none⟩ = some (.slice R.A3 k.insured.length R.c3) := sX.cell (j := 2) (by simp); have lX := sX.lt; have HSX := Lib.hid sX; have HBX := Lib.hid (HBW.out.trans (hX.mono HBW.out.size)); clear hX sX) | (go_at_call 66; with_reducible refine (HW1.out _).mono ?_; rintro e w' ⟨rfl, hw⟩; rw [hw]; clear hw) | (go_at_call 66; with_reducible refine (HW2.out _).mono ?_; rintro e w' ⟨rfl, hw⟩; rw [hw]; clear hw) | (go_at_call 66; with_reducible refine (HW3.out _).mono ?_; rintro e w' ⟨rfl, hw⟩; rw [hw]; clear hw))
          clear HCB HW1 HW2 HW3
          go_loopw [11, 12] (fun e q wr => ∃ n : Nat, n ≤ k.rules.length ∧ q = .int .i64 n ∧ e = .int .i64 (evN k ride n) ∧ wr = X) (fun _ q _ => k.rules.length - (intOf q).toNat)
          case atStart => exact ⟨0, Nat.zero_le _, rfl, rfl, rfl⟩
          case round =>
            obtain ⟨n, hn, rfl, rfl, rfl⟩ := hrel
            by_cases hlt : n < k.rules.length
            · have n1 : (n : Int) < (k.rules.length : Int) := by omega
              have n0 : ¬ (n : Int) < 0 := by omega
              have en : IntKind.i64.wrap ((n : Int) + 1) = (n : Int) + 1 := IntWalk.i64_in _ (by omega)
              obtain ⟨br, or, hR, lr, x0, x1⟩ := HRd.out n hlt _ HBX.out
              have HS : Hid (evN k ride (n + 1) = if k.rules[n].ride = ride ∧ (evN k ride n = 0 ∨ k.rules[n].every < evN k ride n) then k.rules[n].every else evN k ride n) := by show _ = _; simp only [evN]; rw [rules_at hlt]
              generalize k.rules[n] = u at x0 x1 HS
              generalize evN k ride n = ev at HS ⊢
              rw [hR] at gX0
              clear hR HRd
              by_cases hu : u.ride = ride
              · have e1 : decide (u.ride = ride) = true := decide_eq_true hu
                have e2 : (u.ride == ride) = true := by simpa using hu
                by_cases h0 : ev = 0
                · have HV2 : Hid (u.every = evN k ride (n + 1)) := (HS.out.trans (if_pos ⟨hu, .inl h0⟩)).symm
                  have e3 : decide (ev = 0) = true := decide_eq_true h0
                  have e4 : (ev == 0) = true := by simpa using h0
                  clear hu h0 HS
                  go_wp2_with fail
                  go_roundw
                  case rel => exact ⟨n + 1, by omega, by go_num, by rw [← HV2.out], (by first | rfl | trivial)⟩
                  case measure => simp [intOf]; omega
                · have e3 : decide (ev = 0) = false := decide_eq_false h0
                  have e4 : (ev == 0) = false := by simpa using h0
                  by_cases hq : u.every < ev
                  · have HV2 : Hid (u.every = evN k ride (n + 1)) := (HS.out.trans (if_pos ⟨hu, .inr hq⟩)).symm
                    clear hu h0 HS
                    go_wp2_with fail
                    go_roundw
                    case rel => exact ⟨n + 1, by omega, by go_num, by rw [← HV2.out], (by first | rfl | trivial)⟩
                    case measure => simp [intOf]; omega
                  · have HV2 : Hid (ev = evN k ride (n + 1)) := (HS.out.trans (if_neg (fun p => p.2.elim h0 hq))).symm
                    clear hu h0 HS
                    go_wp2_with fail
                    go_roundw
                    case rel => exact ⟨n + 1, by omega, by go_num, by rw [← HV2.out], (by first | rfl | trivial)⟩
                    case measure => simp [intOf]; omega
              · have e1 : decide (u.ride = ride) = false := decide_eq_false hu
                have e2 : (u.ride == ride) = false := by simpa using hu
                have HV2 : Hid (ev = evN k ride (n + 1)) := (HS.out.trans (if_neg (fun p => hu p.1))).symm
                clear hu HS
                go_wp2_with fail
                go_roundw
                case rel => exact ⟨n + 1, by omega, by go_num, by rw [← HV2.out], (by first | rfl | trivial)⟩
                case measure => simp [intOf]; omega
            · have en : n = k.rules.length := by omega
              have n1 : ¬ (n : Int) < (k.rules.length : Int) := by omega
              have HEn : Hid (evN k ride n = EV) := by show _ = _; rw [en, HEv.out]
              clear en hlt HRd
              rw [HEn.out]
              clear HEn HEv
              have lXw := wr.heap.size
              go_upto_region 14 with fail
              clear n1
              obtain ⟨U, hU⟩ : ∃ U, U = wr := ⟨_, rfl⟩
              rw [← hU]
              have HBU := HBX
              rw [← hU] at HBU
              clear hU
              go_loopw [13, 14] (fun v q wz => ∃ n : Nat, n ≤ 1000 ∧ n ≤ N ∧ q = .int .i64 (dyv f EV n) ∧ wz.ownsRow U.heap.size 3 1 v (visL f EV n).length ((visL f EV n).map (Value.int .i64)) ∧ Below U.heap.size U wz) (fun _ q _ => (t + 1 - intOf q).toNat)
              case atStart => exact ⟨0, by omega, Nat.zero_le _, by rw [HD0.out], owns_nil _ _ _ _, Below.refl _ _⟩
              case round =>
                obtain ⟨n, hn9, hn, rfl, hown, hbel⟩ := hrel
                have HBr := Lib.hid (HBU.out.trans (hbel.mono HBU.out.size))
                have HBL := Lib.hid hbel
                have hws := hbel.size
                have HOw := Lib.hid hown
                have hnl := visL_len f EV n
                clear hown hbel
                by_cases hlt : n < N
                · have hpos : 0 < EV := by
                    by_cases h0 : EV = 0
                    · have := HN0.out h0; omega
                    · omega
                  have n1 : dyv f EV n ≤ t := (HDl.out hpos n).2 hlt
                  have hbd := HDb.out hpos n hn
                  have HLs := Lib.hid (visL_succ f EV n)
                  have HDn := Lib.hid (dyv_succ f EV n)
                  have m1 : (visL f EV n).length + 1 ≤ maxLen := by unfold maxLen; omega
                  have m2 : ((visL f EV n).length + 1) * 8 ≤ 140737488355328 := by omega
                  have HNl := Lib.hid hnl
                  clear hnl
                  generalize visL f EV n = L at HOw HLs m1 m2 HNl
                  generalize dyv f EV n = d at n1 HLs hbd HDn ⊢
                  have e5 : IntKind.i64.wrap (d + EV) = d + EV := IntWalk.i64_in _ (by omega)
                  have Hpos : Hid (0 < EV) := hpos
                  go_wp2_with (at_builtin; refine wpList_app _ rfl _ _ 23 rfl U.heap.size 3 i0 (.int .i64 0) 1 8 Try.underlying23 hi hz0 hz1 hz2 rfl (by decide) (u13) (L).length ((L).map (Value.int .i64)) rfl ?qo (wr.heap.size + 1) (some ⟨wr.heap.size, 0, none⟩) 1 1 ([(d : Int)].map (Value.int .i64)) rfl ?qr ?q1 m1 m2 ?qb ?_)
                  case qo => first | exact owns_alloc HOw.out _ | exact owns_alloc (owns_drewN HOw.out _) _ | exact owns_drewN (owns_alloc HOw.out _) _
                  case qr =>
                    refine Row.reads (t := 3) ?_ rfl (by omega)
                    show Row _ _ _ [.int .i64 d]
                    first | exact row_oneI _ _ _ _ (by simp; done) | exact (row_oneI _ _ _ _ (by simp; done)).drewN _
                  case q1 => first | rfl | (intro u hu; simp at hu; subst hu; rfl)
                  case qb => first | exact hws | (have := hws; omega) | (have := hws; simp; omega)
                  intro v' w1 hown' hbel'
                  have HB2 := Lib.hid (Below.trans (show Below U.heap.size U _ by repeat (first | (with_reducible exact HBL.out) | (with_reducible exact hws) | (with_reducible refine below_drewN ?_ _) | (with_reducible refine Below.alloc ?_ ?_ _) | (simp; omega))) hbel')
                  have ho2 : w1.ownsRow U.heap.size 3 1 v' (L.length + 1) (L.map (Value.int .i64) ++ [.int .i64 d]) := by simpa using hown'
                  obtain ⟨A2, c2, hv2, hr2⟩ := own_readsI ho2
                  have HO2 := Lib.hid ho2
                  rw [hv2] at HO2 ⊢
                  clear hown' hbel' ho2 hr2 hv2
                  by_cases hm : n = 1000
                  · have c1 : (1000 : Int) < ((L.length + 1 : Nat) : Int) := by have := HNl.out; omega
                    have HV : Hid (E = 2) := HEE.out.trans (if_pos (by omega))
                    clear hm
                    go_wp2_with fail
                    refine bodyPost_ret (v := .tuple #[.slice none 0 0, .int .i64 2]) (by simp [results, Try.results33, go_sem]) rfl ?_
                    rw [HV.out]
                    exact LsTo.bad (by decide) (HBU.out.trans (HB2.out.mono HBU.out.size))
                  · have c1 : ¬ (1000 : Int) < ((L.length + 1 : Nat) : Int) := by have := HNl.out; omega
                    have hn10 : n + 1 ≤ 1000 := by omega
                    clear hm
                    go_wp2_with fail
                    go_roundw
                    case rel => exact ⟨n + 1, by omega, by omega, by rw [HDn.out], by rw [HLs.out]; simpa using HO2.out, HB2.out⟩
                    case measure => simp [intOf]; omega
                · have en : n = N := by omega
                  have HV : Hid (E = 0) := HEE.out.trans (if_neg (by omega))
                  obtain ⟨A2, c2, hv2, hr2⟩ := own_readsI HOw.out
                  rw [hv2]
                  have HR2 := Lib.hid hr2
                  have HEN := Lib.hid en
                  by_cases h0 : EV = 0
                  · have hN0 := HN0.out h0
                    have n1 : dyv f EV n ≤ t := by rw [show n = 0 by omega, HD0.out]; exact hft
                    have n2 : ¬ 0 < EV := by omega
                    clear h0 hN0 en hlt hr2 hnl hv2 HOw
                    generalize dyv f EV n = d at n1 ⊢
                    go_wp2_with fail
                    refine bodyPost_ret (v := .tuple #[.slice A2 (visL f EV n).length c2, .int .i64 0]) (by simp [results, Try.results33, go_sem]) rfl ?_
                    rw [← HEN.out]
                    exact LsTo.ok HV.out HBr.out HR2.out
                  · have n1 : ¬ dyv f EV n ≤ t := fun h => hlt ((HDl.out (by omega) n).1 h)
                    clear h0 en hlt hr2 hnl hv2 HOw
                    generalize dyv f EV n = d at n1 ⊢
                    go_wp2_with fail
                    refine bodyPost_ret (v := .tuple #[.slice A2 (visL f EV n).length c2, .int .i64 0]) (by simp [results, Try.results33, go_sem]) rfl ?_
                    rw [← HEN.out]
                    exact LsTo.ok HV.out HBr.out HR2.out
end Go.Proofs.Ytaocgkmobfocjaa
