/- The walk of InspectFewest. Conditions: arguments that read as data. -/
import Derived.Test.YtaocgkmobfocjaaIaj
namespace Go.Proofs.Ytaocgkmobfocjaa
open Go.RowKit

set_option maxRecDepth 100000 in
set_option maxHeartbeats 4000000 in
theorem fewest_walk {w : World} (k : BookZ) (R : BkR) (hk : BkIn w w.heap.size k R) (ride f t : Int) (zs : List Int) (A : Option Addr) (c : Nat) (hrz : Reads w w.heap.size 1 A zs.length (zs.map (Value.int .i64))) (hz : zs.length ≤ maxLen) (_ : zs.length ≤ c) :
    Calls Try.prog 14 #[bookV k R, .agg #[.int .i64 ride, .int .i64 f, .int .i64 t], .slice A zs.length c] w (TrueI w) := by
  obtain ⟨W0, hW0⟩ : ∃ W, W = w.alloc (.cells #[.slice R.A1 k.rules.length R.c1, .slice R.A2 k.ranks.length R.c2, .slice R.A3 k.insured.length R.c3] 25) := ⟨_, rfl⟩
  have b0 : Below w.heap.size w W0 := by subst hW0; exact (Below.refl _ _).alloc (Nat.le_refl _) _
  have r0 : Row W0 w.heap.size 25 [.slice R.A1 k.rules.length R.c1, .slice R.A2 k.ranks.length R.c2, .slice R.A3 k.insured.length R.c3] := by subst hW0; exact Row.new w _ _
  obtain ⟨W, hW⟩ : ∃ W, W = W0.alloc (.cells #[.int .i64 ride, .int .i64 f, .int .i64 t] 43) := ⟨_, rfl⟩
  have bW : Below w.heap.size w W := by subst hW; exact b0.alloc b0.size _
  have q0 : Row W0 w.heap.size 25 [.slice R.A1 k.rules.length R.c1, .slice R.A2 k.ranks.length R.c2, .slice R.A3 k.insured.length R.c3] := r0
  have r0 : Row W w.heap.size 25 [.slice R.A1 k.rules.length R.c1, .slice R.A2 k.ranks.length R.c2, .slice R.A3 k.insured.length R.c3] := by subst hW; exact q0.alloc _
  clear q0
  have t0 : Row W W0.heap.size 43 [.int .i64 ride, .int .i64 f, .int .i64 t] := by subst hW; exact Row.new W0 _ _
  obtain ⟨zb, hzb⟩ : ∃ z, z = w.heap.size := ⟨_, rfl⟩
  rw [← hzb] at r0
  have e0 : W0.heap.size = w.heap.size + 1 := by rw [hW0]; simp
  rw [e0] at t0
  obtain ⟨zq, hzq⟩ : ∃ z, z = w.heap.size + 1 := ⟨_, rfl⟩
  rw [← hzq] at t0
  clear e0
  have gW0 : W.cell? ⟨zb, 0, none⟩ = some (.slice R.A1 k.rules.length R.c1) := r0.cell (j := 0) (by simp)
  have gW1 : W.cell? ⟨zb, 1, none⟩ = some (.slice R.A2 k.ranks.length R.c2) := r0.cell (j := 1) (by simp)
  have gW2 : W.cell? ⟨zb, 2, none⟩ = some (.slice R.A3 k.insured.length R.c3) := r0.cell (j := 2) (by simp)
  have fW0 : W.cell? ⟨zq, 0, none⟩ = some (.int .i64 ride) := t0.cell (j := 0) (by simp)
  have fW1 : W.cell? ⟨zq, 1, none⟩ = some (.int .i64 f) := t0.cell (j := 1) (by simp)
  have fW2 : W.cell? ⟨zq, 2, none⟩ = some (.int .i64 t) := t0.cell (j := 2) (by simp)
  have lW := r0.lt
  have mW := t0.lt
  have HBW := Lib.hid bW
  have HGW := Lib.hid r0
  have HFW := Lib.hid t0
  have HW : Hid (∀ X, Below w.heap.size w X → Calls Try.prog 17 #[] X fun e w' => e = .returned (.bool true) ∧ Below w.heap.size w w') := fun X hX => (works_any X).mono fun e w' h => ⟨h.1, hX.trans (h.2.mono hX.size)⟩
  have H1 : Hid (∀ X, Below w.heap.size w X → Calls Try.prog 32 #[bookV k R, .int .i64 ride, .int .i64 f, .int .i64 t] X (LsTo X (vE k ride f t) (lsE (vE k ride f t) (vL k ride f t)))) := fun X hX => Visits_any k R ride f t w.heap.size X hX.size (hk.below hX)
  have HA := Lib.hid (fun h => argV_in (k := k) (ride := ride) (f := f) (t := t) h)
  have HCa : Hid (0 ≤ f → f ≤ t → t ≤ 10000 → ∀ (X : World) (l : List Int) (A : Option Addr) (c : Nat), Below w.heap.size w X → l.length ≤ maxLen → Reads X X.heap.size 1 A l.length (l.map (Value.int .i64)) → Calls Try.prog 42 #[bookV k R, .agg #[.int .i64 ride, .int .i64 f, .int .i64 t], .slice A l.length c] X fun e w' => CovIs k ride f t l e ∧ Below X.heap.size X w') := fun h1 h2 h3 X l A c hX hl hr => covers_any k R ride f t l A c X.heap.size X (Nat.le_refl _) ((hk.below hX).more hX.size) hl hr h1 h2 h3
  have HRz : Hid (∀ X, Below w.heap.size w X → Reads X X.heap.size 1 A zs.length (zs.map (Value.int .i64))) := fun X hX => (hrz.below hX).more hX.size
  have HZl := Lib.hid hz
  have HVl := Lib.hid (fun h => vL_len (k := k) (ride := ride) (f := f) (t := t) h)
  have HLs : Hid (∀ E L, E = 0 → lsE E L = L) := fun E L h => if_pos h
  obtain ⟨E, hE⟩ : ∃ E, E = vE k ride f t := ⟨_, rfl⟩
  rw [← hE] at H1 HA HVl
  clear hE
  unfold bookV at *
  clear b0 bW r0 t0 hk hrz hz
  go_enter Try.func14, Try.ntmps14
  go_upto_region 1 with fail
  rw [← hW0, ← hW, ← hzq, ← hzb]
  clear hW hW0 hzb hzq
  obtain ⟨g, hg⟩ : ∃ g, g = IntKind.i64.wrap (f + 100) := ⟨_, rfl⟩
  have hg2 := hg.symm
  clear hg
  by_cases hgt : g < t
  · have d1 : decide (g < t) = true := decide_eq_true hgt
    go_wp2_with (go_at_call 17; refine (HW.out _ HBW.out).mono ?_; rintro e w' ⟨rfl, hb⟩; have BW := Lib.hid hb; clear hb)
    go_ret
    exact ⟨rfl, BW.out⟩
  · have d1 : decide (g < t) = false := decide_eq_false hgt
    go_upto_region 3 with fail
    clear hg2 hgt d1
    go_upto_region 4 with (go_at_call 32; refine (H1.out W HBW.out).mono ?_; rintro e X1 ⟨hX1, A1, c1, rfl, hr1⟩)
    have HBX1 := Lib.hid (HBW.out.trans (hX1.mono HBW.out.size))
    have sX1 := HGW.out.below hX1 HGW.out.lt
    have vX1 := HFW.out.below hX1 HFW.out.lt
    have gX10 : X1.cell? ⟨zb, 0, none⟩ = some (.slice R.A1 k.rules.length R.c1) := sX1.cell (j := 0) (by simp)
    have gX11 : X1.cell? ⟨zb, 1, none⟩ = some (.slice R.A2 k.ranks.length R.c2) := sX1.cell (j := 1) (by simp)
    have gX12 : X1.cell? ⟨zb, 2, none⟩ = some (.slice R.A3 k.insured.length R.c3) := sX1.cell (j := 2) (by simp)
    have fX10 : X1.cell? ⟨zq, 0, none⟩ = some (.int .i64 ride) := vX1.cell (j := 0) (by simp)
    have fX11 : X1.cell? ⟨zq, 1, none⟩ = some (.int .i64 f) := vX1.cell (j := 1) (by simp)
    have fX12 : X1.cell? ⟨zq, 2, none⟩ = some (.int .i64 t) := vX1.cell (j := 2) (by simp)
    have lX1 := sX1.lt
    have mX1 := vX1.lt
    have HGX1 := Lib.hid sX1
    have HFX1 := Lib.hid vX1
    have HR1 := Lib.hid hr1
    clear hr1
    clear hX1 sX1 vX1 gW0 gW1 gW2 fW0 fW1 fW2 lW mW
    by_cases h0 : E = 0
    · have HP := Lib.hid (HA.out h0)
      have HVs : Hid (covN k ride f t (vL k ride f t) k.rules.length) := cov_vis HP.out.1 HP.out.2.2.1
      have HFw : Hid (covN k ride f t zs k.rules.length → (vL k ride f t).length ≤ zs.length) := fun h => cov_few HP.out.1 HP.out.2.2.1 h
      rw [HLs.out E (vL k ride f t) h0] at *
      have hn := HVl.out h0
      rw [h0] at *
      generalize vL k ride f t = V at HR1 HVs HFw hn ⊢
      have hnm : V.length ≤ maxLen := by unfold maxLen; omega
      have HC := Lib.hid (HCa.out HP.out.2.1 HP.out.2.2.1 HP.out.2.2.2)
      have HC1 := Lib.hid (HC.out X1 V A1 c1 HBX1.out hnm HR1.out)
      clear hn hnm h0 HCa HVl HLs HA H1
      go_upto_region 6 with fail
      have HC3 : Hid (Calls Try.prog 42 #[.agg #[.slice R.A1 k.rules.length R.c1, .slice R.A2 k.ranks.length R.c2, .slice R.A3 k.insured.length R.c3], .agg #[.int .i64 ride, .int .i64 f, .int .i64 t], .slice A1 V.length c1] X1 fun e w' => e = .returned (.bool true) ∧ Below X1.heap.size X1 w') := HC1.out.mono fun e w' ⟨⟨b2, h1, h2⟩, h3⟩ => ⟨by rw [h1, show b2 = true from h2.2 HVs.out], h3⟩
      clear HC1 HVs
      by_cases hcov : covN k ride f t zs k.rules.length
      · have HC2 : Hid (∀ X, Below w.heap.size w X → Calls Try.prog 42 #[.agg #[.slice R.A1 k.rules.length R.c1, .slice R.A2 k.ranks.length R.c2, .slice R.A3 k.insured.length R.c3], .agg #[.int .i64 ride, .int .i64 f, .int .i64 t], .slice A zs.length c] X fun e w' => e = .returned (.bool true) ∧ Below X.heap.size X w') := fun X hX => (HC.out X zs A c hX HZl.out (HRz.out X hX)).mono fun e w' ⟨⟨b2, h1, h2⟩, h3⟩ => ⟨by rw [h1, show b2 = true from h2.2 hcov], h3⟩
        have hle := HFw.out hcov
        have d2 : decide (V.length ≤ zs.length) = true := decide_eq_true hle
        have d3 : decide ((V.length : Int) ≤ (zs.length : Int)) = true := decide_eq_true (by omega)
        clear hle
        clear hcov HC HRz HFw
        go_wp2_with fail
        with_reducible refine HC3.out.mono ?_
        rintro e X2 ⟨rfl, hX2⟩
        have sX2 := HGX1.out.below hX2 HGX1.out.lt
        have vX2 := HFX1.out.below hX2 HFX1.out.lt
        have gX20 : X2.cell? ⟨zb, 0, none⟩ = some (.slice R.A1 k.rules.length R.c1) := sX2.cell (j := 0) (by simp)
        have gX21 : X2.cell? ⟨zb, 1, none⟩ = some (.slice R.A2 k.ranks.length R.c2) := sX2.cell (j := 1) (by simp)
        have gX22 : X2.cell? ⟨zb, 2, none⟩ = some (.slice R.A3 k.insured.length R.c3) := sX2.cell (j := 2) (by simp)
        have fX20 : X2.cell? ⟨zq, 0, none⟩ = some (.int .i64 ride) := vX2.cell (j := 0) (by simp)
        have fX21 : X2.cell? ⟨zq, 1, none⟩ = some (.int .i64 f) := vX2.cell (j := 1) (by simp)
        have fX22 : X2.cell? ⟨zq, 2, none⟩ = some (.int .i64 t) := vX2.cell (j := 2) (by simp)
        have lX2 := sX2.lt
        have mX2 := vX2.lt
        have HBX2 := Lib.hid (HBX1.out.trans (hX2.mono HBX1.out.size))
        clear hX2 sX2 vX2
        go_wp2_with fail
        with_reducible refine (HC2.out X2 HBX2.out).mono ?_
        rintro e X3 ⟨rfl, hX3⟩
        have HBX3 := Lib.hid (HBX2.out.trans (hX3.mono HBX2.out.size))
        clear hX3
        go_wp2_with (go_at_call 17; refine (HW.out _ HBX3.out).mono ?_; rintro e w' ⟨rfl, hb⟩; have BW := Lib.hid hb; clear hb)
        go_ret
        exact ⟨ret_boolI (by simp), BW.out⟩
      · have HC2 : Hid (∀ X, Below w.heap.size w X → Calls Try.prog 42 #[.agg #[.slice R.A1 k.rules.length R.c1, .slice R.A2 k.ranks.length R.c2, .slice R.A3 k.insured.length R.c3], .agg #[.int .i64 ride, .int .i64 f, .int .i64 t], .slice A zs.length c] X fun e w' => e = .returned (.bool false) ∧ Below X.heap.size X w') := fun X hX => (HC.out X zs A c hX HZl.out (HRz.out X hX)).mono fun e w' ⟨⟨b2, h1, h2⟩, h3⟩ => ⟨by rw [h1, show b2 = false from Bool.eq_false_iff.2 fun h => hcov (h2.1 h)], h3⟩
        clear hcov HC HRz HFw
        go_wp2_with fail
        with_reducible refine HC3.out.mono ?_
        rintro e X2 ⟨rfl, hX2⟩
        have sX2 := HGX1.out.below hX2 HGX1.out.lt
        have vX2 := HFX1.out.below hX2 HFX1.out.lt
        have gX20 : X2.cell? ⟨zb, 0, none⟩ = some (.slice R.A1 k.rules.length R.c1) := sX2.cell (j := 0) (by simp)
        have gX21 : X2.cell? ⟨zb, 1, none⟩ = some (.slice R.A2 k.ranks.length R.c2) := sX2.cell (j := 1) (by simp)
        have gX22 : X2.cell? ⟨zb, 2, none⟩ = some (.slice R.A3 k.insured.length R.c3) := sX2.cell (j := 2) (by simp)
        have fX20 : X2.cell? ⟨zq, 0, none⟩ = some (.int .i64 ride) := vX2.cell (j := 0) (by simp)
        have fX21 : X2.cell? ⟨zq, 1, none⟩ = some (.int .i64 f) := vX2.cell (j := 1) (by simp)
        have fX22 : X2.cell? ⟨zq, 2, none⟩ = some (.int .i64 t) := vX2.cell (j := 2) (by simp)
        have lX2 := sX2.lt
        have mX2 := vX2.lt
        have HBX2 := Lib.hid (HBX1.out.trans (hX2.mono HBX1.out.size))
        clear hX2 sX2 vX2
        go_wp2_with fail
        with_reducible refine (HC2.out X2 HBX2.out).mono ?_
        rintro e X3 ⟨rfl, hX3⟩
        have HBX3 := Lib.hid (HBX2.out.trans (hX3.mono HBX2.out.size))
        clear hX3
        go_wp2_with (go_at_call 17; refine (HW.out _ HBX3.out).mono ?_; rintro e w' ⟨rfl, hb⟩; have BW := Lib.hid hb; clear hb)
        go_ret
        exact ⟨ret_boolI (by simp), BW.out⟩
    · have d2 : decide (E = 0) = false := decide_eq_false h0
      have d3 : (E == 0) = false := by simpa using h0
      generalize lsE E (vL k ride f t) = V at HR1 ⊢
      go_wp2_with (go_at_call 17; refine (HW.out _ HBX1.out).mono ?_; rintro e w' ⟨rfl, hb⟩; have BW := Lib.hid hb; clear hb)
      go_ret
      exact ⟨ret_boolI (by simp), BW.out⟩
end Go.Proofs.Ytaocgkmobfocjaa
