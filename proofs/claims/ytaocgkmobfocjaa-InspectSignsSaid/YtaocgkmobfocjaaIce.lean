/- The walk of InspectVisits. Conditions: arguments that read as data. -/
import Derived.Test.YtaocgkmobfocjaaIai
namespace Go.Proofs.Ytaocgkmobfocjaa
open Go.RowKit

set_option maxRecDepth 100000 in
set_option maxHeartbeats 4000000 in
theorem visitsL_walk {w : World} (k : BookZ) (R : BkR) (hk : BkIn w w.heap.size k R) (ride f t : Int) :
    Calls Try.prog 6 #[bookV k R, .agg #[.int .i64 ride, .int .i64 f, .int .i64 t]] w (TrueI w) := by
  obtain ⟨W0, hW0⟩ : ∃ W, W = w.alloc (.cells #[.slice R.A1 k.rules.length R.c1, .slice R.A2 k.ranks.length R.c2, .slice R.A3 k.insured.length R.c3] 25) := ⟨_, rfl⟩
  have b0 : Below w.heap.size w W0 := by subst hW0; exact (Below.refl _ _).alloc (Nat.le_refl _) _
  have r0 : Row W0 w.heap.size 25 [.slice R.A1 k.rules.length R.c1, .slice R.A2 k.ranks.length R.c2, .slice R.A3 k.insured.length R.c3] := by subst hW0; exact Row.new w _ _
  obtain ⟨W, hW⟩ : ∃ W, W = W0.alloc (.cells #[.int .i64 ride, .int .i64 f, .int .i64 t] 43) := ⟨_, rfl⟩
  have bW : Below w.heap.size w W := by subst hW; exact b0.alloc b0.size _
  have q0 : Row W0 w.heap.size 25 [.slice R.A1 k.rules.length R.c1, .slice R.A2 k.ranks.length R.c2, .slice R.A3 k.insured.length R.c3] := r0
  have r0 : Row W w.heap.size 25 [.slice R.A1 k.rules.length R.c1, .slice R.A2 k.ranks.length R.c2, .slice R.A3 k.insured.length R.c3] := by subst hW; exact q0.alloc _
  clear q0
  have t0 : Row W W0.heap.size 43 [.int .i64 ride, .int .i64 f, .int .i64 t] := by subst hW; exact Row.new W0 _ _
  obtain ⟨zb, hzb⟩ : ∃ z, z = w.heap.size := ⟨_, rfl⟩
  rw [← hzb] at r0
  have e0 : W0.heap.size = w.heap.size + 1 := by rw [hW0]; simp
  rw [e0] at t0
  obtain ⟨zq, hzq⟩ : ∃ z, z = w.heap.size + 1 := ⟨_, rfl⟩
  rw [← hzq] at t0
  clear e0
  have gW0 : W.cell? ⟨zb, 0, none⟩ = some (.slice R.A1 k.rules.length R.c1) := r0.cell (j := 0) (by simp)
  have gW1 : W.cell? ⟨zb, 1, none⟩ = some (.slice R.A2 k.ranks.length R.c2) := r0.cell (j := 1) (by simp)
  have gW2 : W.cell? ⟨zb, 2, none⟩ = some (.slice R.A3 k.insured.length R.c3) := r0.cell (j := 2) (by simp)
  have fW0 : W.cell? ⟨zq, 0, none⟩ = some (.int .i64 ride) := t0.cell (j := 0) (by simp)
  have fW1 : W.cell? ⟨zq, 1, none⟩ = some (.int .i64 f) := t0.cell (j := 1) (by simp)
  have fW2 : W.cell? ⟨zq, 2, none⟩ = some (.int .i64 t) := t0.cell (j := 2) (by simp)
  have lW := r0.lt
  have mW := t0.lt
  have HBW := Lib.hid bW
  have HGW := Lib.hid r0
  have HFW := Lib.hid t0
  have HW : Hid (∀ X, Below w.heap.size w X → Calls Try.prog 17 #[] X fun e w' => e = .returned (.bool true) ∧ Below w.heap.size w w') := fun X hX => (works_any X).mono fun e w' h => ⟨h.1, hX.trans (h.2.mono hX.size)⟩
  have H1 : Hid (∀ X, Below w.heap.size w X → Calls Try.prog 32 #[bookV k R, .int .i64 ride, .int .i64 f, .int .i64 t] X (LsTo X (vE k ride f t) (lsE (vE k ride f t) (vL k ride f t)))) := fun X hX => Visits_any k R ride f t w.heap.size X hX.size (hk.below hX)
  have H2 : Hid (∀ X, Below w.heap.size w X → Calls Try.prog 33 #[bookV k R, .int .i64 ride, .int .i64 f, .int .i64 t] X (LsTo X (vE k ride f t) (lsE (vE k ride f t) (vL k ride f t)))) := fun X hX => rVisits_any k R ride f t w.heap.size X hX.size (hk.below hX)
  have n1 : (lsE (vE k ride f t) (vL k ride f t)).length ≤ 1000 := lsE_len fun h => vL_len h
  generalize lsE (vE k ride f t) (vL k ride f t) = L1 at H1 H2 n1
  generalize vE k ride f t = E at H1 H2
  have HSm : Hid (∀ (L : List Int) (A A' : Option Addr) (c c' : Nat) (X : World), L.length ≤ 1000 → Reads X X.heap.size 1 A L.length (L.map (Value.int .i64)) → Reads X X.heap.size 1 A' L.length (L.map (Value.int .i64)) → Calls Try.prog 22 #[.slice A L.length c, .slice A' L.length c'] X fun e w' => e = .returned (.bool true) ∧ Below X.heap.size X w') := fun L A A' c c' X h h1 h2 => same_eq L A A' c c' X.heap.size X.heap.size X h1 h2 (Nat.le_refl _) (Nat.le_refl _) (by omega)
  have HN1 := Lib.hid n1
  unfold bookV at *
  clear b0 bW r0 t0 hk n1
  go_enter Try.func6, Try.ntmps6
  go_upto_region 1 with fail
  rw [← hW0, ← hW, ← hzq, ← hzb]
  clear hW hW0 hzb hzq
  go_upto_region 2 with (go_at_call 32; refine (H1.out W HBW.out).mono ?_; rintro e X1 ⟨hX1, Aa, ca, rfl, hra⟩)
  have HBX1 := Lib.hid (HBW.out.trans (hX1.mono HBW.out.size))
  have sX1 := HGW.out.below hX1 HGW.out.lt
  have vX1 := HFW.out.below hX1 HFW.out.lt
  have gX10 : X1.cell? ⟨zb, 0, none⟩ = some (.slice R.A1 k.rules.length R.c1) := sX1.cell (j := 0) (by simp)
  have gX11 : X1.cell? ⟨zb, 1, none⟩ = some (.slice R.A2 k.ranks.length R.c2) := sX1.cell (j := 1) (by simp)
  have gX12 : X1.cell? ⟨zb, 2, none⟩ = some (.slice R.A3 k.insured.length R.c3) := sX1.cell (j := 2) (by simp)
  have fX10 : X1.cell? ⟨zq, 0, none⟩ = some (.int .i64 ride) := vX1.cell (j := 0) (by simp)
  have fX11 : X1.cell? ⟨zq, 1, none⟩ = some (.int .i64 f) := vX1.cell (j := 1) (by simp)
  have fX12 : X1.cell? ⟨zq, 2, none⟩ = some (.int .i64 t) := vX1.cell (j := 2) (by simp)
  have lX1 := sX1.lt
  have mX1 := vX1.lt
  have HGX1 := Lib.hid sX1
  have HFX1 := Lib.hid vX1
  have HRa := Lib.hid hra
  clear hra
  clear hX1 sX1 vX1 gW0 gW1 gW2 fW0 fW1 fW2 lW mW
  go_upto_region 3 with (go_at_call 33; refine (H2.out X1 HBX1.out).mono ?_; rintro e X2 ⟨hX2, Ab, cb, rfl, hrb⟩)
  have HBX2 := Lib.hid (HBX1.out.trans (hX2.mono HBX1.out.size))
  have sX2 := HGX1.out.below hX2 HGX1.out.lt
  have vX2 := HFX1.out.below hX2 HFX1.out.lt
  have gX20 : X2.cell? ⟨zb, 0, none⟩ = some (.slice R.A1 k.rules.length R.c1) := sX2.cell (j := 0) (by simp)
  have gX21 : X2.cell? ⟨zb, 1, none⟩ = some (.slice R.A2 k.ranks.length R.c2) := sX2.cell (j := 1) (by simp)
  have gX22 : X2.cell? ⟨zb, 2, none⟩ = some (.slice R.A3 k.insured.length R.c3) := sX2.cell (j := 2) (by simp)
  have fX20 : X2.cell? ⟨zq, 0, none⟩ = some (.int .i64 ride) := vX2.cell (j := 0) (by simp)
  have fX21 : X2.cell? ⟨zq, 1, none⟩ = some (.int .i64 f) := vX2.cell (j := 1) (by simp)
  have fX22 : X2.cell? ⟨zq, 2, none⟩ = some (.int .i64 t) := vX2.cell (j := 2) (by simp)
  have lX2 := sX2.lt
  have mX2 := vX2.lt
  have HGX2 := Lib.hid sX2
  have HFX2 := Lib.hid vX2
  have HRb := Lib.hid hrb
  clear hrb
  have HRa_X2 := Lib.hid ((HRa.out.below hX2).more hX2.size)
  clear HRa
  have HRa := HRa_X2
  clear HRa_X2
  clear hX2 sX2 vX2 gX10 gX11 gX12 fX10 fX11 fX12 lX1 mX1
  have HS := Lib.hid (HSm.out L1 Aa Ab ca cb X2 HN1.out HRa.out HRb.out)
  go_wp2_with (first | (go_at_call 22; refine HS.out.mono ?_; rintro e X3 ⟨rfl, hX3⟩; have HBX3 := Lib.hid (HBX2.out.trans (hX3.mono HBX2.out.size)); clear hX3) | (go_at_call 17; refine (HW.out _ HBX3.out).mono ?_; rintro e w' ⟨rfl, hb⟩; have BW := Lib.hid hb; clear hb))
  go_ret
  exact ⟨ret_boolI (by simp), BW.out⟩
end Go.Proofs.Ytaocgkmobfocjaa
