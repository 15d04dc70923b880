/- The walk of InspectWhys. Conditions: arguments that read as data. -/
import Derived.Test.YtaocgkmobfocjaaIcb
import Derived.Test.YtaocgkmobfocjaaIag
namespace Go.Proofs.Ytaocgkmobfocjaa
open Go.RowKit

theorem whyS_len (k : BookZ) (l : List EntZ) (i : Nat) (day : Int) : (whyS k l i day).length ≤ 4 := by
  unfold whyS
  simp only [List.length_append]
  repeat' split
  all_goals simp
set_option maxRecDepth 100000 in
set_option maxHeartbeats 4000000 in
theorem whys_walk {w : World} (k : BookZ) (R : BkR) (hk : BkIn w w.heap.size k R) (l : List EntZ) (A : Option Addr) (c : Nat) (hr : Reads w w.heap.size 5 A l.length (entCells l)) (hl : l.length ≤ maxLen) (hlc : l.length ≤ c) (ride day : Int) :
    Calls Try.prog 5 #[bookV k R, .slice A l.length c, .agg #[.int .i64 ride, .int .i64 day]] w (TrueI w) := by
  obtain ⟨W0, hW0⟩ : ∃ W, W = w.alloc (.cells #[.slice R.A1 k.rules.length R.c1, .slice R.A2 k.ranks.length R.c2, .slice R.A3 k.insured.length R.c3] 25) := ⟨_, rfl⟩
  have b0 : Below w.heap.size w W0 := by subst hW0; exact (Below.refl _ _).alloc (Nat.le_refl _) _
  have r0 : Row W0 w.heap.size 25 [.slice R.A1 k.rules.length R.c1, .slice R.A2 k.ranks.length R.c2, .slice R.A3 k.insured.length R.c3] := by subst hW0; exact Row.new w _ _
  obtain ⟨W, hW⟩ : ∃ W, W = W0.alloc (.cells #[.int .i64 ride, .int .i64 day] 38) := ⟨_, rfl⟩
  have bW : Below w.heap.size w W := by subst hW; exact b0.alloc b0.size _
  have q0 : Row W0 w.heap.size 25 [.slice R.A1 k.rules.length R.c1, .slice R.A2 k.ranks.length R.c2, .slice R.A3 k.insured.length R.c3] := r0
  have r0 : Row W w.heap.size 25 [.slice R.A1 k.rules.length R.c1, .slice R.A2 k.ranks.length R.c2, .slice R.A3 k.insured.length R.c3] := by subst hW; exact q0.alloc _
  clear q0
  have t0 : Row W W0.heap.size 38 [.int .i64 ride, .int .i64 day] := by subst hW; exact Row.new W0 _ _
  obtain ⟨zb, hzb⟩ : ∃ z, z = w.heap.size := ⟨_, rfl⟩
  rw [← hzb] at r0
  have e0 : W0.heap.size = w.heap.size + 1 := by rw [hW0]; simp
  rw [e0] at t0
  obtain ⟨zq, hzq⟩ : ∃ z, z = w.heap.size + 1 := ⟨_, rfl⟩
  rw [← hzq] at t0
  clear e0
  have gW0 : W.cell? ⟨zb, 0, none⟩ = some (.slice R.A1 k.rules.length R.c1) := r0.cell (j := 0) (by simp)
  have gW1 : W.cell? ⟨zb, 1, none⟩ = some (.slice R.A2 k.ranks.length R.c2) := r0.cell (j := 1) (by simp)
  have gW2 : W.cell? ⟨zb, 2, none⟩ = some (.slice R.A3 k.insured.length R.c3) := r0.cell (j := 2) (by simp)
  have fW0 : W.cell? ⟨zq, 0, none⟩ = some (.int .i64 ride) := t0.cell (j := 0) (by simp)
  have fW1 : W.cell? ⟨zq, 1, none⟩ = some (.int .i64 day) := t0.cell (j := 1) (by simp)
  have lW := r0.lt
  have mW := t0.lt
  have HBW := Lib.hid bW
  have HGW := Lib.hid r0
  have HFW := Lib.hid t0
  have HW : Hid (∀ X, Below w.heap.size w X → Calls Try.prog 17 #[] X fun e w' => e = .returned (.bool true) ∧ Below w.heap.size w w') := fun X hX => (works_any X).mono fun e w' h => ⟨h.1, hX.trans (h.2.mono hX.size)⟩
  have HL := Lib.hid (long_any A l.length c W)
  have H1 : Hid (∀ X, Below w.heap.size w X → Calls Try.prog 27 #[bookV k R, .slice A l.length c, .int .i64 ride, .int .i64 day] X (LsTo X (rideE k l ride day) (lsE (rideE k l ride day) (whyS k (upL l day) ride.toNat day)))) := fun X hX => Why_any k R l A c w.heap.size ride day X hX.size hl hlc (hr.below hX) (hk.below hX)
  have H2 : Hid (∀ X, Below w.heap.size w X → Calls Try.prog 28 #[bookV k R, .slice A l.length c, .int .i64 ride, .int .i64 day] X (LsTo X (rideE k l ride day) (lsE (rideE k l ride day) (whyS k (upL l day) ride.toNat day)))) := fun X hX => rWhy_any k R l A c w.heap.size ride day X hX.size hl hlc (hr.below hX) (hk.below hX)
  have H3 : Hid (∀ X, Below w.heap.size w X → Calls Try.prog 29 #[bookV k R, .slice A l.length c, .int .i64 day] X fun e w' => IsBool e ∧ Below X.heap.size X w') := fun X hX => far_any k R l A c w.heap.size day X hX.size hl (hr.below hX) (hk.below hX)
  have H4 : Hid (∀ X, Below w.heap.size w X → Calls Try.prog 30 #[bookV k R, .slice A l.length c, .int .i64 ride, .int .i64 day] X fun e w' => e = .returned (.tuple #[.int .i64 (untE (rideE k l ride day) (untS k (upL l day) ride.toNat day)).1, .int .i64 (untE (rideE k l ride day) (untS k (upL l day) ride.toNat day)).2]) ∧ Below X.heap.size X w') := fun X hX => Until_any k R l A c w.heap.size ride day X hX.size hl hlc (hr.below hX) (hk.below hX)
  have H5 : Hid (∀ X, Below w.heap.size w X → Calls Try.prog 31 #[bookV k R, .slice A l.length c, .int .i64 ride, .int .i64 day] X fun e w' => e = .returned (.tuple #[.int .i64 (untE (rideE k l ride day) (untS k (upL l day) ride.toNat day)).1, .int .i64 (untE (rideE k l ride day) (untS k (upL l day) ride.toNat day)).2]) ∧ Below X.heap.size X w') := fun X hX => rUntil_any k R l A c w.heap.size ride day X hX.size hl hlc (hr.below hX) (hk.below hX)
  have n1 : (lsE (rideE k l ride day) (whyS k (upL l day) ride.toNat day)).length ≤ 1000 := lsE_len fun _ => Nat.le_trans (whyS_len k (upL l day) ride.toNat day) (by omega)
  generalize lsE (rideE k l ride day) (whyS k (upL l day) ride.toNat day) = L1 at H1 H2 n1
  generalize (untE (rideE k l ride day) (untS k (upL l day) ride.toNat day)) = p at H4 H5
  obtain ⟨p1, p2⟩ := p
  dsimp only at H4 H5
  generalize rideE k l ride day = E at H1 H2
  have HSm : Hid (∀ (L : List Int) (A A' : Option Addr) (c c' : Nat) (X : World), L.length ≤ 1000 → Reads X X.heap.size 1 A L.length (L.map (Value.int .i64)) → Reads X X.heap.size 1 A' L.length (L.map (Value.int .i64)) → Calls Try.prog 22 #[.slice A L.length c, .slice A' L.length c'] X fun e w' => e = .returned (.bool true) ∧ Below X.heap.size X w') := fun L A A' c c' X h h1 h2 => same_eq L A A' c c' X.heap.size X.heap.size X h1 h2 (Nat.le_refl _) (Nat.le_refl _) (by omega)
  generalize (decide (30 < l.length) && decide (l.length ≤ 100)) = lg at HL
  have HN1 := Lib.hid n1
  unfold bookV at *
  clear b0 bW r0 t0 hk hr hl hlc n1
  go_enter Try.func5, Try.ntmps5
  go_upto_region 1 with fail
  rw [← hW0, ← hW, ← hzq, ← hzb]
  clear hW hW0 hzb hzq
  cases lg with
  | true =>
    go_wp2_with (first | (go_at_call 16; refine HL.out.mono ?_; rintro e w' ⟨rfl, hw⟩; rw [hw]; clear hw) | (go_at_call 17; refine (HW.out _ HBW.out).mono ?_; rintro e w' ⟨rfl, hb⟩; have BW := Lib.hid hb; clear hb))
    go_ret
    exact ⟨rfl, BW.out⟩
  | false =>
    go_upto_region 3 with (go_at_call 16; refine HL.out.mono ?_; rintro e w' ⟨rfl, hw⟩; rw [hw]; clear hw)
    go_upto_region 4 with (go_at_call 27; refine (H1.out W HBW.out).mono ?_; rintro e X1 ⟨hX1, Aa, ca, rfl, hra⟩)
    have HBX1 := Lib.hid (HBW.out.trans (hX1.mono HBW.out.size))
    have sX1 := HGW.out.below hX1 HGW.out.lt
    have vX1 := HFW.out.below hX1 HFW.out.lt
    have gX10 : X1.cell? ⟨zb, 0, none⟩ = some (.slice R.A1 k.rules.length R.c1) := sX1.cell (j := 0) (by simp)
    have gX11 : X1.cell? ⟨zb, 1, none⟩ = some (.slice R.A2 k.ranks.length R.c2) := sX1.cell (j := 1) (by simp)
    have gX12 : X1.cell? ⟨zb, 2, none⟩ = some (.slice R.A3 k.insured.length R.c3) := sX1.cell (j := 2) (by simp)
    have fX10 : X1.cell? ⟨zq, 0, none⟩ = some (.int .i64 ride) := vX1.cell (j := 0) (by simp)
    have fX11 : X1.cell? ⟨zq, 1, none⟩ = some (.int .i64 day) := vX1.cell (j := 1) (by simp)
    have lX1 := sX1.lt
    have mX1 := vX1.lt
    have HGX1 := Lib.hid sX1
    have HFX1 := Lib.hid vX1
    have HRa := Lib.hid hra
    clear hra
    clear hX1 sX1 vX1 gW0 gW1 gW2 fW0 fW1 lW mW
    go_upto_region 5 with (go_at_call 28; refine (H2.out X1 HBX1.out).mono ?_; rintro e X2 ⟨hX2, Ab, cb, rfl, hrb⟩)
    have HBX2 := Lib.hid (HBX1.out.trans (hX2.mono HBX1.out.size))
    have sX2 := HGX1.out.below hX2 HGX1.out.lt
    have vX2 := HFX1.out.below hX2 HFX1.out.lt
    have gX20 : X2.cell? ⟨zb, 0, none⟩ = some (.slice R.A1 k.rules.length R.c1) := sX2.cell (j := 0) (by simp)
    have gX21 : X2.cell? ⟨zb, 1, none⟩ = some (.slice R.A2 k.ranks.length R.c2) := sX2.cell (j := 1) (by simp)
    have gX22 : X2.cell? ⟨zb, 2, none⟩ = some (.slice R.A3 k.insured.length R.c3) := sX2.cell (j := 2) (by simp)
    have fX20 : X2.cell? ⟨zq, 0, none⟩ = some (.int .i64 ride) := vX2.cell (j := 0) (by simp)
    have fX21 : X2.cell? ⟨zq, 1, none⟩ = some (.int .i64 day) := vX2.cell (j := 1) (by simp)
    have lX2 := sX2.lt
    have mX2 := vX2.lt
    have HGX2 := Lib.hid sX2
    have HFX2 := Lib.hid vX2
    have HRb := Lib.hid hrb
    clear hrb
    have HRa_X2 := Lib.hid ((HRa.out.below hX2).more hX2.size)
    clear HRa
    have HRa := HRa_X2
    clear HRa_X2
    clear hX2 sX2 vX2 gX10 gX11 gX12 fX10 fX11 lX1 mX1
    have HS := Lib.hid (HSm.out L1 Aa Ab ca cb X2 HN1.out HRa.out HRb.out)
    go_upto_region 7 with (go_at_call 22; refine HS.out.mono ?_; rintro e X3 ⟨rfl, hX3⟩)
    have HBX3 := Lib.hid (HBX2.out.trans (hX3.mono HBX2.out.size))
    have sX3 := HGX2.out.below hX3 HGX2.out.lt
    have vX3 := HFX2.out.below hX3 HFX2.out.lt
    have gX30 : X3.cell? ⟨zb, 0, none⟩ = some (.slice R.A1 k.rules.length R.c1) := sX3.cell (j := 0) (by simp)
    have gX31 : X3.cell? ⟨zb, 1, none⟩ = some (.slice R.A2 k.ranks.length R.c2) := sX3.cell (j := 1) (by simp)
    have gX32 : X3.cell? ⟨zb, 2, none⟩ = some (.slice R.A3 k.insured.length R.c3) := sX3.cell (j := 2) (by simp)
    have fX30 : X3.cell? ⟨zq, 0, none⟩ = some (.int .i64 ride) := vX3.cell (j := 0) (by simp)
    have fX31 : X3.cell? ⟨zq, 1, none⟩ = some (.int .i64 day) := vX3.cell (j := 1) (by simp)
    have lX3 := sX3.lt
    have mX3 := vX3.lt
    have HGX3 := Lib.hid sX3
    have HFX3 := Lib.hid vX3
    clear hX3 sX3 vX3 gX20 gX21 gX22 fX20 fX21 lX2 mX2
    clear HS HRa HRb
    go_upto_if 49 with (go_at_call 29; refine (H3.out X3 HBX3.out).mono ?_; rintro e X4 ⟨⟨fb, rfl⟩, hX4⟩)
    have HBX4 := Lib.hid (HBX3.out.trans (hX4.mono HBX3.out.size))
    have sX4 := HGX3.out.below hX4 HGX3.out.lt
    have vX4 := HFX3.out.below hX4 HFX3.out.lt
    have gX40 : X4.cell? ⟨zb, 0, none⟩ = some (.slice R.A1 k.rules.length R.c1) := sX4.cell (j := 0) (by simp)
    have gX41 : X4.cell? ⟨zb, 1, none⟩ = some (.slice R.A2 k.ranks.length R.c2) := sX4.cell (j := 1) (by simp)
    have gX42 : X4.cell? ⟨zb, 2, none⟩ = some (.slice R.A3 k.insured.length R.c3) := sX4.cell (j := 2) (by simp)
    have fX40 : X4.cell? ⟨zq, 0, none⟩ = some (.int .i64 ride) := vX4.cell (j := 0) (by simp)
    have fX41 : X4.cell? ⟨zq, 1, none⟩ = some (.int .i64 day) := vX4.cell (j := 1) (by simp)
    have lX4 := sX4.lt
    have mX4 := vX4.lt
    have HGX4 := Lib.hid sX4
    have HFX4 := Lib.hid vX4
    clear hX4 sX4 vX4 gX30 gX31 gX32 fX30 fX31 lX3 mX3
    cases fb with
    | true =>
      go_wp2_with (go_at_call 17; refine (HW.out _ HBX4.out).mono ?_; rintro e w' ⟨rfl, hb⟩; have BW := Lib.hid hb; clear hb)
      go_ret
      exact ⟨rfl, BW.out⟩
    | false =>
      go_upto_region 10 with (go_at_call 30; refine (H4.out X4 HBX4.out).mono ?_; rintro e X5 ⟨rfl, hX5⟩)
      have HBX5 := Lib.hid (HBX4.out.trans (hX5.mono HBX4.out.size))
      have sX5 := HGX4.out.below hX5 HGX4.out.lt
      have vX5 := HFX4.out.below hX5 HFX4.out.lt
      have gX50 : X5.cell? ⟨zb, 0, none⟩ = some (.slice R.A1 k.rules.length R.c1) := sX5.cell (j := 0) (by simp)
      have gX51 : X5.cell? ⟨zb, 1, none⟩ = some (.slice R.A2 k.ranks.length R.c2) := sX5.cell (j := 1) (by simp)
      have gX52 : X5.cell? ⟨zb, 2, none⟩ = some (.slice R.A3 k.insured.length R.c3) := sX5.cell (j := 2) (by simp)
      have fX50 : X5.cell? ⟨zq, 0, none⟩ = some (.int .i64 ride) := vX5.cell (j := 0) (by simp)
      have fX51 : X5.cell? ⟨zq, 1, none⟩ = some (.int .i64 day) := vX5.cell (j := 1) (by simp)
      have lX5 := sX5.lt
      have mX5 := vX5.lt
      have HGX5 := Lib.hid sX5
      have HFX5 := Lib.hid vX5
      clear hX5 sX5 vX5 gX40 gX41 gX42 fX40 fX41 lX4 mX4
      go_upto_region 11 with (go_at_call 31; refine (H5.out X5 HBX5.out).mono ?_; rintro e X6 ⟨rfl, hX6⟩)
      have HBX6 := Lib.hid (HBX5.out.trans (hX6.mono HBX5.out.size))
      have sX6 := HGX5.out.below hX6 HGX5.out.lt
      have vX6 := HFX5.out.below hX6 HFX5.out.lt
      have gX60 : X6.cell? ⟨zb, 0, none⟩ = some (.slice R.A1 k.rules.length R.c1) := sX6.cell (j := 0) (by simp)
      have gX61 : X6.cell? ⟨zb, 1, none⟩ = some (.slice R.A2 k.ranks.length R.c2) := sX6.cell (j := 1) (by simp)
      have gX62 : X6.cell? ⟨zb, 2, none⟩ = some (.slice R.A3 k.insured.length R.c3) := sX6.cell (j := 2) (by simp)
      have fX60 : X6.cell? ⟨zq, 0, none⟩ = some (.int .i64 ride) := vX6.cell (j := 0) (by simp)
      have fX61 : X6.cell? ⟨zq, 1, none⟩ = some (.int .i64 day) := vX6.cell (j := 1) (by simp)
      have lX6 := sX6.lt
      have mX6 := vX6.lt
      have HGX6 := Lib.hid sX6
      have HFX6 := Lib.hid vX6
      clear hX6 sX6 vX6 gX50 gX51 gX52 fX50 fX51 lX5 mX5
      go_wp2_with (go_at_call 17; refine (HW.out _ HBX6.out).mono ?_; rintro e w' ⟨rfl, hb⟩; have BW := Lib.hid hb; clear hb)
      go_ret
      exact ⟨ret_boolI (by simp), BW.out⟩
end Go.Proofs.Ytaocgkmobfocjaa
