/- The walk of InspectSeals. Conditions: arguments that read as data. -/
import Derived.Test.YtiajemflnmijfaaIcb
import Derived.Test.YtiajemflnmijfaaIae
namespace Go.Proofs.Ytiajemflnmijfaa
open Go.RowKit

set_option maxRecDepth 100000 in
set_option maxHeartbeats 4000000 in
theorem seals_walk {w : World} (k : BookZ) (R : BkR) (hk : BkIn w w.heap.size k R) (l : List EntZ) (A : Option Addr) (c : Nat) (hr : Reads w w.heap.size 5 A l.length (entCells l)) (hl : l.length ≤ maxLen) (hlc : l.length ≤ c) (zs : List Int) (A2 : Option Addr) (c2 : Nat) (hrz : Reads w w.heap.size 1 A2 zs.length (zs.map (Value.int .i64))) (hz : zs.length ≤ maxLen) (_ : zs.length ≤ c2) :
    Calls Try.prog 7 #[bookV k R, .slice A l.length c, .slice A2 zs.length c2] w (TrueI w) := by
  obtain ⟨W, hW⟩ : ∃ W, W = w.alloc (.cells #[.slice R.A1 k.rules.length R.c1, .slice R.A2 k.ranks.length R.c2, .slice R.A3 k.insured.length R.c3] 25) := ⟨_, rfl⟩
  have bW : Below w.heap.size w W := by subst hW; exact (Below.refl _ _).alloc (Nat.le_refl _) _
  have r0 : Row W w.heap.size 25 [.slice R.A1 k.rules.length R.c1, .slice R.A2 k.ranks.length R.c2, .slice R.A3 k.insured.length R.c3] := by subst hW; exact Row.new w _ _
  obtain ⟨zb, hzb⟩ : ∃ z, z = w.heap.size := ⟨_, rfl⟩
  rw [← hzb] at r0
  have gW0 : W.cell? ⟨zb, 0, none⟩ = some (.slice R.A1 k.rules.length R.c1) := r0.cell (j := 0) (by simp)
  have gW1 : W.cell? ⟨zb, 1, none⟩ = some (.slice R.A2 k.ranks.length R.c2) := r0.cell (j := 1) (by simp)
  have gW2 : W.cell? ⟨zb, 2, none⟩ = some (.slice R.A3 k.insured.length R.c3) := r0.cell (j := 2) (by simp)
  have lW := r0.lt
  have HBW := Lib.hid bW
  have HGW := Lib.hid r0
  have HW : Hid (∀ X, Below w.heap.size w X → Calls Try.prog 17 #[] X fun e w' => e = .returned (.bool true) ∧ Below w.heap.size w w') := fun X hX => (works_any X).mono fun e w' h => ⟨h.1, hX.trans (h.2.mono hX.size)⟩
  have HL := Lib.hid (long_any A l.length c W)
  have H1 : Hid (∀ X, Below w.heap.size w X → Calls Try.prog 34 #[bookV k R, .slice A l.length c] X (LsTo X (chkR k l).2 (lsE (chkR k l).2 (selL l l.length)))) := fun X hX => Seals_any k R l A c w.heap.size X hX.size hl hlc (hr.below hX) (hk.below hX)
  have H2 : Hid (∀ X, Below w.heap.size w X → Calls Try.prog 35 #[bookV k R, .slice A l.length c] X (LsTo X (chkR k l).2 (lsE (chkR k l).2 (selL l l.length)))) := fun X hX => rSeals_any k R l A c w.heap.size X hX.size hl hlc (hr.below hX) (hk.below hX)
  have H3 : Hid (∀ X, Below w.heap.size w X → Calls Try.prog 36 #[bookV k R, .slice A l.length c, .slice A2 zs.length c2] X (ChTo X (chkR k l).2 (selL l l.length) zs)) := fun X hX => Changed_any k R l A c w.heap.size zs A2 c2 X hX.size hl hlc (hr.below hX) (hk.below hX) hz (hrz.below hX)
  have H4 : Hid (∀ X, Below w.heap.size w X → Calls Try.prog 37 #[bookV k R, .slice A l.length c, .slice A2 zs.length c2] X (ChTo X (chkR k l).2 (selL l l.length) zs)) := fun X hX => rChanged_any k R l A c w.heap.size zs A2 c2 X hX.size hl hlc (hr.below hX) (hk.below hX) hz (hrz.below hX)
  have n1 : (lsE (chkR k l).2 (selL l l.length)).length ≤ 1000 := lsE_len fun h => by have := chk_len h; rw [selL_len]; omega
  generalize lsE (chkR k l).2 (selL l l.length) = L1 at H1 H2 n1
  generalize selL l l.length = sl at H3 H4
  generalize (chkR k l).2 = E at H1 H2 H3 H4
  have HSm : Hid (∀ (L : List Int) (A A' : Option Addr) (c c' : Nat) (X : World), L.length ≤ 1000 → Reads X X.heap.size 1 A L.length (L.map (Value.int .i64)) → Reads X X.heap.size 1 A' L.length (L.map (Value.int .i64)) → Calls Try.prog 22 #[.slice A L.length c, .slice A' L.length c'] X fun e w' => e = .returned (.bool true) ∧ Below X.heap.size X w') := fun L A A' c c' X h h1 h2 => same_eq L A A' c c' X.heap.size X.heap.size X h1 h2 (Nat.le_refl _) (Nat.le_refl _) (by omega)
  generalize (decide (30 < l.length) && decide (l.length ≤ 100)) = lg at HL
  have HN1 := Lib.hid n1
  unfold bookV at *
  clear bW r0 hk hr hl hlc hrz hz n1
  go_enter Try.func7, Try.ntmps7
  go_upto_region 1 with fail
  rw [← hW, ← hzb]
  clear hW hzb
  cases lg with
  | true =>
    go_wp2_with (first | (go_at_call 16; refine HL.out.mono ?_; rintro e w' ⟨rfl, hw⟩; rw [hw]; clear hw) | (go_at_call 17; refine (HW.out _ HBW.out).mono ?_; rintro e w' ⟨rfl, hb⟩; have BW := Lib.hid hb; clear hb))
    go_ret
    exact ⟨rfl, BW.out⟩
  | false =>
    go_upto_region 3 with (go_at_call 16; refine HL.out.mono ?_; rintro e w' ⟨rfl, hw⟩; rw [hw]; clear hw)
    go_upto_region 4 with (go_at_call 34; refine (H1.out W HBW.out).mono ?_; rintro e X1 ⟨hX1, Aa, ca, rfl, hra⟩)
    have HBX1 := Lib.hid (HBW.out.trans (hX1.mono HBW.out.size))
    have sX1 := HGW.out.below hX1 HGW.out.lt
    have gX10 : X1.cell? ⟨zb, 0, none⟩ = some (.slice R.A1 k.rules.length R.c1) := sX1.cell (j := 0) (by simp)
    have gX11 : X1.cell? ⟨zb, 1, none⟩ = some (.slice R.A2 k.ranks.length R.c2) := sX1.cell (j := 1) (by simp)
    have gX12 : X1.cell? ⟨zb, 2, none⟩ = some (.slice R.A3 k.insured.length R.c3) := sX1.cell (j := 2) (by simp)
    have lX1 := sX1.lt
    have HGX1 := Lib.hid sX1
    have HRa := Lib.hid hra
    clear hX1 hra sX1 gW0 gW1 gW2 lW
    go_upto_region 5 with (go_at_call 35; refine (H2.out X1 HBX1.out).mono ?_; rintro e X2 ⟨hX2, Ab, cb, rfl, hrb⟩)
    have HBX2 := Lib.hid (HBX1.out.trans (hX2.mono HBX1.out.size))
    have sX2 := HGX1.out.below hX2 HGX1.out.lt
    have gX20 : X2.cell? ⟨zb, 0, none⟩ = some (.slice R.A1 k.rules.length R.c1) := sX2.cell (j := 0) (by simp)
    have gX21 : X2.cell? ⟨zb, 1, none⟩ = some (.slice R.A2 k.ranks.length R.c2) := sX2.cell (j := 1) (by simp)
    have gX22 : X2.cell? ⟨zb, 2, none⟩ = some (.slice R.A3 k.insured.length R.c3) := sX2.cell (j := 2) (by simp)
    have lX2 := sX2.lt
    have HGX2 := Lib.hid sX2
    have HRb := Lib.hid hrb
    have HRa_X2 := Lib.hid ((HRa.out.below hX2).more hX2.size)
    clear HRa
    have HRa := HRa_X2
    clear HRa_X2
    clear hX2 hrb sX2 gX10 gX11 gX12 lX1
    have HS := Lib.hid (HSm.out L1 Aa Ab ca cb X2 HN1.out HRa.out HRb.out)
    go_upto_region 7 with (go_at_call 22; refine HS.out.mono ?_; rintro e X3 ⟨rfl, hX3⟩)
    have HBX3 := Lib.hid (HBX2.out.trans (hX3.mono HBX2.out.size))
    have sX3 := HGX2.out.below hX3 HGX2.out.lt
    have gX30 : X3.cell? ⟨zb, 0, none⟩ = some (.slice R.A1 k.rules.length R.c1) := sX3.cell (j := 0) (by simp)
    have gX31 : X3.cell? ⟨zb, 1, none⟩ = some (.slice R.A2 k.ranks.length R.c2) := sX3.cell (j := 1) (by simp)
    have gX32 : X3.cell? ⟨zb, 2, none⟩ = some (.slice R.A3 k.insured.length R.c3) := sX3.cell (j := 2) (by simp)
    have lX3 := sX3.lt
    have HGX3 := Lib.hid sX3
    clear HS hX3 HRa HRb sX3 gX20 gX21 gX22 lX2
    go_upto_region 8 with (go_at_call 36; refine (H3.out X3 HBX3.out).mono ?_; rintro e X4 ⟨ra, rfl, hca, hda, hX4⟩)
    have HBX4 := Lib.hid (HBX3.out.trans (hX4.mono HBX3.out.size))
    have sX4 := HGX3.out.below hX4 HGX3.out.lt
    have gX40 : X4.cell? ⟨zb, 0, none⟩ = some (.slice R.A1 k.rules.length R.c1) := sX4.cell (j := 0) (by simp)
    have gX41 : X4.cell? ⟨zb, 1, none⟩ = some (.slice R.A2 k.ranks.length R.c2) := sX4.cell (j := 1) (by simp)
    have gX42 : X4.cell? ⟨zb, 2, none⟩ = some (.slice R.A3 k.insured.length R.c3) := sX4.cell (j := 2) (by simp)
    have lX4 := sX4.lt
    have HGX4 := Lib.hid sX4
    clear hX4 sX4 gX30 gX31 gX32 lX3
    have HCa := Lib.hid hca
    have HDa := Lib.hid hda
    clear hca hda
    go_upto_region 9 with (go_at_call 37; refine (H4.out X4 HBX4.out).mono ?_; rintro e X5 ⟨rb, rfl, hcb, hdb, hX5⟩)
    have HBX5 := Lib.hid (HBX4.out.trans (hX5.mono HBX4.out.size))
    obtain rfl : ra = rb := by
      by_cases h : E = 0
      · exact chg_one (HCa.out h) (hcb h)
      · rw [HDa.out h, hdb h]
    clear hX5 hcb hdb HCa HDa
    go_wp2_with (go_at_call 17; refine (HW.out _ HBX5.out).mono ?_; rintro e w' ⟨rfl, hb⟩; have BW := Lib.hid hb; clear hb)
    go_ret
    exact ⟨ret_boolI (by simp), BW.out⟩
end Go.Proofs.Ytiajemflnmijfaa
