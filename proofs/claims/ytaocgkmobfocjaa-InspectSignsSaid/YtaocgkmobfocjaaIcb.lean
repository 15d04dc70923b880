/- The walk of InspectDays. Conditions: arguments that read as data. -/
import Derived.Test.YtaocgkmobfocjaaIac
import Derived.Test.YtaocgkmobfocjaaInz
namespace Go.Proofs.Ytaocgkmobfocjaa
open Go.RowKit

theorem lsE_len {E : Int} {L : List Int} {n : Nat} (h : E = 0 → L.length ≤ n) : (lsE E L).length ≤ n := by
  unfold lsE
  split
  · next h0 => exact h h0
  · simp
set_option maxRecDepth 100000 in
set_option maxHeartbeats 4000000 in
theorem days_walk {w : World} (k : BookZ) (R : BkR) (hk : BkIn w w.heap.size k R) (l : List EntZ) (A : Option Addr) (c : Nat) (hr : Reads w w.heap.size 5 A l.length (entCells l)) (hl : l.length ≤ maxLen) (hlc : l.length ≤ c) (day : Int) :
    Calls Try.prog 4 #[bookV k R, .slice A l.length c, .int .i64 day] w (TrueI w) := by
  obtain ⟨W, hW⟩ : ∃ W, W = w.alloc (.cells #[.slice R.A1 k.rules.length R.c1, .slice R.A2 k.ranks.length R.c2, .slice R.A3 k.insured.length R.c3] 25) := ⟨_, rfl⟩
  have bW : Below w.heap.size w W := by subst hW; exact (Below.refl _ _).alloc (Nat.le_refl _) _
  have r0 : Row W w.heap.size 25 [.slice R.A1 k.rules.length R.c1, .slice R.A2 k.ranks.length R.c2, .slice R.A3 k.insured.length R.c3] := by subst hW; exact Row.new w _ _
  obtain ⟨zb, hzb⟩ : ∃ z, z = w.heap.size := ⟨_, rfl⟩
  rw [← hzb] at r0
  have gW0 : W.cell? ⟨zb, 0, none⟩ = some (.slice R.A1 k.rules.length R.c1) := r0.cell (j := 0) (by simp)
  have gW1 : W.cell? ⟨zb, 1, none⟩ = some (.slice R.A2 k.ranks.length R.c2) := r0.cell (j := 1) (by simp)
  have gW2 : W.cell? ⟨zb, 2, none⟩ = some (.slice R.A3 k.insured.length R.c3) := r0.cell (j := 2) (by simp)
  have lW := r0.lt
  have HBW := Lib.hid bW
  have HGW := Lib.hid r0
  have HW : Hid (∀ X, Below w.heap.size w X → Calls Try.prog 17 #[] X fun e w' => e = .returned (.bool true) ∧ Below w.heap.size w w') := fun X hX => (works_any X).mono fun e w' h => ⟨h.1, hX.trans (h.2.mono hX.size)⟩
  have HL := Lib.hid (long_any A l.length c W)
  have H1 : Hid (∀ X, Below w.heap.size w X → Calls Try.prog 20 #[bookV k R, .slice A l.length c, .int .i64 day] X (LsTo X (onE k l day) (lsE (onE k l day) (dueS k (upL l day) day)))) := fun X hX => Due_any k R l A c w.heap.size day X hX.size hl hlc (hr.below hX) (hk.below hX)
  have H2 : Hid (∀ X, Below w.heap.size w X → Calls Try.prog 21 #[bookV k R, .slice A l.length c, .int .i64 day] X (LsTo X (onE k l day) (lsE (onE k l day) (dueS k (upL l day) day)))) := fun X hX => rDue_any k R l A c w.heap.size day X hX.size hl hlc (hr.below hX) (hk.below hX)
  have H3 : Hid (∀ X, Below w.heap.size w X → Calls Try.prog 23 #[bookV k R, .slice A l.length c, .int .i64 day] X (LsTo X (onE k l day) (lsE (onE k l day) (openL (upL l day))))) := fun X hX => Open_any k R l A c w.heap.size day X hX.size hl hlc (hr.below hX) (hk.below hX)
  have H4 : Hid (∀ X, Below w.heap.size w X → Calls Try.prog 24 #[bookV k R, .slice A l.length c, .int .i64 day] X (LsTo X (onE k l day) (lsE (onE k l day) (openL (upL l day))))) := fun X hX => rOpen_any k R l A c w.heap.size day X hX.size hl hlc (hr.below hX) (hk.below hX)
  have H5 : Hid (∀ X, Below w.heap.size w X → Calls Try.prog 25 #[bookV k R, .slice A l.length c, .int .i64 day] X (LsTo X (onE k l day) (lsE (onE k l day) (relS k (upL l day) day)))) := fun X hX => Released_any k R l A c w.heap.size day X hX.size hl hlc (hr.below hX) (hk.below hX)
  have H6 : Hid (∀ X, Below w.heap.size w X → Calls Try.prog 26 #[bookV k R, .slice A l.length c, .int .i64 day] X (LsTo X (onE k l day) (lsE (onE k l day) (relS k (upL l day) day)))) := fun X hX => rReleased_any k R l A c w.heap.size day X hX.size hl hlc (hr.below hX) (hk.below hX)
  have n1 : (lsE (onE k l day) (dueS k (upL l day) day)).length ≤ 1000 := lsE_len fun h => Nat.le_trans (numsL_len _ _) (by have := book_lens (onE_ok h).1.book; omega)
  have n2 : (lsE (onE k l day) (openL (upL l day))).length ≤ 1000 := lsE_len fun h => Nat.le_trans (numsL_len _ _) (by have := (onE_ok h).1.len; have := upL_len (l := l) (day := day); omega)
  have n3 : (lsE (onE k l day) (relS k (upL l day) day)).length ≤ 1000 := lsE_len fun h => Nat.le_trans (numsL_len _ _) (by have := book_lens (onE_ok h).1.book; omega)
  generalize lsE (onE k l day) (dueS k (upL l day) day) = L1 at H1 H2 n1
  generalize lsE (onE k l day) (openL (upL l day)) = L2 at H3 H4 n2
  generalize lsE (onE k l day) (relS k (upL l day) day) = L3 at H5 H6 n3
  generalize onE k l day = E at H1 H2 H3 H4 H5 H6
  have HSm : Hid (∀ (L : List Int) (A A' : Option Addr) (c c' : Nat) (X : World), L.length ≤ 1000 → Reads X X.heap.size 1 A L.length (L.map (Value.int .i64)) → Reads X X.heap.size 1 A' L.length (L.map (Value.int .i64)) → Calls Try.prog 22 #[.slice A L.length c, .slice A' L.length c'] X fun e w' => e = .returned (.bool true) ∧ Below X.heap.size X w') := fun L A A' c c' X h h1 h2 => same_eq L A A' c c' X.heap.size X.heap.size X h1 h2 (Nat.le_refl _) (Nat.le_refl _) (by omega)
  generalize (decide (30 < l.length) && decide (l.length ≤ 100)) = lg at HL
  have HN1 := Lib.hid n1
  have HN2 := Lib.hid n2
  have HN3 := Lib.hid n3
  unfold bookV at *
  clear bW r0 hk hr hl hlc n1 n2 n3
  go_enter Try.func4, Try.ntmps4
  go_upto_region 1 with fail
  rw [← hW, ← hzb]
  clear hW hzb
  cases lg with
  | true =>
    go_wp2_with (first | (go_at_call 16; refine HL.out.mono ?_; rintro e w' ⟨rfl, hw⟩; rw [hw]; clear hw) | (go_at_call 17; refine (HW.out _ HBW.out).mono ?_; rintro e w' ⟨rfl, hb⟩; have BW := Lib.hid hb; clear hb))
    go_ret
    exact ⟨rfl, BW.out⟩
  | false =>
    go_upto_region 3 with (go_at_call 16; refine HL.out.mono ?_; rintro e w' ⟨rfl, hw⟩; rw [hw]; clear hw)
    go_upto_region 4 with (go_at_call 20; refine (H1.out W HBW.out).mono ?_; rintro e X1 ⟨hX1, Aa, ca, rfl, hra⟩)
    have HBX1 := Lib.hid (HBW.out.trans (hX1.mono HBW.out.size))
    have sX1 := HGW.out.below hX1 HGW.out.lt
    have gX10 : X1.cell? ⟨zb, 0, none⟩ = some (.slice R.A1 k.rules.length R.c1) := sX1.cell (j := 0) (by simp)
    have gX11 : X1.cell? ⟨zb, 1, none⟩ = some (.slice R.A2 k.ranks.length R.c2) := sX1.cell (j := 1) (by simp)
    have gX12 : X1.cell? ⟨zb, 2, none⟩ = some (.slice R.A3 k.insured.length R.c3) := sX1.cell (j := 2) (by simp)
    have lX1 := sX1.lt
    have HGX1 := Lib.hid sX1
    have HRa := Lib.hid hra
    clear hX1 hra sX1 gW0 gW1 gW2 lW
    go_upto_region 5 with (go_at_call 21; refine (H2.out X1 HBX1.out).mono ?_; rintro e X2 ⟨hX2, Ab, cb, rfl, hrb⟩)
    have HBX2 := Lib.hid (HBX1.out.trans (hX2.mono HBX1.out.size))
    have sX2 := HGX1.out.below hX2 HGX1.out.lt
    have gX20 : X2.cell? ⟨zb, 0, none⟩ = some (.slice R.A1 k.rules.length R.c1) := sX2.cell (j := 0) (by simp)
    have gX21 : X2.cell? ⟨zb, 1, none⟩ = some (.slice R.A2 k.ranks.length R.c2) := sX2.cell (j := 1) (by simp)
    have gX22 : X2.cell? ⟨zb, 2, none⟩ = some (.slice R.A3 k.insured.length R.c3) := sX2.cell (j := 2) (by simp)
    have lX2 := sX2.lt
    have HGX2 := Lib.hid sX2
    have HRb := Lib.hid hrb
    have HRa_X2 := Lib.hid ((HRa.out.below hX2).more hX2.size)
    clear HRa
    have HRa := HRa_X2
    clear HRa_X2
    clear hX2 hrb sX2 gX10 gX11 gX12 lX1
    have HS := Lib.hid (HSm.out L1 Aa Ab ca cb X2 HN1.out HRa.out HRb.out)
    go_upto_region 7 with (go_at_call 22; refine HS.out.mono ?_; rintro e X3 ⟨rfl, hX3⟩)
    have HBX3 := Lib.hid (HBX2.out.trans (hX3.mono HBX2.out.size))
    have sX3 := HGX2.out.below hX3 HGX2.out.lt
    have gX30 : X3.cell? ⟨zb, 0, none⟩ = some (.slice R.A1 k.rules.length R.c1) := sX3.cell (j := 0) (by simp)
    have gX31 : X3.cell? ⟨zb, 1, none⟩ = some (.slice R.A2 k.ranks.length R.c2) := sX3.cell (j := 1) (by simp)
    have gX32 : X3.cell? ⟨zb, 2, none⟩ = some (.slice R.A3 k.insured.length R.c3) := sX3.cell (j := 2) (by simp)
    have lX3 := sX3.lt
    have HGX3 := Lib.hid sX3
    clear HS hX3 HRa HRb sX3 gX20 gX21 gX22 lX2
    go_upto_region 8 with (go_at_call 23; refine (H3.out X3 HBX3.out).mono ?_; rintro e X4 ⟨hX4, Ad, cd, rfl, hrd⟩)
    have HBX4 := Lib.hid (HBX3.out.trans (hX4.mono HBX3.out.size))
    have sX4 := HGX3.out.below hX4 HGX3.out.lt
    have gX40 : X4.cell? ⟨zb, 0, none⟩ = some (.slice R.A1 k.rules.length R.c1) := sX4.cell (j := 0) (by simp)
    have gX41 : X4.cell? ⟨zb, 1, none⟩ = some (.slice R.A2 k.ranks.length R.c2) := sX4.cell (j := 1) (by simp)
    have gX42 : X4.cell? ⟨zb, 2, none⟩ = some (.slice R.A3 k.insured.length R.c3) := sX4.cell (j := 2) (by simp)
    have lX4 := sX4.lt
    have HGX4 := Lib.hid sX4
    have HRd := Lib.hid hrd
    clear hX4 hrd sX4 gX30 gX31 gX32 lX3
    go_upto_region 9 with (go_at_call 24; refine (H4.out X4 HBX4.out).mono ?_; rintro e X5 ⟨hX5, Af, cf, rfl, hrf⟩)
    have HBX5 := Lib.hid (HBX4.out.trans (hX5.mono HBX4.out.size))
    have sX5 := HGX4.out.below hX5 HGX4.out.lt
    have gX50 : X5.cell? ⟨zb, 0, none⟩ = some (.slice R.A1 k.rules.length R.c1) := sX5.cell (j := 0) (by simp)
    have gX51 : X5.cell? ⟨zb, 1, none⟩ = some (.slice R.A2 k.ranks.length R.c2) := sX5.cell (j := 1) (by simp)
    have gX52 : X5.cell? ⟨zb, 2, none⟩ = some (.slice R.A3 k.insured.length R.c3) := sX5.cell (j := 2) (by simp)
    have lX5 := sX5.lt
    have HGX5 := Lib.hid sX5
    have HRf := Lib.hid hrf
    have HRd_X5 := Lib.hid ((HRd.out.below hX5).more hX5.size)
    clear HRd
    have HRd := HRd_X5
    clear HRd_X5
    clear hX5 hrf sX5 gX40 gX41 gX42 lX4
    have HS := Lib.hid (HSm.out L2 Ad Af cd cf X5 HN2.out HRd.out HRf.out)
    go_upto_region 11 with (go_at_call 22; refine HS.out.mono ?_; rintro e X6 ⟨rfl, hX6⟩)
    have HBX6 := Lib.hid (HBX5.out.trans (hX6.mono HBX5.out.size))
    have sX6 := HGX5.out.below hX6 HGX5.out.lt
    have gX60 : X6.cell? ⟨zb, 0, none⟩ = some (.slice R.A1 k.rules.length R.c1) := sX6.cell (j := 0) (by simp)
    have gX61 : X6.cell? ⟨zb, 1, none⟩ = some (.slice R.A2 k.ranks.length R.c2) := sX6.cell (j := 1) (by simp)
    have gX62 : X6.cell? ⟨zb, 2, none⟩ = some (.slice R.A3 k.insured.length R.c3) := sX6.cell (j := 2) (by simp)
    have lX6 := sX6.lt
    have HGX6 := Lib.hid sX6
    clear HS hX6 HRd HRf sX6 gX50 gX51 gX52 lX5
    go_upto_region 12 with (go_at_call 25; refine (H5.out X6 HBX6.out).mono ?_; rintro e X7 ⟨hX7, Ag, cg, rfl, hrg⟩)
    have HBX7 := Lib.hid (HBX6.out.trans (hX7.mono HBX6.out.size))
    have sX7 := HGX6.out.below hX7 HGX6.out.lt
    have gX70 : X7.cell? ⟨zb, 0, none⟩ = some (.slice R.A1 k.rules.length R.c1) := sX7.cell (j := 0) (by simp)
    have gX71 : X7.cell? ⟨zb, 1, none⟩ = some (.slice R.A2 k.ranks.length R.c2) := sX7.cell (j := 1) (by simp)
    have gX72 : X7.cell? ⟨zb, 2, none⟩ = some (.slice R.A3 k.insured.length R.c3) := sX7.cell (j := 2) (by simp)
    have lX7 := sX7.lt
    have HGX7 := Lib.hid sX7
    have HRg := Lib.hid hrg
    clear hX7 hrg sX7 gX60 gX61 gX62 lX6
    go_upto_region 13 with (go_at_call 26; refine (H6.out X7 HBX7.out).mono ?_; rintro e X8 ⟨hX8, Ah, ch, rfl, hrh⟩)
    have HBX8 := Lib.hid (HBX7.out.trans (hX8.mono HBX7.out.size))
    have sX8 := HGX7.out.below hX8 HGX7.out.lt
    have gX80 : X8.cell? ⟨zb, 0, none⟩ = some (.slice R.A1 k.rules.length R.c1) := sX8.cell (j := 0) (by simp)
    have gX81 : X8.cell? ⟨zb, 1, none⟩ = some (.slice R.A2 k.ranks.length R.c2) := sX8.cell (j := 1) (by simp)
    have gX82 : X8.cell? ⟨zb, 2, none⟩ = some (.slice R.A3 k.insured.length R.c3) := sX8.cell (j := 2) (by simp)
    have lX8 := sX8.lt
    have HGX8 := Lib.hid sX8
    have HRh := Lib.hid hrh
    have HRg_X8 := Lib.hid ((HRg.out.below hX8).more hX8.size)
    clear HRg
    have HRg := HRg_X8
    clear HRg_X8
    clear hX8 hrh sX8 gX70 gX71 gX72 lX7
    have HS := Lib.hid (HSm.out L3 Ag Ah cg ch X8 HN3.out HRg.out HRh.out)
    go_wp2_with (first | (go_at_call 22; refine HS.out.mono ?_; rintro e X9 ⟨rfl, hX9⟩; have HBX9 := Lib.hid (HBX8.out.trans (hX9.mono HBX8.out.size)); clear hX9) | (go_at_call 17; refine (HW.out _ HBX9.out).mono ?_; rintro e w' ⟨rfl, hb⟩; have BW := Lib.hid hb; clear hb))
    go_ret
    exact ⟨ret_boolI (by simp), BW.out⟩
end Go.Proofs.Ytaocgkmobfocjaa
