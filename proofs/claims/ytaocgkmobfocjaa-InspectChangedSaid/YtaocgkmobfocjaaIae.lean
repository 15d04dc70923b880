/- Contracts of Seals and Changed, of inspect and of the specification. Conditions: a book and entries that read as data. -/
import Derived.Test.YtaocgkmobfocjaaIad
namespace Go.Proofs.Ytaocgkmobfocjaa
open Go.RowKit

theorem selL_nil : selL [] 0 = [] := rfl
theorem chk_len {k : BookZ} {l : List EntZ} (h : (chkR k l).2 = 0) : l.length ≤ 100 := (chkR_ok.1 h).len
set_option maxRecDepth 100000 in
set_option maxHeartbeats 1000000 in
theorem Seals_any (k : BookZ) (R : BkR) (l : List EntZ) (A : Option Addr) (c B : Nat) (w : World) (hB : B ≤ w.heap.size) (hl : l.length ≤ maxLen) (hlc : l.length ≤ c) (hr : Reads w B 5 A l.length (entCells l)) (hk : BkIn w B k R) :
    Calls Try.prog 34 #[bookV k R, .slice A l.length c] w (LsTo w (chkR k l).2 (lsE (chkR k l).2 (selL l l.length))) := by
  obtain ⟨W, hW⟩ : ∃ W, W = w.alloc (.cells #[.slice R.A1 k.rules.length R.c1, .slice R.A2 k.ranks.length R.c2, .slice R.A3 k.insured.length R.c3] 25) := ⟨_, rfl⟩
  have bW : Below w.heap.size w W := by subst hW; exact (Below.refl _ _).alloc (Nat.le_refl _) _
  have r0 : Row W w.heap.size 25 [.slice R.A1 k.rules.length R.c1, .slice R.A2 k.ranks.length R.c2, .slice R.A3 k.insured.length R.c3] := by subst hW; exact Row.new w _ _
  obtain ⟨zb, hzb⟩ : ∃ z, z = w.heap.size := ⟨_, rfl⟩
  rw [← hzb] at r0
  have q0 : W.cell? ⟨zb, 0, none⟩ = some (.slice R.A1 k.rules.length R.c1) := r0.cell (j := 0) (by simp)
  have q1 : W.cell? ⟨zb, 1, none⟩ = some (.slice R.A2 k.ranks.length R.c2) := r0.cell (j := 1) (by simp)
  have q2 : W.cell? ⟨zb, 2, none⟩ = some (.slice R.A3 k.insured.length R.c3) := r0.cell (j := 2) (by simp)
  have lW := r0.lt
  have HBW := Lib.hid bW
  have HRd := Lib.hid (read_any k R l A c B W (Nat.le_trans hB bW.size) hl hlc (hr.below (bW.mono hB)) (hk.below (bW.mono hB)))
  unfold RdTo at HRd
  have HSe : Hid ((chkR k l).2 = 0 → ∀ X, Below w.heap.size w X → Calls Try.prog 67 #[logV k R l A c] X (NumsTo X (selL l l.length))) := fun h X hX => seals_any k R l A c B X (Nat.le_trans hB hX.size) (by have := chk_len h; omega) (hr.below (hX.mono hB))
  have HSz : Hid (∀ X, Calls Try.prog 67 #[.agg #[.slice none 0 0, .slice none 0 0, .slice none 0 0, .slice none 0 0]] X (NumsTo X [])) := fun X => seals_any ⟨[], [], []⟩ ⟨none, none, none, 0, 0, 0⟩ [] none 0 0 X (Nat.zero_le _) (by decide) ⟨rfl, fun h => absurd h (by simp)⟩
  unfold bookV at *
  clear bW r0 hk hr hB
  by_cases h0 : (chkR k l).2 = 0
  · rw [logE_ok h0, chkR_zero h0] at HRd
    have HS1 := Lib.hid (HSe.out h0)
    have HE0 : Hid ((chkR k l).2 = 0) := h0
    unfold logV at *
    clear h0 HSe HSz
    go_enter Try.func34, Try.ntmps34
    go_upto_region 1 with fail
    rw [← hW, ← hzb]
    clear hW hzb
    go_upto_region 2 with (go_at_call 44; refine HRd.out.mono ?_; rintro e X ⟨rfl, hX⟩)
    have bY := hX.alloc hX.size (.cells #[.slice R.A1 k.rules.length R.c1, .slice R.A2 k.ranks.length R.c2, .slice R.A3 k.insured.length R.c3, .slice A l.length c] 66)
    have gY := Row.new X 66 #[.slice R.A1 k.rules.length R.c1, .slice R.A2 k.ranks.length R.c2, .slice R.A3 k.insured.length R.c3, .slice A l.length c]
    generalize X.alloc (.cells #[.slice R.A1 k.rules.length R.c1, .slice R.A2 k.ranks.length R.c2, .slice R.A3 k.insured.length R.c3, .slice A l.length c] 66) = Y at bY gY ⊢
    generalize X.heap.size = zg at gY ⊢
    have HBY := Lib.hid (HBW.out.trans (bY.mono HBW.out.size))
    have g0 : Y.cell? ⟨zg, 0, none⟩ = some (.slice R.A1 k.rules.length R.c1) := gY.cell (j := 0) (by simp)
    have g1 : Y.cell? ⟨zg, 1, none⟩ = some (.slice R.A2 k.ranks.length R.c2) := gY.cell (j := 1) (by simp)
    have g2 : Y.cell? ⟨zg, 2, none⟩ = some (.slice R.A3 k.insured.length R.c3) := gY.cell (j := 2) (by simp)
    have g3 : Y.cell? ⟨zg, 3, none⟩ = some (.slice A l.length c) := gY.cell (j := 3) (by simp)
    have lG := gY.lt
    have HS2 := Lib.hid (HS1.out Y HBY.out)
    clear hX bY gY HRd HS1
    go_wp2_with (go_at_call 67; refine HS2.out.mono ?_; rintro e Z ⟨hZ, A2, c2, rfl, hr2⟩; have HR2 := Lib.hid hr2; have HZ := Lib.hid (HBY.out.trans (hZ.mono HBY.out.size)); clear hZ hr2)
    refine bodyPost_ret (v := .tuple #[.slice A2 (selL l l.length).length c2, .int .i64 0]) (by simp [results, Try.results34, go_sem]) rfl ?_
    exact LsTo.ok HE0.out HZ.out HR2.out
  · rw [logE_bad h0] at HRd
    have HN : Hid ((chkR k l).2 ≠ 0) := h0
    have HLz : Hid (lsE (chkR k l).2 (selL l l.length) = []) := if_neg h0
    generalize lsE (chkR k l).2 (selL l l.length) = LL at HLz ⊢
    generalize (chkR k l).2 = er at HRd HN ⊢
    generalize (chkR k l).1 = at0 at HRd
    unfold logZ at *
    clear h0 HSe
    go_enter Try.func34, Try.ntmps34
    go_upto_region 1 with fail
    rw [← hW, ← hzb]
    clear hW hzb
    go_upto_region 2 with (go_at_call 44; refine HRd.out.mono ?_; rintro e X ⟨rfl, hX⟩)
    have bY := hX.alloc hX.size (.cells #[.slice none 0 0, .slice none 0 0, .slice none 0 0, .slice none 0 0] 66)
    have gY := Row.new X 66 #[.slice none 0 0, .slice none 0 0, .slice none 0 0, .slice none 0 0]
    generalize X.alloc (.cells #[.slice none 0 0, .slice none 0 0, .slice none 0 0, .slice none 0 0] 66) = Y at bY gY ⊢
    generalize X.heap.size = zg at gY ⊢
    have HBY := Lib.hid (HBW.out.trans (bY.mono HBW.out.size))
    have g0 : Y.cell? ⟨zg, 0, none⟩ = some (.slice none 0 0) := gY.cell (j := 0) (by simp)
    have g1 : Y.cell? ⟨zg, 1, none⟩ = some (.slice none 0 0) := gY.cell (j := 1) (by simp)
    have g2 : Y.cell? ⟨zg, 2, none⟩ = some (.slice none 0 0) := gY.cell (j := 2) (by simp)
    have g3 : Y.cell? ⟨zg, 3, none⟩ = some (.slice none 0 0) := gY.cell (j := 3) (by simp)
    have lG := gY.lt
    have HS2 := Lib.hid (HSz.out Y)
    clear hX bY gY HRd HSz
    go_wp2_with (go_at_call 67; refine HS2.out.mono ?_; rintro e Z ⟨hZ, A2, c2, rfl, hr2⟩; have HR2 := Lib.hid hr2; have HZ := Lib.hid (HBY.out.trans (hZ.mono HBY.out.size)); clear hZ hr2)
    refine bodyPost_ret (v := .tuple #[.slice A2 0 c2, .int .i64 er]) (by simp [results, Try.results34, go_sem]) rfl ?_
    rw [HLz.out]
    exact ⟨HZ.out, A2, c2, rfl, HR2.out⟩
/-- Where the seals differ first, or the error. -/
def ChTo (w : World) (E : Int) (a b : List Int) (e : Ending) (w' : World) : Prop := ∃ r, e = .returned (.tuple #[.int .i64 r, .int .i64 E]) ∧ (E = 0 → ChgIs a b r) ∧ (E ≠ 0 → r = 0) ∧ Below w.heap.size w w'
set_option maxRecDepth 100000 in
set_option maxHeartbeats 1000000 in
theorem Changed_any (k : BookZ) (R : BkR) (l : List EntZ) (A : Option Addr) (c B : Nat) (zs : List Int) (A2 : Option Addr) (c2 : Nat) (w : World) (hB : B ≤ w.heap.size) (hl : l.length ≤ maxLen) (hlc : l.length ≤ c) (hr : Reads w B 5 A l.length (entCells l)) (hk : BkIn w B k R) (hz : zs.length ≤ maxLen) (hrz : Reads w B 1 A2 zs.length (zs.map (Value.int .i64))) :
    Calls Try.prog 36 #[bookV k R, .slice A l.length c, .slice A2 zs.length c2] w (ChTo w (chkR k l).2 (selL l l.length) zs) := by
  obtain ⟨W, hW⟩ : ∃ W, W = w.alloc (.cells #[.slice R.A1 k.rules.length R.c1, .slice R.A2 k.ranks.length R.c2, .slice R.A3 k.insured.length R.c3] 25) := ⟨_, rfl⟩
  have bW : Below w.heap.size w W := by subst hW; exact (Below.refl _ _).alloc (Nat.le_refl _) _
  have r0 : Row W w.heap.size 25 [.slice R.A1 k.rules.length R.c1, .slice R.A2 k.ranks.length R.c2, .slice R.A3 k.insured.length R.c3] := by subst hW; exact Row.new w _ _
  obtain ⟨zb, hzb⟩ : ∃ z, z = w.heap.size := ⟨_, rfl⟩
  rw [← hzb] at r0
  have q0 : W.cell? ⟨zb, 0, none⟩ = some (.slice R.A1 k.rules.length R.c1) := r0.cell (j := 0) (by simp)
  have q1 : W.cell? ⟨zb, 1, none⟩ = some (.slice R.A2 k.ranks.length R.c2) := r0.cell (j := 1) (by simp)
  have q2 : W.cell? ⟨zb, 2, none⟩ = some (.slice R.A3 k.insured.length R.c3) := r0.cell (j := 2) (by simp)
  have lW := r0.lt
  have HBW := Lib.hid bW
  have HRd := Lib.hid (read_any k R l A c B W (Nat.le_trans hB bW.size) hl hlc (hr.below (bW.mono hB)) (hk.below (bW.mono hB)))
  unfold RdTo at HRd
  have HSe : Hid ((chkR k l).2 = 0 → ∀ X, Below w.heap.size w X → Calls Try.prog 68 #[logV k R l A c, .slice A2 zs.length c2] X fun e w' => (∃ r, e = .returned (.int .i64 r) ∧ ChgIs (selL l l.length) zs r) ∧ Below X.heap.size X w') := fun h X hX => changed_any k R l A c B zs A2 c2 X (Nat.le_trans hB hX.size) (by have := chk_len h; omega) (hr.below (hX.mono hB)) hz (hrz.below (hX.mono hB))
  unfold bookV at *
  clear bW r0 hk hr hB hrz
  by_cases h0 : (chkR k l).2 = 0
  · rw [logE_ok h0, chkR_zero h0] at HRd
    have HS1 := Lib.hid (HSe.out h0)
    have HE0 : Hid ((chkR k l).2 = 0) := h0
    unfold logV at *
    clear h0 HSe
    go_enter Try.func36, Try.ntmps36
    go_upto_region 1 with fail
    rw [← hW, ← hzb]
    clear hW hzb
    go_upto_region 2 with (go_at_call 44; refine HRd.out.mono ?_; rintro e X ⟨rfl, hX⟩)
    have bY := hX.alloc hX.size (.cells #[.slice R.A1 k.rules.length R.c1, .slice R.A2 k.ranks.length R.c2, .slice R.A3 k.insured.length R.c3, .slice A l.length c] 66)
    have gY := Row.new X 66 #[.slice R.A1 k.rules.length R.c1, .slice R.A2 k.ranks.length R.c2, .slice R.A3 k.insured.length R.c3, .slice A l.length c]
    generalize X.alloc (.cells #[.slice R.A1 k.rules.length R.c1, .slice R.A2 k.ranks.length R.c2, .slice R.A3 k.insured.length R.c3, .slice A l.length c] 66) = Y at bY gY ⊢
    generalize X.heap.size = zg at gY ⊢
    have HBY := Lib.hid (HBW.out.trans (bY.mono HBW.out.size))
    have g0 : Y.cell? ⟨zg, 0, none⟩ = some (.slice R.A1 k.rules.length R.c1) := gY.cell (j := 0) (by simp)
    have g1 : Y.cell? ⟨zg, 1, none⟩ = some (.slice R.A2 k.ranks.length R.c2) := gY.cell (j := 1) (by simp)
    have g2 : Y.cell? ⟨zg, 2, none⟩ = some (.slice R.A3 k.insured.length R.c3) := gY.cell (j := 2) (by simp)
    have g3 : Y.cell? ⟨zg, 3, none⟩ = some (.slice A l.length c) := gY.cell (j := 3) (by simp)
    have lG := gY.lt
    have HS2 := Lib.hid (HS1.out Y HBY.out)
    clear hX bY gY HRd HS1
    go_wp2_with (go_at_call 68; refine HS2.out.mono ?_; rintro e Z ⟨⟨rr, rfl, hrr⟩, hZ⟩; have HRR := Lib.hid hrr; have HZ := Lib.hid (HBY.out.trans (hZ.mono HBY.out.size)); clear hZ hrr)
    refine bodyPost_ret (v := .tuple #[.int .i64 rr, .int .i64 0]) (by simp [results, Try.results36, go_sem]) rfl ?_
    exact ⟨rr, by rw [HE0.out], fun _ => HRR.out, fun h => absurd HE0.out h, HZ.out⟩
  · have HN : Hid ((chkR k l).2 ≠ 0) := h0
    rw [logE_bad h0] at HRd
    generalize (chkR k l).2 = er at HRd HN h0 ⊢
    generalize (chkR k l).1 = at0 at HRd
    unfold logZ at *
    clear HSe
    go_enter Try.func36, Try.ntmps36
    go_upto_region 1 with fail
    rw [← hW, ← hzb]
    clear hW hzb
    go_wp2_with (go_at_call 44; refine HRd.out.mono ?_; rintro e X ⟨rfl, hX⟩; have HX := Lib.hid (HBW.out.trans (hX.mono HBW.out.size)); clear hX)
    refine bodyPost_ret (v := .tuple #[.int .i64 0, .int .i64 er]) (by simp [results, Try.results36, go_sem]) rfl ?_
    exact ⟨0, rfl, fun h => absurd h HN.out, fun _ => rfl, HX.out.alloc HX.out.size _⟩
set_option maxRecDepth 100000 in
set_option maxHeartbeats 4000000 in
theorem rSeals_any (k : BookZ) (R : BkR) (l : List EntZ) (A : Option Addr) (c B : Nat) (w : World) (hB : B ≤ w.heap.size) (hl : l.length ≤ maxLen) (hlc : l.length ≤ c) (hr : Reads w B 5 A l.length (entCells l)) (hk : BkIn w B k R) :
    Calls Try.prog 35 #[bookV k R, .slice A l.length c] w (LsTo w (chkR k l).2 (lsE (chkR k l).2 (selL l l.length))) := by
  obtain ⟨W, hW⟩ : ∃ W, W = w.alloc (.cells #[.slice R.A1 k.rules.length R.c1, .slice R.A2 k.ranks.length R.c2, .slice R.A3 k.insured.length R.c3] 25) := ⟨_, rfl⟩
  have bW : Below w.heap.size w W := by subst hW; exact (Below.refl _ _).alloc (Nat.le_refl _) _
  have r0 : Row W w.heap.size 25 [.slice R.A1 k.rules.length R.c1, .slice R.A2 k.ranks.length R.c2, .slice R.A3 k.insured.length R.c3] := by subst hW; exact Row.new w _ _
  obtain ⟨zb, hzb⟩ : ∃ z, z = w.heap.size := ⟨_, rfl⟩
  rw [← hzb] at r0
  have q0 : W.cell? ⟨zb, 0, none⟩ = some (.slice R.A1 k.rules.length R.c1) := r0.cell (j := 0) (by simp)
  have q1 : W.cell? ⟨zb, 1, none⟩ = some (.slice R.A2 k.ranks.length R.c2) := r0.cell (j := 1) (by simp)
  have q2 : W.cell? ⟨zb, 2, none⟩ = some (.slice R.A3 k.insured.length R.c3) := r0.cell (j := 2) (by simp)
  have lW := r0.lt
  have HBW := Lib.hid bW
  have HCh := Lib.hid (rCheck_any k R l A c B W (Nat.le_trans hB bW.size) hl hlc (hr.below (bW.mono hB)) (hk.below (bW.mono hB)))
  have HEc := ent_cells hr
  have HBB : Hid (B ≤ w.heap.size) := hB
  have HLen := Lib.hid (fun h => chk_len (k := k) (l := l) h)
  obtain ⟨i0, hi, hz0, hz1, hz2⟩ := info_parts Try.info_intI
  generalize (chkR k l).2 = E at HCh HLen ⊢
  generalize (chkR k l).1 = at0 at HCh
  unfold bookV at *
  clear bW r0 hk hr hB
  by_cases h0 : E = 0
  · have hl100 := HLen.out h0
    have HE0 : Hid (E = 0) := h0
    rw [h0] at HCh
    clear h0
    go_enter Try.func35, Try.ntmps35
    go_upto_region 1 with fail
    rw [← hW, ← hzb]
    clear hW hzb
    go_upto_region 4 with (go_at_call 19; refine HCh.out.mono ?_; rintro e X ⟨rfl, hX⟩)
    have HX := Lib.hid (HBW.out.trans (hX.mono HBW.out.size))
    clear hX HCh q0 q1 q2 lW
    go_wp2_with fail
    go_loopw [8, 9, 10] (fun s v q wr => ∃ n : Nat, n ≤ l.length ∧ q = .int .i64 n ∧ s = .int .i64 (selN l n) ∧ wr.ownsRow X.heap.size 3 1 v (selL l n).length ((selL l n).map (Value.int .i64)) ∧ Below X.heap.size X wr) (fun _ _ q _ => l.length - (intOf q).toNat)
    case atStart => exact ⟨0, Nat.zero_le _, rfl, rfl, owns_nil _ _ _ _, Below.refl _ _⟩
    case round =>
      obtain ⟨n, hn, rfl, rfl, hown, hbel⟩ := hrel
      have HBr := Lib.hid (HX.out.trans (hbel.mono HX.out.size))
      have HBL := Lib.hid hbel
      have HOw := Lib.hid hown
      by_cases hlt : n < l.length
      · have n1 : (n : Int) < (l.length : Int) := by omega
        have n0 : ¬ (n : Int) < 0 := by omega
        have en : IntKind.i64.wrap ((n : Int) + 1) = (n : Int) + 1 := IntWalk.i64_in _ (by omega)
        obtain ⟨b, o, hA, lb, x0, x1, x2, x3, x4⟩ := HEc.out n hlt wr (HBr.out.mono HBB.out) (Nat.le_trans HBB.out HBr.out.size)
        have HSn : Hid (selN l (n + 1) = mixL (selN l n) (fldL (l.getD n default))) := rfl
        rw [ent_getD hlt] at HSn
        have HLn := Lib.hid (selL_succ l n)
        have hl9 : (selL l n).length ≤ 1000 := by rw [selL_len]; omega
        generalize l[n] = x at x0 x1 x2 x3 x4 HSn
        obtain ⟨d, hd⟩ : ∃ d, d = mixL (selN l n) (fldL x) := ⟨_, rfl⟩
        rw [HSn.out, ← hd] at HLn
        rw [← hd] at HSn
        have HD := Lib.hid hd
        clear hd
        generalize selN l n = s0 at HD ⊢
        generalize selL l n = L at hl9 HOw HLn
        have HFl : Hid (fldL x = [x.day, x.kind, wrap64 (x.a + 1), wrap64 (x.b + 1), wrap64 (x.c + 1)]) := rfl
        have ea : IntKind.i64.wrap (x.a + 1) = wrap64 (x.a + 1) := i64w _
        have eb : IntKind.i64.wrap (x.b + 1) = wrap64 (x.b + 1) := i64w _
        have ec : IntKind.i64.wrap (x.c + 1) = wrap64 (x.c + 1) := i64w _
        generalize wrap64 (x.a + 1) = ya at HFl ea
        generalize wrap64 (x.b + 1) = yb at HFl eb
        generalize wrap64 (x.c + 1) = yc at HFl ec
        rw [HFl.out] at HD
        subst hA
        have bY := HBL.out.alloc HBL.out.size (.cells #[.int .i64 x.day, .int .i64 x.kind, .int .i64 x.a, .int .i64 x.b, .int .i64 x.c] 54)
        have rY := Row.new wr 54 #[.int .i64 x.day, .int .i64 x.kind, .int .i64 x.a, .int .i64 x.b, .int .i64 x.c]
        have oY := owns_alloc HOw.out (.cells #[.int .i64 x.day, .int .i64 x.kind, .int .i64 x.a, .int .i64 x.b, .int .i64 x.c] 54)
        clear hown hbel
        go_upto_region 10 with fail
        generalize wr.alloc (.cells #[.int .i64 x.day, .int .i64 x.kind, .int .i64 x.a, .int .i64 x.b, .int .i64 x.c] 54) = Y at bY rY oY ⊢
        generalize wr.heap.size = ze at rY ⊢
        have y0 : Y.cell? ⟨ze, 0, none⟩ = some (.int .i64 x.day) := rY.cell (j := 0) (by simp)
        have y1 : Y.cell? ⟨ze, 1, none⟩ = some (.int .i64 x.kind) := rY.cell (j := 1) (by simp)
        have y2 : Y.cell? ⟨ze, 2, none⟩ = some (.int .i64 x.a) := rY.cell (j := 2) (by simp)
        have y3 : Y.cell? ⟨ze, 3, none⟩ = some (.int .i64 x.b) := rY.cell (j := 3) (by simp)
        have y4 : Y.cell? ⟨ze, 4, none⟩ = some (.int .i64 x.c) := rY.cell (j := 4) (by simp)
        have lY := rY.lt
        have HBY := Lib.hid bY
        have HOY := Lib.hid oY
        clear bY rY oY x0 x1 x2 x3 x4
        go_upto_region 11 with fail
        have bZ := HBY.out.alloc HBY.out.size (.cells #[.int .i64 x.day, .int .i64 x.kind, .int .i64 ya, .int .i64 yb, .int .i64 yc] 3)
        have oZ := owns_alloc HOY.out (.cells #[.int .i64 x.day, .int .i64 x.kind, .int .i64 ya, .int .i64 yb, .int .i64 yc] 3)
        have rZ := Row.new Y 3 #[.int .i64 x.day, .int .i64 x.kind, .int .i64 ya, .int .i64 yb, .int .i64 yc]
        generalize Y.alloc (.cells #[.int .i64 x.day, .int .i64 x.kind, .int .i64 ya, .int .i64 yb, .int .i64 yc] 3) = Z at bZ oZ rZ ⊢
        generalize Y.heap.size = zf at rZ ⊢
        have HBZ := Lib.hid bZ
        have HOZ := Lib.hid oZ
        have HFR : Hid (∀ m (hm : m < [x.day, x.kind, ya, yb, yc].length), Z.cell? ⟨zf, m, none⟩ = some (.int .i64 [x.day, x.kind, ya, yb, yc][m])) := fun m hm => by
          rw [rZ.cell (j := m) (by simpa using hm)]
          simp only [List.length_cons, List.length_nil] at hm
          rcases (show m = 0 ∨ m = 1 ∨ m = 2 ∨ m = 3 ∨ m = 4 by omega) with rfl | rfl | rfl | rfl | rfl <;> rfl
        have lF := rZ.lt
        have h5 : Hid ([x.day, x.kind, ya, yb, yc].length = 5) := rfl
        generalize [x.day, x.kind, ya, yb, yc] = fl at HD HFR h5
        clear y0 y1 y2 y3 y4 lY bZ oZ rZ HFl ea eb ec
        go_wp2_with fail
        go_loopw [8, 13] (fun s q wr => ∃ m : Nat, m ≤ 5 ∧ q = .int .i64 m ∧ s = .int .i64 (mixL s0 (fl.take m)) ∧ wr = Z) (fun _ q _ => 5 - (intOf q).toNat)
        case atStart => exact ⟨0, Nat.zero_le _, rfl, rfl, rfl⟩
        case round =>
          obtain ⟨m, hm, rfl, rfl, rfl⟩ := hrel
          by_cases hl5 : m < 5
          · have m1 : (m : Int) < 5 := by omega
            have m0 : ¬ (m : Int) < 0 := by omega
            have em : IntKind.i64.wrap ((m : Int) + 1) = (m : Int) + 1 := IntWalk.i64_in _ (by omega)
            have z0 := HFR.out m (by rw [h5.out]; exact hl5)
            have HM := Lib.hid (mixL_snoc s0 fl (n := m) (by rw [h5.out]; exact hl5))
            generalize fl[m]'(by rw [h5.out]; exact hl5) = y at z0 HM
            generalize mixL s0 (fl.take m) = t at HM ⊢
            have HS : Hid (mixS t y = (wrap64 (wrap64 (t * 31) + y)).tmod 1000003) := rfl
            have hbd := mixS_bd t y
            generalize mixS t y = d2 at HM HS hbd
            obtain ⟨p, hp⟩ : ∃ p, p = wrap64 (t * 31) := ⟨_, rfl⟩
            rw [← hp] at HS
            obtain ⟨q, hq⟩ : ∃ q, q = wrap64 (p + y) := ⟨_, rfl⟩
            rw [← hq] at HS
            have e1 : IntKind.i64.wrap (t * 31) = p := (i64w _).trans hp.symm
            have e2 : IntKind.i64.wrap (p + y) = q := (i64w _).trans hq.symm
            have e3 : q.tmod 1000003 = d2 := HS.out.symm
            have e4 : IntKind.i64.wrap d2 = d2 := IntWalk.i64_in _ (by omega)
            have e5 : IntKind.i64.wrap (q.tmod 1000003) = d2 := by rw [e3]; exact e4
            clear HS hbd hp hq
            go_wp2_with fail
            go_roundw
            case rel => exact ⟨m + 1, by omega, by go_num, by rw [HM.out], (by first | rfl | trivial)⟩
            case measure => simp [intOf]; omega
          · have em : m = 5 := by omega
            have m1 : ¬ (m : Int) < 5 := by omega
            have HE5 : Hid (mixL s0 (fl.take m) = d) := by show _ = _; rw [em, HD.out, show fl.take 5 = fl from by rw [← h5.out, List.take_length]]
            rw [HE5.out]
            have hws := HBZ.out.size
            have hoz := HOZ.out
            have m1a : L.length + 1 ≤ maxLen := by unfold maxLen; omega
            have m2a : (L.length + 1) * 8 ≤ 140737488355328 := by omega
            clear em HFR
            obtain ⟨V, hV⟩ : ∃ V, V = wr := ⟨_, rfl⟩
            subst hV
            go_wp2_with (at_builtin; refine wpList_app _ rfl _ _ 23 rfl X.heap.size 3 i0 (.int .i64 0) 1 8 Try.underlying23 hi hz0 hz1 hz2 rfl (by decide) u9 L.length (L.map (Value.int .i64)) rfl ?qo (V.heap.size + 1) (some ⟨V.heap.size, 0, none⟩) 1 1 ([d].map (Value.int .i64)) rfl ?qr ?q1 m1a m2a ?qb ?_)
            case qo => first | exact owns_alloc hoz _ | exact owns_alloc (owns_drewN hoz _) _ | exact owns_drewN (owns_alloc hoz _) _
            case qr =>
              refine Row.reads (t := 3) ?_ rfl (by omega)
              show Row _ _ _ [.int .i64 d]
              first | exact row_oneI _ _ _ _ (by simp; done) | exact (row_oneI _ _ _ _ (by simp; done)).drewN _
            case q1 => first | rfl | (intro u hu; simp at hu; subst hu; rfl)
            case qb => first | exact hws | (have := hws; omega) | (have := hws; simp; omega)
            intro v' w1 hown' hbel'
            have HB1 : Hid (Below X.heap.size X w1) := by
              refine Below.trans ?_ hbel'
              repeat (first | (with_reducible exact HBZ.out) | (with_reducible exact hws) | (with_reducible refine below_drewN ?_ _) | (with_reducible refine Below.alloc ?_ ?_ _) | (simp; omega))
            go_wp2_with fail
            go_roundw
            case rel => exact ⟨n + 1, by omega, by go_num, by rw [HSn.out], by rw [HLn.out]; simpa using hown', HB1.out⟩
            case measure => simp [intOf]; omega
      · have en : n = l.length := by omega
        have n1 : ¬ (n : Int) < (l.length : Int) := by omega
        obtain ⟨A2, c2, rfl, hr2⟩ := own_readsI hown
        rw [en] at hr2
        have HEn := Lib.hid en
        have HR2 := Lib.hid hr2
        clear en hlt hr2 hown hbel
        go_wp2_with fail
        refine bodyPost_ret (v := .tuple #[.slice A2 (selL l n).length c2, .int .i64 0]) (by simp [results, Try.results35, go_sem]) rfl ?_
        rw [HEn.out]
        exact LsTo.ok HE0.out HBr.out HR2.out
  · have HN : Hid (E ≠ 0) := h0
    go_enter Try.func35, Try.ntmps35
    go_upto_region 1 with fail
    rw [← hW, ← hzb]
    clear hW hzb
    go_wp2_with (go_at_call 19; refine HCh.out.mono ?_; rintro e X ⟨rfl, hX⟩; have HX := Lib.hid (HBW.out.trans (hX.mono HBW.out.size)); clear hX)
    refine bodyPost_ret (v := .tuple #[.slice none 0 0, .int .i64 E]) (by simp [results, Try.results35, go_sem]) rfl ?_
    exact LsTo.bad HN.out HX.out
set_option maxRecDepth 100000 in
set_option maxHeartbeats 4000000 in
theorem rChanged_any (k : BookZ) (R : BkR) (l : List EntZ) (A : Option Addr) (c B : Nat) (zs : List Int) (A2 : Option Addr) (c2 : Nat) (w : World) (hB : B ≤ w.heap.size) (hl : l.length ≤ maxLen) (hlc : l.length ≤ c) (hr : Reads w B 5 A l.length (entCells l)) (hk : BkIn w B k R) (hz : zs.length ≤ maxLen) (hrz : Reads w B 1 A2 zs.length (zs.map (Value.int .i64))) :
    Calls Try.prog 37 #[bookV k R, .slice A l.length c, .slice A2 zs.length c2] w (ChTo w (chkR k l).2 (selL l l.length) zs) := by
  obtain ⟨W, hW⟩ : ∃ W, W = w.alloc (.cells #[.slice R.A1 k.rules.length R.c1, .slice R.A2 k.ranks.length R.c2, .slice R.A3 k.insured.length R.c3] 25) := ⟨_, rfl⟩
  have bW : Below w.heap.size w W := by subst hW; exact (Below.refl _ _).alloc (Nat.le_refl _) _
  have r0 : Row W w.heap.size 25 [.slice R.A1 k.rules.length R.c1, .slice R.A2 k.ranks.length R.c2, .slice R.A3 k.insured.length R.c3] := by subst hW; exact Row.new w _ _
  obtain ⟨zb, hzb⟩ : ∃ z, z = w.heap.size := ⟨_, rfl⟩
  rw [← hzb] at r0
  have q0 : W.cell? ⟨zb, 0, none⟩ = some (.slice R.A1 k.rules.length R.c1) := r0.cell (j := 0) (by simp)
  have q1 : W.cell? ⟨zb, 1, none⟩ = some (.slice R.A2 k.ranks.length R.c2) := r0.cell (j := 1) (by simp)
  have q2 : W.cell? ⟨zb, 2, none⟩ = some (.slice R.A3 k.insured.length R.c3) := r0.cell (j := 2) (by simp)
  have lW := r0.lt
  have HBW := Lib.hid bW
  have HSe := Lib.hid (rSeals_any k R l A c B W (Nat.le_trans hB bW.size) hl hlc (hr.below (bW.mono hB)) (hk.below (bW.mono hB)))
  have HRz : Hid (∀ X, Below w.heap.size w X → Reads X B 1 A2 zs.length (zs.map (Value.int .i64))) := fun X hX => hrz.below (hX.mono hB)
  have HBB : Hid (B ≤ w.heap.size) := hB
  have hm := selL_len l l.length
  generalize selL l l.length = L at HSe hm ⊢
  have HLm := Lib.hid hm
  generalize (chkR k l).2 = E at HSe ⊢
  unfold maxLen at hz hl
  have hLl : L.length ≤ 2 ^ 63 - 1 := by omega
  unfold bookV at *
  clear bW r0 hk hr hB hrz hm
  by_cases h0 : E = 0
  · have HE0 : Hid (E = 0) := h0
    have e1 : lsE E L = L := if_pos h0
    rw [e1, h0] at HSe
    clear h0 e1
    go_enter Try.func37, Try.ntmps37
    go_upto_region 1 with fail
    rw [← hW, ← hzb]
    clear hW hzb
    go_upto_region 4 with (go_at_call 35; refine HSe.out.mono ?_; rintro e X ⟨hX, A3, c3, rfl, hr3⟩)
    have HX := Lib.hid (HBW.out.trans (hX.mono HBW.out.size))
    have HR3 := Lib.hid hr3
    clear hX hr3 HSe q0 q1 q2 lW
    go_wp2_with fail
    go_loopw [10] (fun q wr => ∃ n : Nat, (n ≤ L.length ∨ n ≤ zs.length) ∧ q = .int .i64 n ∧ Hid (∀ j, j < n → L[j]? = zs[j]?) ∧ Below X.heap.size X wr) (fun q _ => L.length + zs.length - (intOf q).toNat)
    case atStart => exact ⟨0, .inl (Nat.zero_le _), rfl, fun j hj => absurd hj (Nat.not_lt_zero _), Below.refl _ _⟩
    case round =>
      obtain ⟨n, hn, rfl, Hall, hbel⟩ := hrel
      have HBr := Lib.hid (HX.out.trans (hbel.mono HX.out.size))
      have HBl := Lib.hid hbel
      have n0 : ¬ (n : Int) < 0 := by omega
      by_cases hL : n < L.length
      · have nL : (n : Int) < (L.length : Int) := by omega
        have nL2 : ¬ (L.length : Int) ≤ (n : Int) := by omega
        have dL : decide ((n : Int) < (L.length : Int)) = true := decide_eq_true nL
        have dL2 : decide ((L.length : Int) ≤ (n : Int)) = false := decide_eq_false nL2
        have dL3 : decide (L.length ≤ n) = false := decide_eq_false (by omega)
        have dL4 : decide (n < L.length) = true := decide_eq_true hL
        by_cases hZ : n < zs.length
        · have nZ : (n : Int) < (zs.length : Int) := by omega
          have nZ2 : ¬ (zs.length : Int) ≤ (n : Int) := by omega
          have dZ : decide ((n : Int) < (zs.length : Int)) = true := decide_eq_true nZ
          have dZ2 : decide ((zs.length : Int) ≤ (n : Int)) = false := decide_eq_false nZ2
          have dZ3 : decide (zs.length ≤ n) = false := decide_eq_false (by omega)
          have en : IntKind.i64.wrap ((n : Int) + 1) = (n : Int) + 1 := IntWalk.i64_in _ (by omega)
          obtain ⟨b3, o3, rfl, lb3, hc3⟩ := (HR3.out.below hbel).2 (by omega)
          obtain ⟨b2, o2, rfl, lb2, hc2⟩ := (HRz.out wr HBr.out).2 (by omega)
          have x3 := hc3 n _ (show (L.map (Value.int .i64))[n]? = some (.int .i64 L[n]) by rw [List.getElem?_map, List.getElem?_eq_getElem (by omega)]; rfl)
          have x2 := hc2 n _ (show (zs.map (Value.int .i64))[n]? = some (.int .i64 zs[n]) by rw [List.getElem?_map, List.getElem?_eq_getElem (by omega)]; rfl)
          have l3 : b3 < wr.heap.size := Nat.lt_of_lt_of_le lb3 hbel.size
          have l2 : b2 < wr.heap.size := by have := HBr.out.size; have := HBB.out; omega
          have EL : Hid (L[n]? = some L[n]) := List.getElem?_eq_getElem _
          have EZ : Hid (zs[n]? = some zs[n]) := List.getElem?_eq_getElem _
          generalize L[n] = xl at x3 EL
          generalize zs[n] = xz at x2 EZ
          have HnL : Hid (n < L.length) := hL
          clear hc3 hc2 hbel hn lb3 lb2 hL hZ
          by_cases he : xl = xz
          · subst he
            have HA : Hid (∀ j, j < n + 1 → L[j]? = zs[j]?) := fun j hj => by
              rcases Nat.lt_or_ge j n with q | q
              · exact Hall.out j q
              · rw [show j = n by omega, EL.out, EZ.out]
            go_upto_region 7 with fail
            go_quiet (fail)
            go_wp2_with fail
            go_roundw
            case rel => exact ⟨n + 1, .inl (by have := HnL.out; omega), by go_num, HA, below_drewN HBl.out _⟩
            case measure => have := HnL.out; simp [intOf]; omega
          · have HC : Hid (ChgIs L zs (n : Int)) := .inr ⟨n, rfl, Hall.out, by rw [EL.out, EZ.out]; intro h; injection h with h; exact he h⟩
            have d1 : decide (xl = xz) = false := decide_eq_false he
            have d2 : (xl == xz) = false := by simpa using he
            clear EL EZ Hall
            go_upto_region 7 with fail
            go_quiet (fail)
            go_wp2_with fail
            refine bodyPost_ret (v := .tuple #[.int .i64 (n : Int), .int .i64 0]) (by simp [results, Try.results37, go_sem]) rfl ?_
            exact ⟨_, by rw [HE0.out], fun _ => HC.out, fun h => absurd HE0.out h, below_drewN HBr.out _⟩
        · have HC : Hid (ChgIs L zs (n : Int)) := .inr ⟨n, rfl, Hall.out, by rw [List.getElem?_eq_getElem hL, List.getElem?_eq_none (by omega)]; simp⟩
          have dZ2 : decide ((zs.length : Int) ≤ (n : Int)) = true := decide_eq_true (by omega)
          have dZ3 : decide (zs.length ≤ n) = true := decide_eq_true (by omega)
          clear hbel hn hL hZ
          go_upto_region 7 with fail
          go_quiet (fail)
          go_wp2_with fail
          refine bodyPost_ret (v := .tuple #[.int .i64 (n : Int), .int .i64 0]) (by simp [results, Try.results37, go_sem]) rfl ?_
          exact ⟨_, by rw [HE0.out], fun _ => HC.out, fun h => absurd HE0.out h, below_drewN HBr.out _⟩
      · have nL : ¬ (n : Int) < (L.length : Int) := by omega
        have dL : decide ((n : Int) < (L.length : Int)) = false := decide_eq_false nL
        have dL2 : decide ((L.length : Int) ≤ (n : Int)) = true := decide_eq_true (by omega)
        have dL3 : decide (L.length ≤ n) = true := decide_eq_true (by omega)
        have dL4 : decide (n < L.length) = false := decide_eq_false hL
        by_cases hZ : n < zs.length
        · have HC : Hid (ChgIs L zs (n : Int)) := .inr ⟨n, rfl, Hall.out, by rw [List.getElem?_eq_getElem hZ, List.getElem?_eq_none (by omega)]; simp⟩
          have nZ : (n : Int) < (zs.length : Int) := by omega
          have dZ : decide ((n : Int) < (zs.length : Int)) = true := decide_eq_true nZ
          have dZ4 : decide (n < zs.length) = true := decide_eq_true hZ
          clear hbel hn hL hZ
          go_upto_region 7 with fail
          go_quiet (fail)
          go_wp2_with fail
          refine bodyPost_ret (v := .tuple #[.int .i64 (n : Int), .int .i64 0]) (by simp [results, Try.results37, go_sem]) rfl ?_
          exact ⟨_, by rw [HE0.out], fun _ => HC.out, fun h => absurd HE0.out h, below_drewN HBr.out _⟩
        · have HC : Hid (ChgIs L zs (-1)) := .inl ⟨rfl, List.ext_getElem? fun j => by
            rcases Nat.lt_or_ge j n with q | q
            · exact Hall.out j q
            · rw [List.getElem?_eq_none (by omega), List.getElem?_eq_none (by omega)]⟩
          have nZ : ¬ (n : Int) < (zs.length : Int) := by omega
          have dZ : decide ((n : Int) < (zs.length : Int)) = false := decide_eq_false nZ
          have dZ4 : decide (n < zs.length) = false := decide_eq_false hZ
          clear hbel hn hL hZ
          go_wp2_with fail
          refine bodyPost_ret (v := .tuple #[.int .i64 (-1), .int .i64 0]) (by simp [results, Try.results37, go_sem]) rfl ?_
          exact ⟨_, by rw [HE0.out], fun _ => HC.out, fun h => absurd HE0.out h, HBr.out⟩
  · have HN : Hid (E ≠ 0) := h0
    go_enter Try.func37, Try.ntmps37
    go_upto_region 1 with fail
    rw [← hW, ← hzb]
    clear hW hzb
    go_wp2_with (go_at_call 35; refine HSe.out.mono ?_; rintro e X ⟨hX, A3, c3, rfl, -⟩; have HX := Lib.hid (HBW.out.trans (hX.mono HBW.out.size)); clear hX)
    refine bodyPost_ret (v := .tuple #[.int .i64 0, .int .i64 E]) (by simp [results, Try.results37, go_sem]) rfl ?_
    exact ⟨0, rfl, fun h => absurd h HN.out, fun _ => rfl, HX.out⟩
end Go.Proofs.Ytaocgkmobfocjaa
