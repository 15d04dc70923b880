/- Contracts of inspect's checkedUntil, why and its closure. Conditions: a log that reads as data; a ride. -/
import Derived.Test.YtaocgkmobfocjaaInq
namespace Go.Proofs.Ytaocgkmobfocjaa
open Go.RowKit

set_option maxRecDepth 100000 in
set_option maxHeartbeats 2000000 in
theorem checked_any (k : BookZ) (R : BkR) (l : List EntZ) (A : Option Addr) (c B : Nat) (ride : Int) (w : World) (hB : B ≤ w.heap.size) (hl : l.length ≤ maxLen) (hr : Reads w B 5 A l.length (entCells l)) (hk : BkIn w B k R) :
    Calls Try.prog 78 #[logV k R l A c, .int .i64 ride] w fun e w' => e = .returned (.int .i64 (chkU k l ride k.rules.length)) ∧ Below w.heap.size w w' := by
  obtain ⟨W, hW⟩ : ∃ W, W = w.alloc (.cells #[.slice R.A1 k.rules.length R.c1, .slice R.A2 k.ranks.length R.c2, .slice R.A3 k.insured.length R.c3, .slice A l.length c] 66) := ⟨_, rfl⟩
  have bW : Below w.heap.size w W := by subst hW; exact (Below.refl _ _).alloc (Nat.le_refl _) _
  have gW : Row W w.heap.size 66 [.slice R.A1 k.rules.length R.c1, .slice R.A2 k.ranks.length R.c2, .slice R.A3 k.insured.length R.c3, .slice A l.length c] := by subst hW; exact Row.new w _ _
  obtain ⟨zg, hzg⟩ : ∃ z, z = w.heap.size := ⟨_, rfl⟩
  rw [← hzg] at gW
  have g0 : W.cell? ⟨zg, 0, none⟩ = some (.slice R.A1 k.rules.length R.c1) := gW.cell (j := 0) (by simp)
  have lW := gW.lt
  have HBW := Lib.hid bW
  have HGW := Lib.hid gW
  have HIn : Hid (∀ (i : Nat) (hi : i < k.rules.length) (X : World), Below w.heap.size w X → Calls Try.prog 50 #[logV k R l A c, .int .i64 (i : Int)] X fun e w' => e = .returned (.int .i64 (infS l i k.rules[i])) ∧ Below X.heap.size X w') := fun i hi X hX => inForce_any k R l A c B i X (Nat.le_trans hB hX.size) hl (hr.below (hX.mono hB)) (hk.below (hX.mono hB)) hi
  have HRd : Hid (∀ (i : Nat) (hi : i < k.rules.length) (X : World), Below w.heap.size w X → ∃ b o, R.A1 = some ⟨b, o, none⟩ ∧ b < X.heap.size ∧ X.cell? ⟨b, o + i * 4, none⟩ = some (.int .i64 k.rules[i].ride) ∧ X.cell? ⟨b, o + i * 4 + 1, none⟩ = some (.int .i64 k.rules[i].every) ∧ X.cell? ⟨b, o + i * 4 + 2, none⟩ = some (.int .i64 k.rules[i].rank) ∧ X.cell? ⟨b, o + i * 4 + 3, none⟩ = some (.bool k.rules[i].two)) := fun i hi X hX => by
    obtain ⟨b, o, h1, h2, h3⟩ := ru_at (hk.rules.below (hX.mono hB)) hi
    exact ⟨b, o, h1, by have := hX.size; omega, h3⟩
  have hl1 := hk.l1
  unfold maxLen at hl1
  unfold logV at *
  clear bW gW hr hk hB hl
  go_enter Try.func78, Try.ntmps78
  go_upto_region 1 with fail
  rw [← hW, ← hzg]
  clear hW hzg
  go_wp2_with fail
  go_loopw [5, 12] (fun u i wr => ∃ n : Nat, n ≤ k.rules.length ∧ i = .int .i64 n ∧ u = .int .i64 (chkU k l ride n) ∧ Below W.heap.size W wr) (fun _ i _ => k.rules.length - (intOf i).toNat)
  case atStart => exact ⟨0, Nat.zero_le _, rfl, rfl, Below.refl _ _⟩
  case round =>
    obtain ⟨n, hn, rfl, rfl, hbel⟩ := hrel
    have HBr := Lib.hid (HBW.out.trans (hbel.mono HBW.out.size))
    have HBL := Lib.hid hbel
    by_cases hlt : n < k.rules.length
    · have n1 : (n : Int) < (k.rules.length : Int) := by omega
      have n0 : ¬ (n : Int) < 0 := by omega
      have en : IntKind.i64.wrap ((n : Int) + 1) = (n : Int) + 1 := IntWalk.i64_in _ (by omega)
      obtain ⟨b, o, hA, lb, x0, x1, x2, x3⟩ := HRd.out n hlt wr HBr.out
      have HI := Lib.hid (HIn.out n hlt)
      have HU : Hid (chkU k l ride (n + 1) = if (k.rules.getD n default).ride = ride then min (chkU k l ride n) (infS l n (k.rules.getD n default)) else chkU k l ride n) := rfl
      rw [rules_at hlt] at HU
      generalize k.rules[n] = u at x0 x1 x2 x3 HI HU
      generalize infS l n u = f at HI HU
      generalize chkU k l ride n = cu at HU ⊢
      have hA2 := Lib.hid hA
      rw [hA] at ⊢
      have bY := HBr.out.alloc HBr.out.size (.cells #[.int .i64 u.ride, .int .i64 u.every, .int .i64 u.rank, .bool u.two] 59)
      have bL := HBL.out.alloc HBL.out.size (.cells #[.int .i64 u.ride, .int .i64 u.every, .int .i64 u.rank, .bool u.two] 59)
      have rY := Row.new wr 59 #[.int .i64 u.ride, .int .i64 u.every, .int .i64 u.rank, .bool u.two]
      clear hbel hA
      go_upto_region 5 with fail
      generalize wr.alloc (.cells #[.int .i64 u.ride, .int .i64 u.every, .int .i64 u.rank, .bool u.two] 59) = Y at bY bL rY ⊢
      generalize wr.heap.size = zr at rY ⊢
      have gY := HGW.out.below bL HGW.out.lt
      have y0 : Y.cell? ⟨zr, 0, none⟩ = some (.int .i64 u.ride) := rY.cell (j := 0) (by simp)
      have q0 : Y.cell? ⟨zg, 0, none⟩ = some (.slice R.A1 k.rules.length R.c1) := gY.cell (j := 0) (by simp)
      have q1 : Y.cell? ⟨zg, 1, none⟩ = some (.slice R.A2 k.ranks.length R.c2) := gY.cell (j := 1) (by simp)
      have q2 : Y.cell? ⟨zg, 2, none⟩ = some (.slice R.A3 k.insured.length R.c3) := gY.cell (j := 2) (by simp)
      have q3 : Y.cell? ⟨zg, 3, none⟩ = some (.slice A l.length c) := gY.cell (j := 3) (by simp)
      have lY := rY.lt
      have lG := gY.lt
      have HBY := Lib.hid bY
      have HBLY := Lib.hid bL
      clear rY gY bL bY x0 x1 x2 x3
      by_cases hrd : u.ride = ride
      · have HV : Hid (chkU k l ride (n + 1) = min cu f) := by show _ = _; rw [HU.out, if_pos hrd]
        rw [hrd] at y0
        have HIY := Lib.hid (HI.out Y HBY.out)
        clear HU HI hrd
        go_wp2_with (go_at_call 50; refine HIY.out.mono ?_; rintro e X ⟨rfl, hX⟩; have HX := Lib.hid (HBLY.out.trans (hX.mono HBLY.out.size)); clear hX)
        go_roundw
        case rel => exact ⟨n + 1, by omega, by go_num, by rw [HV.out]; congr 1; omega, HX.out⟩
        case measure => simp [intOf]; omega
      · have HV : Hid (chkU k l ride (n + 1) = cu) := by show _ = _; rw [HU.out, if_neg hrd]
        clear HU HI
        go_wp2_with fail
        go_roundw
        case rel => exact ⟨n + 1, by omega, by go_num, by rw [HV.out], HBLY.out⟩
        case measure => simp [intOf]; omega
    · have en : n = k.rules.length := by omega
      have n1 : ¬ (n : Int) < (k.rules.length : Int) := by omega
      have HE : Hid (chkU k l ride n = chkU k l ride k.rules.length) := by show _ = _; rw [en]
      clear en
      go_wp2_with fail
      go_ret
      exact ⟨ret_intI HE.out, HBr.out⟩
/-- The reasons so far, in the variable that the closure has captured. -/
def WhyI (X : World) (zr : Nat) (L : List Int) : Prop := ∃ v, Row X zr 23 [v] ∧ X.ownsRow (zr + 1) 3 1 v L.length (L.map (Value.int .i64))
theorem WhyI.below {X Y : World} {zr : Nat} {L : List Int} (h : WhyI X zr L) (hb : Below X.heap.size X Y) : WhyI Y zr L := by
  obtain ⟨v, h1, h2⟩ := h
  exact ⟨v, h1.below hb h1.lt, own_below h2 hb⟩
def blL (L : List Int) (r : Int) (b : Bool) : List Int := if b = true then L ++ [r] else L
set_option maxRecDepth 100000 in
set_option maxHeartbeats 1000000 in
theorem blame_any (L : List Int) (hL : L.length ≤ 1000) (r : Int) (b : Bool) (zr : Nat) (X : World) (h : WhyI X zr L) : Calls Try.prog 77 #[.int .i64 r, .bool b, .pointer (some ⟨zr, 0, none⟩)] X fun e w' => e = .returned (.tuple #[]) ∧ WhyI w' zr (blL L r b) ∧ Below zr X w' := by
  obtain ⟨i0, hi, hz0, hz1, hz2⟩ := info_parts Try.info_intI
  obtain ⟨v, h1, h2⟩ := h
  have lz := h1.lt
  cases b with
  | false =>
    have HW : Hid (WhyI X zr (blL L r false)) := ⟨v, h1, h2⟩
    clear h1 h2
    go_enter Try.func77, Try.ntmps77
    go_wp2_with fail
    go_end0
    exact ⟨rfl, HW.out, Below.refl _ _⟩
  | true =>
    obtain ⟨A, c, rfl, _⟩ := own_readsI h2
    have c0 : X.cell? ⟨zr, 0, none⟩ = some (.slice A L.length c) := h1.cell (j := 0) (by simp)
    have m1 : L.length + 1 ≤ maxLen := by unfold maxLen; omega
    have m2 : (L.length + 1) * 8 ≤ 140737488355328 := by omega
    have H1 := Lib.hid h1
    have HL : Hid (zr < X.heap.size) := lz
    clear h1
    go_enter Try.func77, Try.ntmps77
    go_wp2_with (at_builtin; refine wpList_app _ rfl _ _ 23 rfl (zr + 1) 3 i0 (.int .i64 0) 1 8 Try.underlying23 hi hz0 hz1 hz2 rfl (by decide) (.slice A L.length c) L.length (L.map (Value.int .i64)) rfl ?qo (X.heap.size + 1) (some ⟨X.heap.size, 0, none⟩) 1 1 ([r].map (Value.int .i64)) rfl ?qr ?q1 m1 m2 ?qb ?_)
    case qo => first | exact owns_alloc h2 _ | exact owns_alloc (owns_drewN h2 _) _ | exact owns_drewN (owns_alloc h2 _) _
    case qr =>
      refine Row.reads (t := 3) ?_ rfl (by omega)
      show Row _ _ _ [.int .i64 r]
      first | exact row_oneI _ _ _ _ (by simp; done) | exact (row_oneI _ _ _ _ (by simp; done)).drewN _
    case q1 => intro u hu; simp at hu; subst hu; rfl
    case qb => simp; omega
    intro v' w1 hown' hbel'
    have s1 : Row w1 zr 23 [.slice A L.length c] := by
      refine Row.below (B := zr + 1) ?_ hbel' (by omega)
      first | exact H1.out.alloc _ | exact (H1.out.alloc _).drewN _ | exact (H1.out.drewN _).alloc _
    have HB1 : Hid (Below zr X w1) := by
      refine Below.trans ?_ (hbel'.mono (by omega))
      repeat (first | (with_reducible exact Below.refl _ _) | (with_reducible refine below_drewN ?_ _) | (with_reducible refine Below.alloc ?_ ?_ _) | (with_reducible exact Nat.le_of_lt HL.out) | (simp; omega))
    obtain ⟨A', c', rfl, _⟩ := own_readsI hown'
    have d0 : w1.cell? ⟨zr, 0, none⟩ = some (.slice A L.length c) := s1.cell (j := 0) (by simp)
    have f1 := s1.frozen
    have lz1 := s1.lt
    have HR := Lib.hid (s1.set 0 (.slice A' (L.length + 1) c'))
    have HO := Lib.hid hown'
    clear s1 hown' hbel' c0 h2
    go_wp2_with fail
    go_end0
    refine ⟨rfl, ⟨.slice A' (L.length + 1) c', HR.out, ?_⟩, HB1.out.setCell (Nat.le_refl _) _⟩
    have ho := HO.out
    rw [show blL L r true = L ++ [r] from rfl, List.length_append, List.map_append]
    exact own_heap ho fun g hg _ => Below.heap_setCell _ _ _ _ (by show g ≠ zr; omega)
theorem why_bl (k : BookZ) (l : List EntZ) (ride : Nat) (day : Int) : whyS k l ride day = blL (blL (blL (blL [] 1 (decide (chkU k l ride k.rules.length < day))) 2 (dfvS l ride)) 3 (!tstS l ride day)) 4 (decide (insS k l ride < day)) := by
  unfold whyS blL
  by_cases h1 : chkU k l ride k.rules.length < day <;> by_cases h4 : insS k l ride < day <;> cases dfvS l ride <;> cases tstS l ride day <;> simp [h1, h4]
theorem blL_len (L : List Int) (r : Int) (b : Bool) : (blL L r b).length ≤ L.length + 1 := by unfold blL; split <;> simp
set_option maxRecDepth 100000 in
set_option maxHeartbeats 2000000 in
theorem why_any (k : BookZ) (R : BkR) (l : List EntZ) (A : Option Addr) (c B : Nat) (ride : Nat) (day : Int) (w : World) (hB : B ≤ w.heap.size) (hl : l.length ≤ 100) (hr : Reads w B 5 A l.length (entCells l)) (hk : BkIn w B k R) (hi : ride < k.insured.length) :
    Calls Try.prog 56 #[logV k R l A c, .int .i64 (ride : Int), .int .i64 day] w (NumsTo w (whyS k l ride day)) := by
  have hl' : l.length ≤ maxLen := by unfold maxLen; omega
  obtain ⟨W, hW⟩ : ∃ W, W = (w.alloc (.cells #[.slice R.A1 k.rules.length R.c1, .slice R.A2 k.ranks.length R.c2, .slice R.A3 k.insured.length R.c3, .slice A l.length c] 66)).alloc (.cells #[.slice none 0 0] 23) := ⟨_, rfl⟩
  have bW : Below w.heap.size w W := by subst hW; exact ((Below.refl _ _).alloc (Nat.le_refl _) _).alloc (by simp) _
  have gW : Row W w.heap.size 66 [.slice R.A1 k.rules.length R.c1, .slice R.A2 k.ranks.length R.c2, .slice R.A3 k.insured.length R.c3, .slice A l.length c] := by subst hW; exact (Row.new w _ _).alloc _
  have rW : Row W (w.heap.size + 1) 23 [.slice none 0 0] := by
    subst hW
    have h := Row.new (w.alloc (.cells #[.slice R.A1 k.rules.length R.c1, .slice R.A2 k.ranks.length R.c2, .slice R.A3 k.insured.length R.c3, .slice A l.length c] 66)) 23 #[.slice none 0 0]
    rw [World.size_alloc] at h
    exact h
  obtain ⟨zg, hzg⟩ : ∃ z, z = w.heap.size := ⟨_, rfl⟩
  obtain ⟨zr, hzr⟩ : ∃ z, z = w.heap.size + 1 := ⟨_, rfl⟩
  rw [← hzg] at gW
  rw [← hzr] at rW
  have hw0 : WhyI W zr [] := ⟨_, rW, owns_nil _ _ _ _⟩
  have HWr : Hid (w.heap.size ≤ zr) := by show _ ≤ _; omega
  have HGr : Hid (zg < zr) := by show _ < _; omega
  have g0 : W.cell? ⟨zg, 0, none⟩ = some (.slice R.A1 k.rules.length R.c1) := gW.cell (j := 0) (by simp)
  have g1 : W.cell? ⟨zg, 1, none⟩ = some (.slice R.A2 k.ranks.length R.c2) := gW.cell (j := 1) (by simp)
  have g2 : W.cell? ⟨zg, 2, none⟩ = some (.slice R.A3 k.insured.length R.c3) := gW.cell (j := 2) (by simp)
  have g3 : W.cell? ⟨zg, 3, none⟩ = some (.slice A l.length c) := gW.cell (j := 3) (by simp)
  have lW := gW.lt
  have lR := rW.lt
  have HBW := Lib.hid bW
  have HGW := Lib.hid gW
  have H1 : Hid (∀ X, Below w.heap.size w X → Calls Try.prog 78 #[logV k R l A c, .int .i64 (ride : Int)] X fun e w' => e = .returned (.int .i64 (chkU k l ride k.rules.length)) ∧ Below X.heap.size X w') := fun X hX => checked_any k R l A c B ride X (Nat.le_trans hB hX.size) hl' (hr.below (hX.mono hB)) (hk.below (hX.mono hB))
  have H2 : Hid (∀ X, Below w.heap.size w X → Calls Try.prog 79 #[logV k R l A c, .int .i64 (ride : Int)] X fun e w' => e = .returned (.bool (dfvS l ride)) ∧ Below X.heap.size X w') := fun X hX => defective_any k R l A c B ride X (Nat.le_trans hB hX.size) hl (hr.below (hX.mono hB))
  have H3 : Hid (∀ X, Below w.heap.size w X → Calls Try.prog 80 #[logV k R l A c, .int .i64 (ride : Int), .int .i64 day] X fun e w' => e = .returned (.bool (tstS l ride day)) ∧ Below X.heap.size X w') := fun X hX => tested_any k R l A c B ride day X (Nat.le_trans hB hX.size) hl' (hr.below (hX.mono hB))
  have H4 : Hid (∀ X, Below w.heap.size w X → Calls Try.prog 81 #[logV k R l A c, .int .i64 (ride : Int)] X fun e w' => e = .returned (.int .i64 (insS k l ride)) ∧ Below X.heap.size X w') := fun X hX => insured_any k R l A c B ride X (Nat.le_trans hB hX.size) hl' (hr.below (hX.mono hB)) (hk.below (hX.mono hB)) hi
  have HBl : Hid (∀ (L : List Int) (r : Int) (b : Bool) (X : World), L.length ≤ 1000 → WhyI X zr L → Calls Try.prog 77 #[.int .i64 r, .bool b, .pointer (some ⟨zr, 0, none⟩)] X fun e w' => e = .returned (.tuple #[]) ∧ WhyI w' zr (blL L r b) ∧ Below zr X w') := fun L r b X hL h => blame_any L hL r b zr X h
  have HY := Lib.hid (why_bl k l ride day)
  generalize whyS k l ride day = V at HY ⊢
  generalize chkU k l ride k.rules.length = cu at H1 HY
  generalize dfvS l ride = df at H2 HY
  generalize tstS l ride day = ts at H3 HY
  generalize insS k l ride = is at H4 HY
  have HW0 := Lib.hid hw0
  unfold logV at *
  clear bW gW rW hr hk hB hl hl' hw0 hi
  go_enter Try.func56, Try.ntmps56
  go_upto_region 2 with fail
  rw [← hW, ← hzr, ← hzg]
  clear hW hzr hzg
  go_upto_region 4 with (first | (go_at_call 78; refine (H1.out W HBW.out).mono ?_; rintro e C1 ⟨rfl, hC1⟩; have BC1 := Lib.hid (HBW.out.trans (hC1.mono HBW.out.size)); have GC1 := Lib.hid (HGW.out.below hC1 HGW.out.lt); have WC1 := Lib.hid (HW0.out.below hC1); clear hC1) | (go_at_call 77; refine (HBl.out [] 1 (decide (cu < day)) C1 (by simp) WC1.out).mono ?_; rintro e D1 ⟨rfl, hD1, bD1⟩; have BD1 := Lib.hid (BC1.out.trans (bD1.mono HWr.out)); have sD1 := GC1.out.below bD1 HGr.out; have GD1 := Lib.hid sD1; have WD1 := Lib.hid hD1; have lD1 := sD1.lt; have c10 : D1.cell? ⟨zg, 0, none⟩ = some (.slice R.A1 k.rules.length R.c1) := sD1.cell (j := 0) (by simp); have c11 : D1.cell? ⟨zg, 1, none⟩ = some (.slice R.A2 k.ranks.length R.c2) := sD1.cell (j := 1) (by simp); have c12 : D1.cell? ⟨zg, 2, none⟩ = some (.slice R.A3 k.insured.length R.c3) := sD1.cell (j := 2) (by simp); have c13 : D1.cell? ⟨zg, 3, none⟩ = some (.slice A l.length c) := sD1.cell (j := 3) (by simp); clear hD1 bD1 sD1))
  go_upto_region 5 with (first | (go_at_call 79; refine (H2.out D1 BD1.out).mono ?_; rintro e C2 ⟨rfl, hC2⟩; have BC2 := Lib.hid (BD1.out.trans (hC2.mono BD1.out.size)); have GC2 := Lib.hid (GD1.out.below hC2 GD1.out.lt); have WC2 := Lib.hid (WD1.out.below hC2); clear hC2) | (go_at_call 77; refine (HBl.out (blL [] 1 (decide (cu < day))) 2 df C2 (by have q1 := blL_len [] 1 (decide (cu < day)); simp only [List.length_nil] at *; omega) WC2.out).mono ?_; rintro e D2 ⟨rfl, hD2, bD2⟩; have BD2 := Lib.hid (BC2.out.trans (bD2.mono HWr.out)); have sD2 := GC2.out.below bD2 HGr.out; have GD2 := Lib.hid sD2; have WD2 := Lib.hid hD2; have lD2 := sD2.lt; have c20 : D2.cell? ⟨zg, 0, none⟩ = some (.slice R.A1 k.rules.length R.c1) := sD2.cell (j := 0) (by simp); have c21 : D2.cell? ⟨zg, 1, none⟩ = some (.slice R.A2 k.ranks.length R.c2) := sD2.cell (j := 1) (by simp); have c22 : D2.cell? ⟨zg, 2, none⟩ = some (.slice R.A3 k.insured.length R.c3) := sD2.cell (j := 2) (by simp); have c23 : D2.cell? ⟨zg, 3, none⟩ = some (.slice A l.length c) := sD2.cell (j := 3) (by simp); clear hD2 bD2 sD2))
  go_upto_region 6 with (first | (go_at_call 80; refine (H3.out D2 BD2.out).mono ?_; rintro e C3 ⟨rfl, hC3⟩; have BC3 := Lib.hid (BD2.out.trans (hC3.mono BD2.out.size)); have GC3 := Lib.hid (GD2.out.below hC3 GD2.out.lt); have WC3 := Lib.hid (WD2.out.below hC3); clear hC3) | (go_at_call 77; refine (HBl.out (blL (blL [] 1 (decide (cu < day))) 2 df) 3 (!ts) C3 (by have q1 := blL_len [] 1 (decide (cu < day)); have q2 := blL_len (blL [] 1 (decide (cu < day))) 2 df; simp only [List.length_nil] at *; omega) WC3.out).mono ?_; rintro e D3 ⟨rfl, hD3, bD3⟩; have BD3 := Lib.hid (BC3.out.trans (bD3.mono HWr.out)); have sD3 := GC3.out.below bD3 HGr.out; have GD3 := Lib.hid sD3; have WD3 := Lib.hid hD3; have lD3 := sD3.lt; have c30 : D3.cell? ⟨zg, 0, none⟩ = some (.slice R.A1 k.rules.length R.c1) := sD3.cell (j := 0) (by simp); have c31 : D3.cell? ⟨zg, 1, none⟩ = some (.slice R.A2 k.ranks.length R.c2) := sD3.cell (j := 1) (by simp); have c32 : D3.cell? ⟨zg, 2, none⟩ = some (.slice R.A3 k.insured.length R.c3) := sD3.cell (j := 2) (by simp); have c33 : D3.cell? ⟨zg, 3, none⟩ = some (.slice A l.length c) := sD3.cell (j := 3) (by simp); clear hD3 bD3 sD3))
  go_upto_region 7 with (first | (go_at_call 81; refine (H4.out D3 BD3.out).mono ?_; rintro e C4 ⟨rfl, hC4⟩; have BC4 := Lib.hid (BD3.out.trans (hC4.mono BD3.out.size)); have GC4 := Lib.hid (GD3.out.below hC4 GD3.out.lt); have WC4 := Lib.hid (WD3.out.below hC4); clear hC4) | (go_at_call 77; refine (HBl.out (blL (blL (blL [] 1 (decide (cu < day))) 2 df) 3 (!ts)) 4 (decide (is < day)) C4 (by have q1 := blL_len [] 1 (decide (cu < day)); have q2 := blL_len (blL [] 1 (decide (cu < day))) 2 df; have q3 := blL_len (blL (blL [] 1 (decide (cu < day))) 2 df) 3 (!ts); simp only [List.length_nil] at *; omega) WC4.out).mono ?_; rintro e D4 ⟨rfl, hD4, bD4⟩; have BD4 := Lib.hid (BC4.out.trans (bD4.mono HWr.out)); have sD4 := GC4.out.below bD4 HGr.out; have GD4 := Lib.hid sD4; have WD4 := Lib.hid hD4; have lD4 := sD4.lt; have c40 : D4.cell? ⟨zg, 0, none⟩ = some (.slice R.A1 k.rules.length R.c1) := sD4.cell (j := 0) (by simp); have c41 : D4.cell? ⟨zg, 1, none⟩ = some (.slice R.A2 k.ranks.length R.c2) := sD4.cell (j := 1) (by simp); have c42 : D4.cell? ⟨zg, 2, none⟩ = some (.slice R.A3 k.insured.length R.c3) := sD4.cell (j := 2) (by simp); have c43 : D4.cell? ⟨zg, 3, none⟩ = some (.slice A l.length c) := sD4.cell (j := 3) (by simp); clear hD4 bD4 sD4))
  obtain ⟨v, hv1, hv2⟩ := WD4.out
  obtain ⟨Av, cv, rfl, hrv⟩ := own_readsI hv2
  have k0 : D4.cell? ⟨zr, 0, none⟩ = some (.slice Av (blL (blL (blL (blL [] 1 (decide (cu < day))) 2 df) 3 (!ts)) 4 (decide (is < day))).length cv) := hv1.cell (j := 0) (by simp)
  have lk := hv1.lt
  rw [← HY.out] at k0 hrv
  have HRV := Lib.hid hrv
  clear hv1 hv2 hrv
  go_wp2_with fail
  go_ret
  exact ⟨BD4.out, Av, cv, rfl, HRV.out⟩
end Go.Proofs.Ytaocgkmobfocjaa
