/- Contract of inspect's isTested. Conditions: a log that reads as data. -/
import Derived.Test.YtaocgkmobfocjaaIng
namespace Go.Proofs.Ytaocgkmobfocjaa
open Go.RowKit

/-- What tests a ride, or ends that. -/
def testB (n : Int) (x : EntZ) : Bool := (decide (x.kind = 4) || decide (x.kind = 6)) && decide (x.a = n)
set_option maxRecDepth 100000 in
theorem test_any (x : EntZ) (nb : Nat) (n : Int) (w : World) (hc : w.cell? ⟨nb, 0, none⟩ = some (.int .i64 n)) (_hl : nb < w.heap.size) : Calls Try.prog 92 #[entV x, .pointer (some ⟨nb, 0, none⟩)] w fun e w' => e = .returned (.bool (testB n x)) ∧ Below w.heap.size w w' := by
  have hc2 : (w.alloc (.cells #[.int .i64 x.day, .int .i64 x.kind, .int .i64 x.a, .int .i64 x.b, .int .i64 x.c] 54)).cell? ⟨nb, 0, none⟩ = some (.int .i64 n) := Lib.cell?_alloc_some _ hc
  have HB := Lib.hid ((Below.refl _ w).alloc (Nat.le_refl _) (.cells #[.int .i64 x.day, .int .i64 x.kind, .int .i64 x.a, .int .i64 x.b, .int .i64 x.c] 54))
  unfold entV
  by_cases h1 : x.kind = 4
  · have hv : testB n x = decide (x.a = n) := by unfold testB; simp [h1]
    rw [hv]
    rw [h1] at HB hc2
    go_enter Try.func92, Try.ntmps92
    go_wp2_with fail
    go_ret
    exact ⟨ret_boolI (by rw [Bool.eq_iff_iff]; simp), HB.out⟩
  · by_cases h2 : x.kind = 6
    · have hv : testB n x = decide (x.a = n) := by unfold testB; simp [h2]
      rw [hv]
      rw [h2] at HB hc2
      go_enter Try.func92, Try.ntmps92
      go_wp2_with fail
      go_ret
      exact ⟨ret_boolI (by rw [Bool.eq_iff_iff]; simp), HB.out⟩
    · have hv : testB n x = false := by unfold testB; simp [h1, h2]
      rw [hv]
      go_enter Try.func92, Try.ntmps92
      go_wp2_with fail
      go_ret
      exact ⟨rfl, HB.out⟩
/-- Which rides were tested on a day. -/
def tstS (l : List EntZ) (n day : Int) : Bool := ((lastS (testB n) l).isSome && decide (((lastS (testB n) l).getD default).kind = 4)) && decide (((lastS (testB n) l).getD default).day = day)
set_option maxRecDepth 100000 in
set_option maxHeartbeats 1000000 in
theorem tested_any (k : BookZ) (R : BkR) (l : List EntZ) (A : Option Addr) (c B : Nat) (n day : Int) (w : World) (hB : B ≤ w.heap.size) (hl : l.length ≤ maxLen) (hr : Reads w B 5 A l.length (entCells l)) : Calls Try.prog 80 #[logV k R l A c, .int .i64 n, .int .i64 day] w fun e w' => e = .returned (.bool (tstS l n day)) ∧ Below w.heap.size w w' := by
  obtain ⟨W, hW⟩ : ∃ W, W = (w.alloc (.cells #[.slice R.A1 k.rules.length R.c1, .slice R.A2 k.ranks.length R.c2, .slice R.A3 k.insured.length R.c3, .slice A l.length c] 66)).alloc (.cells #[.int .i64 n] 3) := ⟨_, rfl⟩
  have bW : Below w.heap.size w W := by subst hW; exact ((Below.refl _ _).alloc (Nat.le_refl _) _).alloc (by simp) _
  have r0 : Row W w.heap.size 66 [.slice R.A1 k.rules.length R.c1, .slice R.A2 k.ranks.length R.c2, .slice R.A3 k.insured.length R.c3, .slice A l.length c] := by subst hW; exact (Row.new w _ _).alloc _
  have r1 : Row W (w.heap.size + 1) 3 [.int .i64 n] := by
    subst hW
    have h := Row.new (w.alloc (.cells #[.slice R.A1 k.rules.length R.c1, .slice R.A2 k.ranks.length R.c2, .slice R.A3 k.insured.length R.c3, .slice A l.length c] 66)) 3 #[.int .i64 n]
    rw [World.size_alloc] at h
    exact h
  have u0 : W.cell? ⟨w.heap.size, 0, none⟩ = some (.slice R.A1 k.rules.length R.c1) := r0.cell (j := 0) (by simp)
  have u1 : W.cell? ⟨w.heap.size, 1, none⟩ = some (.slice R.A2 k.ranks.length R.c2) := r0.cell (j := 1) (by simp)
  have u2 : W.cell? ⟨w.heap.size, 2, none⟩ = some (.slice R.A3 k.insured.length R.c3) := r0.cell (j := 2) (by simp)
  have u3 : W.cell? ⟨w.heap.size, 3, none⟩ = some (.slice A l.length c) := r0.cell (j := 3) (by simp)
  have lW := r0.lt
  have lP := r1.lt
  have HBW := Lib.hid bW
  have HS : Hid (tstS l n day = (((lastS (testB n) l).isSome && decide (((lastS (testB n) l).getD default).kind = 4)) && decide (((lastS (testB n) l).getD default).day = day))) := rfl
  have HL := Lib.hid (last_any l (testB n) R.A1 R.A2 R.A3 A k.rules.length k.ranks.length k.insured.length R.c1 R.c2 R.c3 c B 92 #[.pointer (some ⟨w.heap.size + 1, 0, none⟩)] W hl (Nat.le_trans hB bW.size) (hr.below (bW.mono hB)) (fun a X => enters_of Try.func92 (by kernel_rfl) rfl a X)
    (fun x X hX => test_any x (w.heap.size + 1) n X (by rw [hX.cell (p := ⟨w.heap.size + 1, 0, none⟩) r1.lt]; exact r1.cell (j := 0) (by simp)) (Nat.lt_of_lt_of_le r1.lt hX.size)))
  generalize tstS l n day = v at HS ⊢
  generalize (lastS (testB n) l).getD default = le at HL HS
  generalize (lastS (testB n) l).isSome = ls at HL HS
  obtain ⟨ed, ek, ea, eb, ec⟩ := le
  unfold logV
  unfold entV at HL
  clear hr r0 r1 bW
  cases ls with
  | false =>
    rw [show v = false from HS.out]
    go_enter Try.func80, Try.ntmps80
    go_upto_region 1 with fail
    rw [← hW]
    clear hW
    go_wp2_with (go_at_call 74; refine HL.out.mono ?_; rintro e X ⟨rfl, hX⟩; have HX := Lib.hid (HBW.out.trans (hX.mono HBW.out.size)); clear hX HL)
    go_ret
    exact ⟨rfl, HX.out.alloc HX.out.size _⟩
  | true =>
    by_cases h4 : ek = 4
    · have hv : v = decide (ed = day) := by rw [HS.out]; simp [h4]
      rw [hv]
      clear hv HS
      go_enter Try.func80, Try.ntmps80
      go_upto_region 1 with fail
      rw [← hW]
      clear hW
      go_wp2_with (go_at_call 74; refine HL.out.mono ?_; rintro e X ⟨rfl, hX⟩; have HX := Lib.hid (HBW.out.trans (hX.mono HBW.out.size)); clear hX HL)
      go_ret
      exact ⟨ret_boolI (by rw [Bool.eq_iff_iff]; simp), HX.out.alloc HX.out.size _⟩
    · have hv : v = false := by rw [HS.out]; simp [h4]
      rw [hv]
      clear hv HS
      go_enter Try.func80, Try.ntmps80
      go_upto_region 1 with fail
      rw [← hW]
      clear hW
      go_wp2_with (go_at_call 74; refine HL.out.mono ?_; rintro e X ⟨rfl, hX⟩; have HX := Lib.hid (HBW.out.trans (hX.mono HBW.out.size)); clear hX HL)
      go_ret
      exact ⟨rfl, HX.out.alloc HX.out.size _⟩
end Go.Proofs.Ytaocgkmobfocjaa
