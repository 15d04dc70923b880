/- Contract of inspect's insuredUntil. Conditions: a log that reads as data; a ride. -/
import Derived.Test.YtaocgkmobfocjaaInf
namespace Go.Proofs.Ytaocgkmobfocjaa
open Go.RowKit

/-- What renews the insurance of a ride. -/
def renB (n : Int) (x : EntZ) : Bool := decide (x.kind = 5) && decide (x.a = n)
set_option maxRecDepth 100000 in
theorem ren_any (x : EntZ) (nb : Nat) (n : Int) (w : World) (hc : w.cell? ⟨nb, 0, none⟩ = some (.int .i64 n)) (_hl : nb < w.heap.size) : Calls Try.prog 93 #[entV x, .pointer (some ⟨nb, 0, none⟩)] w fun e w' => e = .returned (.bool (renB n x)) ∧ Below w.heap.size w w' := by
  have hc2 : (w.alloc (.cells #[.int .i64 x.day, .int .i64 x.kind, .int .i64 x.a, .int .i64 x.b, .int .i64 x.c] 54)).cell? ⟨nb, 0, none⟩ = some (.int .i64 n) := Lib.cell?_alloc_some _ hc
  have HB := Lib.hid ((Below.refl _ w).alloc (Nat.le_refl _) (.cells #[.int .i64 x.day, .int .i64 x.kind, .int .i64 x.a, .int .i64 x.b, .int .i64 x.c] 54))
  unfold entV
  by_cases h1 : x.kind = 5
  · have hv : renB n x = decide (x.a = n) := by unfold renB; simp [h1]
    rw [hv]
    rw [h1] at HB hc2
    go_enter Try.func93, Try.ntmps93
    go_wp2_with fail
    go_ret
    exact ⟨ret_boolI (by rw [Bool.eq_iff_iff]; simp), HB.out⟩
  · have hv : renB n x = false := by unfold renB; simp [h1]
    rw [hv]
    go_enter Try.func93, Try.ntmps93
    go_wp2_with fail
    go_ret
    exact ⟨rfl, HB.out⟩
/-- Until when a ride is insured. -/
def insS (k : BookZ) (l : List EntZ) (i : Nat) : Int := if (lastS (renB (i : Int)) l).isSome = false then k.insured.getD i 0 else ((lastS (renB (i : Int)) l).getD default).b
set_option maxRecDepth 100000 in
set_option maxHeartbeats 1000000 in
theorem insured_any (k : BookZ) (R : BkR) (l : List EntZ) (A : Option Addr) (c B i : Nat) (w : World) (hB : B ≤ w.heap.size) (hl : l.length ≤ maxLen) (hr : Reads w B 5 A l.length (entCells l)) (hk : BkIn w B k R) (hi : i < k.insured.length) : Calls Try.prog 81 #[logV k R l A c, .int .i64 (i : Int)] w fun e w' => e = .returned (.int .i64 (insS k l i)) ∧ Below w.heap.size w w' := by
  obtain ⟨W, hW⟩ : ∃ W, W = (w.alloc (.cells #[.slice R.A1 k.rules.length R.c1, .slice R.A2 k.ranks.length R.c2, .slice R.A3 k.insured.length R.c3, .slice A l.length c] 66)).alloc (.cells #[.int .i64 (i : Int)] 3) := ⟨_, rfl⟩
  have bW : Below w.heap.size w W := by subst hW; exact ((Below.refl _ _).alloc (Nat.le_refl _) _).alloc (by simp) _
  have r0 : Row W w.heap.size 66 [.slice R.A1 k.rules.length R.c1, .slice R.A2 k.ranks.length R.c2, .slice R.A3 k.insured.length R.c3, .slice A l.length c] := by subst hW; exact (Row.new w _ _).alloc _
  have r1 : Row W (w.heap.size + 1) 3 [.int .i64 (i : Int)] := by
    subst hW
    have h := Row.new (w.alloc (.cells #[.slice R.A1 k.rules.length R.c1, .slice R.A2 k.ranks.length R.c2, .slice R.A3 k.insured.length R.c3, .slice A l.length c] 66)) 3 #[.int .i64 (i : Int)]
    rw [World.size_alloc] at h
    exact h
  have u0 : W.cell? ⟨w.heap.size, 0, none⟩ = some (.slice R.A1 k.rules.length R.c1) := r0.cell (j := 0) (by simp)
  have u1 : W.cell? ⟨w.heap.size, 1, none⟩ = some (.slice R.A2 k.ranks.length R.c2) := r0.cell (j := 1) (by simp)
  have u2 : W.cell? ⟨w.heap.size, 2, none⟩ = some (.slice R.A3 k.insured.length R.c3) := r0.cell (j := 2) (by simp)
  have u3 : W.cell? ⟨w.heap.size, 3, none⟩ = some (.slice A l.length c) := r0.cell (j := 3) (by simp)
  have lW := r0.lt
  have lP := r1.lt
  have HBW := Lib.hid bW
  have HR0 := Lib.hid r0
  have HR1 := Lib.hid r1
  have HS : Hid (insS k l i = if (lastS (renB (i : Int)) l).isSome = false then k.insured.getD i 0 else ((lastS (renB (i : Int)) l).getD default).b) := rfl
  have HL := Lib.hid (last_any l (renB (i : Int)) R.A1 R.A2 R.A3 A k.rules.length k.ranks.length k.insured.length R.c1 R.c2 R.c3 c B 93 #[.pointer (some ⟨w.heap.size + 1, 0, none⟩)] W hl (Nat.le_trans hB bW.size) (hr.below (bW.mono hB)) (fun a X => enters_of Try.func93 (by kernel_rfl) rfl a X)
    (fun x X hX => ren_any x (w.heap.size + 1) (i : Int) X (by rw [hX.cell (p := ⟨w.heap.size + 1, 0, none⟩) r1.lt]; exact r1.cell (j := 0) (by simp)) (Nat.lt_of_lt_of_le r1.lt hX.size)))
  have HRD : Hid (∀ X, Below w.heap.size w X → ∃ b o, R.A3 = some ⟨b, o, none⟩ ∧ b < X.heap.size ∧ X.cell? ⟨b, o + i, none⟩ = some (.int .i64 (k.insured.getD i 0))) := fun X hX => by
    obtain ⟨b, o, h1, h2, h3⟩ := (hk.insured.below (hX.mono hB)).2 (by omega)
    exact ⟨b, o, h1, by have := hX.size; omega, h3 i _ (by simp [hi])⟩
  generalize insS k l i = v at HS ⊢
  generalize (lastS (renB (i : Int)) l).getD default = le at HL HS
  generalize (lastS (renB (i : Int)) l).isSome = ls at HL HS
  generalize k.insured.getD i 0 = iv at HS HRD
  have i0 : ¬ (i : Int) < 0 := by omega
  have i1 : (i : Int) < (k.insured.length : Int) := by omega
  unfold logV
  unfold entV at HL
  clear hr hk r0 r1 bW
  cases ls with
  | false =>
    rw [show v = iv from HS.out]
    go_enter Try.func81, Try.ntmps81
    go_upto_region 1 with fail
    rw [← hW]
    clear hW
    go_upto_region 2 with (go_at_call 74; refine HL.out.mono ?_; rintro e X ⟨rfl, hX⟩)
    have hbX := hX.alloc hX.size (.cells #[.int .i64 le.day, .int .i64 le.kind, .int .i64 le.a, .int .i64 le.b, .int .i64 le.c] 54)
    generalize X.alloc (.cells #[.int .i64 le.day, .int .i64 le.kind, .int .i64 le.a, .int .i64 le.b, .int .i64 le.c] 54) = Y at hbX ⊢
    have s0 := HR0.out.below hbX HR0.out.lt
    have s1 := HR1.out.below hbX HR1.out.lt
    have y2 : Y.cell? ⟨w.heap.size, 2, none⟩ = some (.slice R.A3 k.insured.length R.c3) := s0.cell (j := 2) (by simp)
    have y0 : Y.cell? ⟨w.heap.size + 1, 0, none⟩ = some (.int .i64 (i : Int)) := s1.cell (j := 0) (by simp)
    have ls0 := s0.lt
    have ls1 := s1.lt
    have HY := Lib.hid (HBW.out.trans (hbX.mono HBW.out.size))
    obtain ⟨b, o, hA, lb, hcc⟩ := HRD.out Y HY.out
    rw [hA] at y2
    clear hX hbX s0 s1 hA HL
    go_wp2_with fail
    go_ret
    exact ⟨rfl, HY.out⟩
  | true =>
    rw [show v = le.b from HS.out]
    go_enter Try.func81, Try.ntmps81
    go_upto_region 1 with fail
    rw [← hW]
    clear hW
    go_wp2_with (go_at_call 74; refine HL.out.mono ?_; rintro e X ⟨rfl, hX⟩; have HX := Lib.hid (HBW.out.trans (hX.mono HBW.out.size)); clear hX HL)
    go_ret
    exact ⟨rfl, HX.out.alloc HX.out.size _⟩
end Go.Proofs.Ytaocgkmobfocjaa
