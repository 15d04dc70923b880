/- Contract of inspect's isOpen. Conditions: a log that reads as data. -/
import Derived.Test.YtaocgkmobfocjaaIne
namespace Go.Proofs.Ytaocgkmobfocjaa
open Go.RowKit

def logV (k : BookZ) (R : BkR) (l : List EntZ) (A : Option Addr) (c : Nat) : Value := .agg #[.slice R.A1 k.rules.length R.c1, .slice R.A2 k.ranks.length R.c2, .slice R.A3 k.insured.length R.c3, .slice A l.length c]
/-- What mends the entry of a number. -/
def mendB (n : Int) (x : EntZ) : Bool := decide (x.kind = 3) && decide (x.a = n)
set_option maxRecDepth 100000 in
theorem mend_any (x : EntZ) (nb : Nat) (n : Int) (w : World) (hc : w.cell? ⟨nb, 0, none⟩ = some (.int .i64 n)) (_hl : nb < w.heap.size) : Calls Try.prog 76 #[entV x, .pointer (some ⟨nb, 0, none⟩)] w fun e w' => e = .returned (.bool (mendB n x)) ∧ Below w.heap.size w w' := by
  have hc2 : (w.alloc (.cells #[.int .i64 x.day, .int .i64 x.kind, .int .i64 x.a, .int .i64 x.b, .int .i64 x.c] 54)).cell? ⟨nb, 0, none⟩ = some (.int .i64 n) := Lib.cell?_alloc_some _ hc
  have HB := Lib.hid ((Below.refl _ w).alloc (Nat.le_refl _) (.cells #[.int .i64 x.day, .int .i64 x.kind, .int .i64 x.a, .int .i64 x.b, .int .i64 x.c] 54))
  unfold entV
  by_cases h1 : x.kind = 3
  · have hv : mendB n x = decide (x.a = n) := by unfold mendB; simp [h1]
    rw [hv]
    rw [h1] at HB hc2
    go_enter Try.func76, Try.ntmps76
    go_wp2_with fail
    go_ret
    exact ⟨ret_boolI (by rw [Bool.eq_iff_iff]; simp), HB.out⟩
  · have hv : mendB n x = false := by unfold mendB; simp [h1]
    rw [hv]
    go_enter Try.func76, Try.ntmps76
    go_wp2_with fail
    go_ret
    exact ⟨rfl, HB.out⟩
/-- Which entries are open. -/
def openS (l : List EntZ) (n : Int) : Bool := inB n 0 ((l.length : Int) - 1) && (decide ((l.getD n.toNat default).kind = 2) && !(lastS (mendB n) l).isSome)
set_option maxRecDepth 100000 in
set_option maxHeartbeats 1000000 in
theorem isOpen_any (k : BookZ) (R : BkR) (l : List EntZ) (A : Option Addr) (c B : Nat) (n : Int) (w : World) (hB : B ≤ w.heap.size) (hl : l.length ≤ maxLen) (hr : Reads w B 5 A l.length (entCells l)) : Calls Try.prog 53 #[logV k R l A c, .int .i64 n] w fun e w' => e = .returned (.bool (openS l n)) ∧ Below w.heap.size w w' := by
  have ew : IntKind.i64.wrap ((l.length : Int) - 1) = (l.length : Int) - 1 := IntWalk.i64_in _ (by unfold maxLen at hl; omega)
  obtain ⟨W, hW⟩ : ∃ W, W = (w.alloc (.cells #[.slice R.A1 k.rules.length R.c1, .slice R.A2 k.ranks.length R.c2, .slice R.A3 k.insured.length R.c3, .slice A l.length c] 66)).alloc (.cells #[.int .i64 n] 3) := ⟨_, rfl⟩
  have bW : Below w.heap.size w W := by subst hW; exact ((Below.refl _ _).alloc (Nat.le_refl _) _).alloc (by simp) _
  have r0 : Row W w.heap.size 66 [.slice R.A1 k.rules.length R.c1, .slice R.A2 k.ranks.length R.c2, .slice R.A3 k.insured.length R.c3, .slice A l.length c] := by subst hW; exact (Row.new w _ _).alloc _
  have r1 : Row W (w.heap.size + 1) 3 [.int .i64 n] := by
    subst hW
    have h := Row.new (w.alloc (.cells #[.slice R.A1 k.rules.length R.c1, .slice R.A2 k.ranks.length R.c2, .slice R.A3 k.insured.length R.c3, .slice A l.length c] 66)) 3 #[.int .i64 n]
    rw [World.size_alloc] at h
    exact h
  have q3 : W.cell? ⟨w.heap.size, 3, none⟩ = some (.slice A l.length c) := r0.cell (j := 3) (by simp)
  have p0 : W.cell? ⟨w.heap.size + 1, 0, none⟩ = some (.int .i64 n) := r1.cell (j := 0) (by simp)
  have lW := r0.lt
  have lP := r1.lt
  obtain ⟨V, hV⟩ : ∃ V, V = W.alloc (.cells #[.int .i64 n] 3) := ⟨_, rfl⟩
  have bV : Below w.heap.size w V := by subst hV; exact bW.alloc bW.size _
  have v0 : Row V w.heap.size 66 [.slice R.A1 k.rules.length R.c1, .slice R.A2 k.ranks.length R.c2, .slice R.A3 k.insured.length R.c3, .slice A l.length c] := by subst hV; exact r0.alloc _
  have v1 : Row V (w.heap.size + 1) 3 [.int .i64 n] := by subst hV; exact r1.alloc _
  have HBV := Lib.hid bV
  have H1 : Hid (∀ (c : Nat), Calls Try.prog 64 #[.int .i64 0, .int .i64 ((l.length : Int) - 1), .slice (some ⟨W.heap.size, 0, none⟩) 1 c] (W.alloc (.cells #[.int .i64 n] 3)) fun e w' => e = .returned (.bool (inB n 0 ((l.length : Int) - 1))) ∧ w' = V) := fun c => by
    rw [hV]
    exact (iall_one _ _ c n 0 _ (Row.new W 3 #[.int .i64 n])).mono fun e w' h => ⟨h.1, h.2.symm⟩
  clear hV
  have HS : Hid (openS l n = (inB n 0 ((l.length : Int) - 1) && (decide ((l.getD n.toNat default).kind = 2) && !(lastS (mendB n) l).isSome))) := rfl
  have HL := Lib.hid (last_any l (mendB n) R.A1 R.A2 R.A3 A k.rules.length k.ranks.length k.insured.length R.c1 R.c2 R.c3 c B 76 #[.pointer (some ⟨w.heap.size + 1, 0, none⟩)] V hl (Nat.le_trans hB bV.size) (hr.below (bV.mono hB)) (fun a X => enters_of Try.func76 (by kernel_rfl) rfl a X)
    (fun x X hX => mend_any x (w.heap.size + 1) n X (by rw [hX.cell (p := ⟨w.heap.size + 1, 0, none⟩) v1.lt]; exact v1.cell (j := 0) (by simp)) (Nat.lt_of_lt_of_le v1.lt hX.size)))
  have hrW := hr.below (bW.mono hB)
  unfold logV
  cases hp : inB n 0 ((l.length : Int) - 1) with
  | false =>
    rw [hp] at H1 HS
    rw [show openS l n = false from HS.out]
    clear hp hr hrW r0 r1 v0 v1 bV bW HL
    go_enter Try.func53, Try.ntmps53
    go_upto_region 1 with fail
    rw [← hW]
    clear hW
    go_wp2_with (go_at_call 64; refine (H1.out _).mono ?_; rintro e w' ⟨rfl, rfl⟩)
    go_ret
    exact ⟨rfl, HBV.out⟩
  | true =>
    rw [hp] at H1 HS
    have hb := inI_le hp
    obtain ⟨i, hi⟩ : ∃ i, i = n.toNat := ⟨_, rfl⟩
    have hn : n = (i : Int) := by omega
    have hil : i < l.length := by omega
    rw [← hi] at HS
    subst hn
    have hg : l.getD i default = l[i] := by simp [List.getD_eq_getElem?_getD, hil]
    rw [hg] at HS
    obtain ⟨b, o, rfl, hbB, x0, x1, x2, x3, x4⟩ := ent_at (hr.below (bV.mono hB)) hil
    have i0 : ¬ (i : Int) < 0 := by omega
    have i1 : (i : Int) < (l.length : Int) := by omega
    have lb : b < V.heap.size := by have := bV.size; omega
    have u0 : V.cell? ⟨w.heap.size, 0, none⟩ = some (.slice R.A1 k.rules.length R.c1) := v0.cell (j := 0) (by simp)
    have u1 : V.cell? ⟨w.heap.size, 1, none⟩ = some (.slice R.A2 k.ranks.length R.c2) := v0.cell (j := 1) (by simp)
    have u2 : V.cell? ⟨w.heap.size, 2, none⟩ = some (.slice R.A3 k.insured.length R.c3) := v0.cell (j := 2) (by simp)
    have u3 : V.cell? ⟨w.heap.size, 3, none⟩ = some (.slice (some ⟨b, o, none⟩) l.length c) := v0.cell (j := 3) (by simp)
    have n0 : V.cell? ⟨w.heap.size + 1, 0, none⟩ = some (.int .i64 (i : Int)) := v1.cell (j := 0) (by simp)
    have lV := v0.lt
    have lV1 := v1.lt
    generalize l[i] = x at x0 x1 x2 x3 x4 HS
    generalize openS l (i : Int) = v at HS ⊢
    by_cases hk2 : x.kind = 2
    · have hs2 : v = !(lastS (mendB (i : Int)) l).isSome := by rw [HS.out, hk2]; rfl
      rw [hk2] at x1
      generalize (lastS (mendB (i : Int)) l).getD default = le at HL
      generalize (lastS (mendB (i : Int)) l).isSome = ls at HL hs2
      have HS2 := Lib.hid hs2
      unfold entV at HL
      clear hp hr hrW r0 r1 v0 v1 bV bW hb hi hg hs2 hk2 x0 x2 x3 x4
      go_enter Try.func53, Try.ntmps53
      go_upto_region 1 with fail
      rw [← hW]
      clear hW
      go_upto_region 3 with (go_at_call 64; refine (H1.out _).mono ?_; rintro e w' ⟨rfl, rfl⟩)
      go_wp2_with (go_at_call 74; refine HL.out.mono ?_; rintro e X ⟨rfl, hX⟩; have HX := Lib.hid (HBV.out.trans (hX.mono HBV.out.size)); clear hX HL)
      go_ret
      exact ⟨ret_boolI (by rw [HS2.out]), HX.out.alloc HX.out.size _⟩
    · have hs2 : v = false := by rw [HS.out]; simp [hk2]
      rw [hs2]
      clear hp hr hrW r0 r1 v0 v1 bV bW hb hi hg hs2 HL x0 x2 x3 x4 HS
      go_enter Try.func53, Try.ntmps53
      go_upto_region 1 with fail
      rw [← hW]
      clear hW
      go_wp2_with (go_at_call 64; refine (H1.out _).mono ?_; rintro e w' ⟨rfl, rfl⟩)
      go_ret
      exact ⟨rfl, HBV.out⟩
end Go.Proofs.Ytaocgkmobfocjaa
