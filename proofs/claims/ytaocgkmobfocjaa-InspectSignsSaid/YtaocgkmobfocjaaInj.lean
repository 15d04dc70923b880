/- Contract of inspect's inForceUntil. Conditions: a log that reads as data; a rule. -/
import Derived.Test.YtaocgkmobfocjaaIni
namespace Go.Proofs.Ytaocgkmobfocjaa
open Go.RowKit

theorem ruCells_at (l : List RuZ) : ∀ k (h : k < l.length), ∀ j, j < 4 → (ruCells l)[k * 4 + j]? = (ruL l[k])[j]? := by
  induction l with
  | nil => intro k hk; simp at hk
  | cons e l ih =>
    intro k hk j hj
    rw [show ruCells (e :: l) = ruL e ++ ruCells l from rfl]
    cases k with
    | zero =>
      rw [Nat.zero_mul, Nat.zero_add, List.getElem?_append_left (by simpa [ruL] using hj)]
      rfl
    | succ k =>
      rw [List.getElem?_append_right (by simp [ruL]; omega), show (k + 1) * 4 + j - (ruL e).length = k * 4 + j by simp [ruL]; omega]
      exact ih k (by simpa using hk) j hj
/-- The cells of a rule. -/
theorem ru_at {X : World} {B : Nat} {A : Option Addr} {l : List RuZ} (h : Reads X B 4 A l.length (ruCells l)) {k : Nat} (hk : k < l.length) : ∃ b o, A = some ⟨b, o, none⟩ ∧ b < B ∧ X.cell? ⟨b, o + k * 4, none⟩ = some (.int .i64 l[k].ride) ∧ X.cell? ⟨b, o + k * 4 + 1, none⟩ = some (.int .i64 l[k].every) ∧ X.cell? ⟨b, o + k * 4 + 2, none⟩ = some (.int .i64 l[k].rank) ∧ X.cell? ⟨b, o + k * 4 + 3, none⟩ = some (.bool l[k].two) := by
  obtain ⟨b, o, e, hb, hc⟩ := h.2 (by omega)
  have key : ∀ j, j < 4 → ∀ u, (ruL l[k])[j]? = some u → X.cell? ⟨b, o + k * 4 + j, none⟩ = some u := fun j hj u hu => by
    have := hc _ _ ((ruCells_at l k hk j hj).trans hu)
    rw [← Nat.add_assoc] at this
    exact this
  exact ⟨b, o, e, hb, key 0 (by omega) _ rfl, key 1 (by omega) _ rfl, key 2 (by omega) _ rfl, key 3 (by omega) _ rfl⟩
/-- Until when a check is in force. -/
def infS (l : List EntZ) (i : Nat) (u : RuZ) : Int := if (lastS (forceB (i : Int) u.ride) l).isSome = false ∨ ((lastS (forceB (i : Int) u.ride) l).getD default).kind = 6 then -1 else wrap64 (wrap64 (((lastS (forceB (i : Int) u.ride) l).getD default).day + u.every) - 1)
set_option maxRecDepth 100000 in
set_option maxHeartbeats 1000000 in
theorem inForce_any (k : BookZ) (R : BkR) (l : List EntZ) (A : Option Addr) (c B i : Nat) (w : World) (hB : B ≤ w.heap.size) (hl : l.length ≤ maxLen) (hr : Reads w B 5 A l.length (entCells l)) (hk : BkIn w B k R) (hi : i < k.rules.length) : Calls Try.prog 50 #[logV k R l A c, .int .i64 (i : Int)] w fun e w' => e = .returned (.int .i64 (infS l i k.rules[i])) ∧ Below w.heap.size w w' := by
  obtain ⟨W, hW⟩ : ∃ W, W = (w.alloc (.cells #[.slice R.A1 k.rules.length R.c1, .slice R.A2 k.ranks.length R.c2, .slice R.A3 k.insured.length R.c3, .slice A l.length c] 66)).alloc (.cells #[.int .i64 (i : Int)] 3) := ⟨_, rfl⟩
  have bW : Below w.heap.size w W := by subst hW; exact ((Below.refl _ _).alloc (Nat.le_refl _) _).alloc (by simp) _
  have r0 : Row W w.heap.size 66 [.slice R.A1 k.rules.length R.c1, .slice R.A2 k.ranks.length R.c2, .slice R.A3 k.insured.length R.c3, .slice A l.length c] := by subst hW; exact (Row.new w _ _).alloc _
  have r1 : Row W (w.heap.size + 1) 3 [.int .i64 (i : Int)] := by
    subst hW
    have h := Row.new (w.alloc (.cells #[.slice R.A1 k.rules.length R.c1, .slice R.A2 k.ranks.length R.c2, .slice R.A3 k.insured.length R.c3, .slice A l.length c] 66)) 3 #[.int .i64 (i : Int)]
    rw [World.size_alloc] at h
    exact h
  obtain ⟨b, o, hA1, hbB, x0, x1, x2, x3⟩ := ru_at (hk.rules.below (bW.mono hB)) hi
  generalize k.rules[i] = u at x0 x1 x2 x3 ⊢
  obtain ⟨V, hV⟩ : ∃ V, V = W.alloc (.cells #[.int .i64 u.ride, .int .i64 u.every, .int .i64 u.rank, .bool u.two] 59) := ⟨_, rfl⟩
  have bV : Below w.heap.size w V := by subst hV; exact bW.alloc bW.size _
  have v0 : Row V w.heap.size 66 [.slice R.A1 k.rules.length R.c1, .slice R.A2 k.ranks.length R.c2, .slice R.A3 k.insured.length R.c3, .slice A l.length c] := by subst hV; exact r0.alloc _
  have v1 : Row V (w.heap.size + 1) 3 [.int .i64 (i : Int)] := by subst hV; exact r1.alloc _
  have v2 : Row V W.heap.size 59 [.int .i64 u.ride, .int .i64 u.every, .int .i64 u.rank, .bool u.two] := by
    subst hV
    have h := Row.new W 59 #[.int .i64 u.ride, .int .i64 u.every, .int .i64 u.rank, .bool u.two]
    exact h
  have q0 : W.cell? ⟨w.heap.size, 0, none⟩ = some (.slice R.A1 k.rules.length R.c1) := r0.cell (j := 0) (by simp)
  have p0 : W.cell? ⟨w.heap.size + 1, 0, none⟩ = some (.int .i64 (i : Int)) := r1.cell (j := 0) (by simp)
  have u0 : V.cell? ⟨w.heap.size, 0, none⟩ = some (.slice R.A1 k.rules.length R.c1) := v0.cell (j := 0) (by simp)
  have u1 : V.cell? ⟨w.heap.size, 1, none⟩ = some (.slice R.A2 k.ranks.length R.c2) := v0.cell (j := 1) (by simp)
  have u2 : V.cell? ⟨w.heap.size, 2, none⟩ = some (.slice R.A3 k.insured.length R.c3) := v0.cell (j := 2) (by simp)
  have u3 : V.cell? ⟨w.heap.size, 3, none⟩ = some (.slice A l.length c) := v0.cell (j := 3) (by simp)
  have lW := r0.lt
  have lP := r1.lt
  have lV := v0.lt
  have lb : b < W.heap.size := by have := bW.size; omega
  rw [hA1] at q0
  have HBV := Lib.hid bV
  have HR2 := Lib.hid v2
  have HL := Lib.hid (last_any l (forceB (i : Int) u.ride) R.A1 R.A2 R.A3 A k.rules.length k.ranks.length k.insured.length R.c1 R.c2 R.c3 c B 75 #[.pointer (some ⟨w.heap.size + 1, 0, none⟩), .pointer (some ⟨W.heap.size, 0, none⟩)] V hl (Nat.le_trans hB bV.size) (hr.below (bV.mono hB)) (fun a X => enters_of Try.func75 (by kernel_rfl) rfl a X)
    (fun x X hX => force_any x (w.heap.size + 1) W.heap.size (i : Int) u.ride X (by rw [hX.cell (p := ⟨w.heap.size + 1, 0, none⟩) v1.lt]; exact v1.cell (j := 0) (by simp)) (Nat.lt_of_lt_of_le v1.lt hX.size) (by rw [hX.cell (p := ⟨W.heap.size, 0, none⟩) v2.lt]; exact v2.cell (j := 0) (by simp)) (Nat.lt_of_lt_of_le v2.lt hX.size)))
  have HS : Hid (infS l i u = if (lastS (forceB (i : Int) u.ride) l).isSome = false ∨ ((lastS (forceB (i : Int) u.ride) l).getD default).kind = 6 then -1 else wrap64 (wrap64 (((lastS (forceB (i : Int) u.ride) l).getD default).day + u.every) - 1)) := rfl
  generalize infS l i u = v at HS ⊢
  generalize (lastS (forceB (i : Int) u.ride) l).getD default = le at HL HS
  generalize (lastS (forceB (i : Int) u.ride) l).isSome = ls at HL HS
  have i0 : ¬ (i : Int) < 0 := by omega
  have i1 : (i : Int) < (k.rules.length : Int) := by omega
  unfold logV
  unfold entV at HL
  clear hr hk r0 r1 v0 v1 v2 bW bV hA1
  cases ls with
  | false =>
    rw [show v = -1 from HS.out.trans (if_pos (.inl rfl))]
    clear HS
    go_enter Try.func50, Try.ntmps50
    go_upto_region 1 with fail
    rw [← hW]
    clear hW
    go_upto_region 2 with fail
    rw [← hV]
    clear hV
    go_upto_region 3 with (go_at_call 74; refine HL.out.mono ?_; rintro e X ⟨rfl, hX⟩)
    have hbX := hX.alloc hX.size (.cells #[.int .i64 le.day, .int .i64 le.kind, .int .i64 le.a, .int .i64 le.b, .int .i64 le.c] 54)
    have eY := Row.new X 54 #[.int .i64 le.day, .int .i64 le.kind, .int .i64 le.a, .int .i64 le.b, .int .i64 le.c]
    generalize X.alloc (.cells #[.int .i64 le.day, .int .i64 le.kind, .int .i64 le.a, .int .i64 le.b, .int .i64 le.c] 54) = Y at hbX eY ⊢
    generalize X.heap.size = xs at eY ⊢
    have s2 := HR2.out.below hbX HR2.out.lt
    have m1 : Y.cell? ⟨W.heap.size, 1, none⟩ = some (.int .i64 u.every) := s2.cell (j := 1) (by simp)
    have d0 : Y.cell? ⟨xs, 0, none⟩ = some (.int .i64 le.day) := eY.cell (j := 0) (by simp)
    have d1 : Y.cell? ⟨xs, 1, none⟩ = some (.int .i64 le.kind) := eY.cell (j := 1) (by simp)
    have ls2 := s2.lt
    have lsx := eY.lt
    have HY := Lib.hid (HBV.out.trans (hbX.mono HBV.out.size))
    clear hX hbX s2 eY HL
    go_wp2_with fail
    go_ret
    exact ⟨rfl, HY.out⟩
  | true =>
    by_cases h6 : le.kind = 6
    · rw [show v = -1 from HS.out.trans (if_pos (.inr h6))]
      have H6 : Hid (le.kind = 6) := h6
      clear HS h6
      go_enter Try.func50, Try.ntmps50
      go_upto_region 1 with fail
      rw [← hW]
      clear hW
      go_upto_region 2 with fail
      rw [← hV]
      clear hV
      go_upto_region 3 with (go_at_call 74; refine HL.out.mono ?_; rintro e X ⟨rfl, hX⟩)
      have hbX := hX.alloc hX.size (.cells #[.int .i64 le.day, .int .i64 le.kind, .int .i64 le.a, .int .i64 le.b, .int .i64 le.c] 54)
      have eY := Row.new X 54 #[.int .i64 le.day, .int .i64 le.kind, .int .i64 le.a, .int .i64 le.b, .int .i64 le.c]
      generalize X.alloc (.cells #[.int .i64 le.day, .int .i64 le.kind, .int .i64 le.a, .int .i64 le.b, .int .i64 le.c] 54) = Y at hbX eY ⊢
      generalize X.heap.size = xs at eY ⊢
      have s2 := HR2.out.below hbX HR2.out.lt
      have m1 : Y.cell? ⟨W.heap.size, 1, none⟩ = some (.int .i64 u.every) := s2.cell (j := 1) (by simp)
      have d0 : Y.cell? ⟨xs, 0, none⟩ = some (.int .i64 le.day) := eY.cell (j := 0) (by simp)
      have d1 : Y.cell? ⟨xs, 1, none⟩ = some (.int .i64 le.kind) := eY.cell (j := 1) (by simp)
      rw [H6.out] at d1
      have ls2 := s2.lt
      have lsx := eY.lt
      have HY := Lib.hid (HBV.out.trans (hbX.mono HBV.out.size))
      clear hX hbX s2 eY HL
      go_wp2_with fail
      go_ret
      exact ⟨rfl, HY.out⟩
    · rw [show v = _ from HS.out.trans (if_neg (by simp [h6]))]
      clear HS
      go_enter Try.func50, Try.ntmps50
      go_upto_region 1 with fail
      rw [← hW]
      clear hW
      go_upto_region 2 with fail
      rw [← hV]
      clear hV
      go_upto_region 3 with (go_at_call 74; refine HL.out.mono ?_; rintro e X ⟨rfl, hX⟩)
      have hbX := hX.alloc hX.size (.cells #[.int .i64 le.day, .int .i64 le.kind, .int .i64 le.a, .int .i64 le.b, .int .i64 le.c] 54)
      have eY := Row.new X 54 #[.int .i64 le.day, .int .i64 le.kind, .int .i64 le.a, .int .i64 le.b, .int .i64 le.c]
      generalize X.alloc (.cells #[.int .i64 le.day, .int .i64 le.kind, .int .i64 le.a, .int .i64 le.b, .int .i64 le.c] 54) = Y at hbX eY ⊢
      generalize X.heap.size = xs at eY ⊢
      have s2 := HR2.out.below hbX HR2.out.lt
      have m1 : Y.cell? ⟨W.heap.size, 1, none⟩ = some (.int .i64 u.every) := s2.cell (j := 1) (by simp)
      have d0 : Y.cell? ⟨xs, 0, none⟩ = some (.int .i64 le.day) := eY.cell (j := 0) (by simp)
      have d1 : Y.cell? ⟨xs, 1, none⟩ = some (.int .i64 le.kind) := eY.cell (j := 1) (by simp)
      have ls2 := s2.lt
      have lsx := eY.lt
      have HY := Lib.hid (HBV.out.trans (hbX.mono HBV.out.size))
      clear hX hbX s2 eY HL
      go_wp2_with fail
      go_ret
      exact ⟨rfl, HY.out⟩
end Go.Proofs.Ytaocgkmobfocjaa
