/- Contracts of the library's Clone at numbers, of takings' validBalances, validPayment and behind. Conditions: numbers and payments that read as data. -/
import Derived.Test.YtdechfjlbdbbnaaTma
import Derived.Test.YtdechfjlbdbbnaaTks
import Derived.BigRegion
import Derived.Lib.SliceRun
namespace Go.Proofs.Ytdechfjlbdbbnaa
open Go.RowKit Go.Shelf

theorem py_at {X : World} {B : Nat} {A : Option Addr} {l : List PyZ} (h : Reads X B 3 A l.length (pyCells l)) : 0 < l.length → ∃ b o, A = some ⟨b, o, none⟩ ∧ b < B ∧ ∀ k, k < l.length → X.cell? ⟨b, o + k * 3, none⟩ = some (.int .i64 (pyAt l k).frm) ∧ X.cell? ⟨b, o + k * 3 + 1, none⟩ = some (.int .i64 (pyAt l k).dst) ∧ X.cell? ⟨b, o + k * 3 + 2, none⟩ = some (.int .i64 (pyAt l k).cents) := by
  intro hn
  obtain ⟨b, o, e, hb, hc⟩ := h.2 hn
  refine ⟨b, o, e, hb, fun k hk => ?_⟩
  have key : ∀ j, j < 3 → ∀ u, (pyL l[k])[j]? = some u → X.cell? ⟨b, o + k * 3 + j, none⟩ = some u := fun j hj u hu => by
    have := hc _ _ ((pyCells_at l k hk j hj).trans hu)
    rw [← Nat.add_assoc] at this
    exact this
  have e2 : pyAt l k = l[k] := by unfold pyAt; rw [List.getElem?_eq_getElem hk]; rfl
  rw [e2]
  exact ⟨key 0 (by omega) _ rfl, key 1 (by omega) _ rfl, key 2 (by omega) _ rfl⟩
set_option maxHeartbeats 1000000 in
set_option maxRecDepth 100000 in
theorem Clone_int (l : List Int) (A : Option Addr) (ca B : Nat) (w : World) (hB : B ≤ w.heap.size) (hr : Reads w B 1 A l.length (l.map (Value.int .i64))) (h0 : 0 < l.length) (hn : l.length ≤ 100) :
    Calls Try.prog 72 #[.slice A l.length ca] w fun e w' => ∃ g c', e = .returned (.slice (some ⟨g, 0, none⟩) l.length c') ∧ w.heap.size ≤ g ∧ Row w' g 3 (l.map (Value.int .i64)) ∧ Below w.heap.size w w' := by
  obtain ⟨i0, hi, hz0, hz1, hz2⟩ := info_parts Try.info_intT
  obtain ⟨b, o, rfl, hb, _⟩ := hr.at1 h0
  have hrd := Lib.hid hr
  have hbe : Below w.heap.size w (w.alloc (.cells #[] 3)) := (Below.refl _ _).alloc (Nat.le_refl _) _
  have hrd2 := Lib.hid (hr.below (hbe.mono hB))
  have Hbe := Lib.hid hbe
  have m1 : 0 + l.length ≤ maxLen := by unfold maxLen; omega
  have m2 : (0 + l.length) * 8 ≤ 140737488355328 := by omega
  have q22 : ∀ (w : World) (a : Option Addr) (n c n' c' : Nat), (binOp .eql 22 (.slice a n c) (.slice none n' c')).run Try.prog w = .ok (.bool a.isNone) w := fun w a n c n' c' => Lib.run_eql_slice_nil w _ _ a n c n' c' Try.underlying22
  clear hr hbe
  go_enter Try.func72, Try.ntmps72
  go_wp2_with (at_builtin; refine wpList_app _ rfl _ _ 22 rfl w.heap.size 3 i0 (.int .i64 0) 1 8 Try.underlying22 hi hz0 hz1 hz2 rfl (by decide) (.slice (some ⟨w.heap.size, 0, none⟩) 0 0) 0 [] rfl ?qo B (some ⟨b, o, none⟩) l.length ca (l.map (Value.int .i64)) rfl ?qr ?q1 m1 m2 ?qb ?_)
  case qo => exact ⟨rfl, .inr ⟨w.heap.size, 0, #[], rfl, Nat.le_refl _, heap_alloc_new _ _, Nat.le_refl _, Nat.zero_le _, rfl, rfl⟩⟩
  case qr => exact hrd2.out
  case q1 => intro u hu; simp at hu; obtain ⟨z, _, rfl⟩ := hu; rfl
  case qb => simp
  intro v' w1 hown' hbel'
  have hB2 := Lib.hid (Hbe.out.trans hbel')
  obtain ⟨g, cap, hv, hg, hlt⟩ := World.ownsRow.form hown' h0
  subst hv
  have hro := Lib.hid (Row.of_own hown').1
  have hgg := Lib.hid hg
  clear hown' hbel' hg hlt
  go_wp2_with fail
  go_ret
  exact ⟨g, cap, rfl, hgg.out, by simpa using hro.out, hB2.out⟩
set_option maxHeartbeats 1000000 in
set_option maxRecDepth 100000 in
theorem validBalances_any (l : List Int) (A : Option Addr) (ca B : Nat) (w : World) (hB : B ≤ w.heap.size) (hr : Reads w B 1 A l.length (l.map (Value.int .i64))) (hn : l.length ≤ maxLen) :
    Calls Try.prog 53 #[.slice A l.length ca] w fun e w' => e = .returned (.bool (balB l)) ∧ Below w.heap.size w w' := by
  have hr' := hr.alloc hB (.cells #[.int .i64 (l.length : Int)] 3)
  have H1 : Hid (∀ c, Calls Try.prog 49 #[.int .i64 1, .int .i64 10, .slice (some ⟨w.heap.size, 0, none⟩) 1 c] (w.alloc (.cells #[.int .i64 (l.length : Int)] 3)) fun e w' => e = .returned (.bool (inB l.length 1 10)) ∧ w.alloc (.cells #[.int .i64 (l.length : Int)] 3) = w') := fun c => tall_new w c _ 1 10
  have H2 := Lib.hid (tall_any l A l.length ca B (-10000000000) 10000000000 _ hr' hn)
  have HB := Lib.hid ((Below.refl w.heap.size w).alloc (Nat.le_refl _) (.cells #[.int .i64 (l.length : Int)] 3))
  have HV : Hid (balB l = (inB l.length 1 10 && allB l (-10000000000) 10000000000)) := rfl
  clear hr hr' hn
  go_enter Try.func53, Try.ntmps53
  cases h1 : inB (l.length : Int) 1 10 with
  | false =>
    rw [h1] at H1 HV
    go_wp2_with (go_at_call 49; refine (H1.out _).mono ?_; rintro e w' ⟨rfl, rfl⟩)
    go_ret
    exact ⟨ret_boolT (by rw [HV.out]; rfl), HB.out⟩
  | true =>
    rw [h1] at H1 HV
    go_wp2_with (go_at_call 49; (first | with_reducible refine (H1.out _).mono ?_ | refine H2.out.mono ?_); rintro e w' ⟨rfl, rfl⟩)
    go_ret
    exact ⟨ret_boolT (by rw [HV.out]; rfl), HB.out⟩
def pyV (p : PyZ) : Value := .agg #[.int .i64 p.frm, .int .i64 p.dst, .int .i64 p.cents]
theorem tall_two (X : World) (c : Nat) (x y lo hi : Int) : Calls Try.prog 49 #[.int .i64 lo, .int .i64 hi, .slice (some ⟨X.heap.size, 0, none⟩) 2 c] (X.alloc (.cells #[.int .i64 x, .int .i64 y] 3)) fun e w' => e = .returned (.bool (allB [x, y] lo hi)) ∧ X.alloc (.cells #[.int .i64 x, .int .i64 y] 3) = w' :=
  tall_any [x, y] (some ⟨X.heap.size, 0, none⟩) 2 c (X.heap.size + 1) lo hi _ ((Row.new X 3 #[.int .i64 x, .int .i64 y]).reads (n := 2) (size := 1) rfl (by omega)) (by decide)
set_option maxHeartbeats 1000000 in
set_option maxRecDepth 100000 in
theorem validPayment_any (n : Nat) (hn : n ≤ 10) (p : PyZ) (w : World) :
    Calls Try.prog 54 #[.int .i64 (n : Int), pyV p] w fun e w' => e = .returned (.bool (pyB n p)) ∧ Below w.heap.size w w' := by
  obtain ⟨f, t, c⟩ := p
  have HV : Hid (pyB n ⟨f, t, c⟩ = (allB [f, t] 0 ((n : Int) - 1) && !decide (f = t) && inB c 1 100000000000)) := rfl
  have ew : IntKind.i64.wrap ((n : Int) - 1) = (n : Int) - 1 := IntWalk.i64_in _ (by omega)
  obtain ⟨W, hW⟩ : ∃ W, W = w.alloc (.cells #[.int .i64 f, .int .i64 t, .int .i64 c] 72) := ⟨_, rfl⟩
  have bW : Below w.heap.size w W := by rw [hW]; exact (Below.refl _ _).alloc (Nat.le_refl _) _
  have rW : Row W w.heap.size 72 [.int .i64 f, .int .i64 t, .int .i64 c] := by rw [hW]; exact Row.new w _ _
  obtain ⟨V, hV⟩ : ∃ V, V = W.alloc (.cells #[.int .i64 f, .int .i64 t] 3) := ⟨_, rfl⟩
  have bV : Below w.heap.size w V := by rw [hV]; exact bW.alloc bW.size _
  have rV : Row V w.heap.size 72 [.int .i64 f, .int .i64 t, .int .i64 c] := by rw [hV]; exact rW.alloc _
  have H1 : Hid (∀ k, Calls Try.prog 49 #[.int .i64 0, .int .i64 ((n : Int) - 1), .slice (some ⟨W.heap.size, 0, none⟩) 2 k] (W.alloc (.cells #[.int .i64 f, .int .i64 t] 3)) fun e w' => e = .returned (.bool (allB [f, t] 0 ((n : Int) - 1))) ∧ w' = V) := fun k => by
    rw [hV]
    exact (tall_two W k f t 0 _).mono fun e w' h => ⟨h.1, h.2.symm⟩
  have H2 : Hid (∀ k, Calls Try.prog 49 #[.int .i64 1, .int .i64 100000000000, .slice (some ⟨V.heap.size, 0, none⟩) 1 k] (V.alloc (.cells #[.int .i64 c] 3)) fun e w' => e = .returned (.bool (inB c 1 100000000000)) ∧ V.alloc (.cells #[.int .i64 c] 3) = w') := fun k => tall_new V k c 1 100000000000
  have HB := Lib.hid bV
  have HB2 := Lib.hid (bV.alloc bV.size (.cells #[.int .i64 c] 3))
  have q0 : W.cell? ⟨w.heap.size, 0, none⟩ = some (.int .i64 f) := rW.cell (j := 0) (by simp)
  have q1 : W.cell? ⟨w.heap.size, 1, none⟩ = some (.int .i64 t) := rW.cell (j := 1) (by simp)
  have v0 : V.cell? ⟨w.heap.size, 0, none⟩ = some (.int .i64 f) := rV.cell (j := 0) (by simp)
  have v1 : V.cell? ⟨w.heap.size, 1, none⟩ = some (.int .i64 t) := rV.cell (j := 1) (by simp)
  have v2 : V.cell? ⟨w.heap.size, 2, none⟩ = some (.int .i64 c) := rV.cell (j := 2) (by simp)
  have lW := rW.lt
  have lV := rV.lt
  generalize pyB n ⟨f, t, c⟩ = r at HV ⊢
  clear rW rV bW bV hV
  unfold pyV
  go_enter Try.func54, Try.ntmps54
  go_upto_region 1 with fail
  rw [← hW]
  clear hW
  cases h1 : allB [f, t] 0 ((n : Int) - 1) with
  | false =>
    rw [h1] at H1 HV
    go_wp2_with (go_at_call 49; refine (H1.out _).mono ?_; rintro e w' ⟨rfl, rfl⟩)
    go_ret
    exact ⟨ret_boolT (by rw [HV.out]; rfl), HB.out⟩
  | true =>
    rw [h1] at H1 HV
    by_cases h2 : f = t
    · rw [decide_eq_true h2] at HV
      have h2' : (f == t) = true := by simpa using h2
      have HE := Lib.hid h2
      subst h2
      go_wp2_with (go_at_call 49; refine (H1.out _).mono ?_; rintro e w' ⟨rfl, rfl⟩)
      go_ret
      exact ⟨ret_boolT (by rw [HV.out]; simp), HB.out⟩
    · rw [decide_eq_false h2] at HV
      go_wp2_with (go_at_call 49; (first | (with_reducible refine (H1.out _).mono ?_; rintro e w' ⟨rfl, rfl⟩) | (with_reducible refine (H2.out _).mono ?_; rintro e w' ⟨rfl, rfl⟩)))
      go_ret
      exact ⟨ret_boolT (by rw [HV.out]; first | (simp; done) | (simp [h2])), HB2.out⟩
end Go.Proofs.Ytdechfjlbdbbnaa
