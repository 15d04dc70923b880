/- Contracts of the look at the example: sameInts, Example, works. No conditions. -/
import Derived.Test.YtaocgkmobfocjaaInu
namespace Go.Proofs.Ytaocgkmobfocjaa
open Go.RowKit

theorem bk_end (fn : Func) (p : Tmp) (q : Tmp) (hf : fn.results = #[.cell p 25, .tmp q]) (tmps : Array Value) (g : Nat) (s1 s2 s3 v2 : Value) (Z : World) (t4 : tmps.getD p undef = .pointer (some ⟨g, 0, none⟩)) (t5 : tmps.getD q undef = v2) (h : Row Z g 25 [s1, s2, s3]) :
    (results fn tmps).run Try.prog Z = .ok (.tuple #[.agg #[s1, s2, s3], v2]) Z := by
  have y0 : Z.cell? ⟨g, 0, none⟩ = some s1 := h.cell (j := 0) (by simp)
  have y1 : Z.cell? ⟨g, 1, none⟩ = some s2 := h.cell (j := 1) (by simp)
  have y2 : Z.cell? ⟨g, 2, none⟩ = some s3 := h.cell (j := 2) (by simp)
  have l2 := h.lt
  rw [Array.getD_eq_getD_getElem?] at t4 t5
  simp only [results, hf]
  simp [Sem.run_bind, Result.andThen, t4, t5]
  go_simp
set_option maxRecDepth 100000 in
set_option maxHeartbeats 1000000 in
theorem Example_any (w : World) : Calls Try.prog 43 #[] w fun e w' => ∃ R A c, e = .returned (.tuple #[bookV exB R, .slice A 5 c]) ∧ BkIn w' w'.heap.size exB R ∧ Reads w' w'.heap.size 5 A 5 (entCells exL) ∧ 5 ≤ c ∧ Below w.heap.size w w' := by
  go_enter Try.func43, Try.ntmps43
  go_wp2_with fail
  obtain ⟨W0, hW0⟩ : ∃ W, W = w.alloc (.cells #[.slice (some ⟨w.heap.size + 1, 0, none⟩) 2 2, .slice (some ⟨w.heap.size + 1 + 1, 0, none⟩) 3 3, .slice (some ⟨w.heap.size + 1 + 1 + 1, 0, none⟩) 2 2] 25) := ⟨_, rfl⟩
  have sW0 : W0.heap.size = w.heap.size + 1 := by rw [hW0, World.size_alloc]
  have rW0 : Row W0 (w.heap.size) 25 [.slice (some ⟨w.heap.size + 1, 0, none⟩) 2 2, .slice (some ⟨w.heap.size + 1 + 1, 0, none⟩) 3 3, .slice (some ⟨w.heap.size + 1 + 1 + 1, 0, none⟩) 2 2] := by rw [hW0]; exact row_oneI _ _ _ _ rfl
  have bW0 : Below w.heap.size w W0 := by rw [hW0]; exact (Below.refl _ _).alloc (Nat.le_refl _) _
  obtain ⟨W1, hW1⟩ : ∃ W, W = W0.alloc (.cells #[.int .i64 0, .int .i64 30, .int .i64 2, .bool false, .int .i64 0, .int .i64 7, .int .i64 1, .bool true] 59) := ⟨_, rfl⟩
  have sW1 : W1.heap.size = w.heap.size + 1 + 1 := by rw [hW1, World.size_alloc, sW0]
  have rW1 : Row W1 (w.heap.size + 1) 59 [.int .i64 0, .int .i64 30, .int .i64 2, .bool false, .int .i64 0, .int .i64 7, .int .i64 1, .bool true] := by rw [hW1]; exact row_oneI _ _ _ _ sW0.symm
  have bW1 : Below w.heap.size w W1 := by rw [hW1]; exact bW0.alloc bW0.size _
  obtain ⟨W2, hW2⟩ : ∃ W, W = W1.alloc (.cells #[.int .i64 2, .int .i64 1, .int .i64 1] 3) := ⟨_, rfl⟩
  have sW2 : W2.heap.size = w.heap.size + 1 + 1 + 1 := by rw [hW2, World.size_alloc, sW1]
  have rW2 : Row W2 (w.heap.size + 1 + 1) 3 [.int .i64 2, .int .i64 1, .int .i64 1] := by rw [hW2]; exact row_oneI _ _ _ _ sW1.symm
  have bW2 : Below w.heap.size w W2 := by rw [hW2]; exact bW1.alloc bW1.size _
  obtain ⟨W3, hW3⟩ : ∃ W, W = W2.alloc (.cells #[.int .i64 100, .int .i64 50] 3) := ⟨_, rfl⟩
  have sW3 : W3.heap.size = w.heap.size + 1 + 1 + 1 + 1 := by rw [hW3, World.size_alloc, sW2]
  have rW3 : Row W3 (w.heap.size + 1 + 1 + 1) 3 [.int .i64 100, .int .i64 50] := by rw [hW3]; exact row_oneI _ _ _ _ sW2.symm
  have bW3 : Below w.heap.size w W3 := by rw [hW3]; exact bW2.alloc bW2.size _
  obtain ⟨W4, hW4⟩ : ∃ W, W = W3.alloc (.cells #[.slice (some ⟨w.heap.size + 1, 0, none⟩) 2 2, .slice (some ⟨w.heap.size + 1 + 1, 0, none⟩) 3 3, .slice (some ⟨w.heap.size + 1 + 1 + 1, 0, none⟩) 2 2] 25) := ⟨_, rfl⟩
  have sW4 : W4.heap.size = w.heap.size + 1 + 1 + 1 + 1 + 1 := by rw [hW4, World.size_alloc, sW3]
  have rW4 : Row W4 (w.heap.size + 1 + 1 + 1 + 1) 25 [.slice (some ⟨w.heap.size + 1, 0, none⟩) 2 2, .slice (some ⟨w.heap.size + 1 + 1, 0, none⟩) 3 3, .slice (some ⟨w.heap.size + 1 + 1 + 1, 0, none⟩) 2 2] := by rw [hW4]; exact row_oneI _ _ _ _ sW3.symm
  have bW4 : Below w.heap.size w W4 := by rw [hW4]; exact bW3.alloc bW3.size _
  obtain ⟨W5, hW5⟩ : ∃ W, W = W4.alloc (.cells #[.int .i64 1, .int .i64 1, .int .i64 0, .int .i64 0, .int .i64 (-1), .int .i64 1, .int .i64 1, .int .i64 1, .int .i64 1, .int .i64 2, .int .i64 3, .int .i64 2, .int .i64 0, .int .i64 2, .int .i64 0, .int .i64 4, .int .i64 4, .int .i64 0, .int .i64 1, .int .i64 0, .int .i64 5, .int .i64 3, .int .i64 2, .int .i64 0, .int .i64 0] 54) := ⟨_, rfl⟩
  have sW5 : W5.heap.size = w.heap.size + 1 + 1 + 1 + 1 + 1 + 1 := by rw [hW5, World.size_alloc, sW4]
  have rW5 : Row W5 (w.heap.size + 1 + 1 + 1 + 1 + 1) 54 [.int .i64 1, .int .i64 1, .int .i64 0, .int .i64 0, .int .i64 (-1), .int .i64 1, .int .i64 1, .int .i64 1, .int .i64 1, .int .i64 2, .int .i64 3, .int .i64 2, .int .i64 0, .int .i64 2, .int .i64 0, .int .i64 4, .int .i64 4, .int .i64 0, .int .i64 1, .int .i64 0, .int .i64 5, .int .i64 3, .int .i64 2, .int .i64 0, .int .i64 0] := by rw [hW5]; exact row_oneI _ _ _ _ sW4.symm
  have bW5 : Below w.heap.size w W5 := by rw [hW5]; exact bW4.alloc bW4.size _
  rw [← hW0, ← hW1, ← hW2, ← hW3, ← hW4, ← hW5]
  have q0 : Row W5 (w.heap.size) 25 [.slice (some ⟨w.heap.size + 1, 0, none⟩) 2 2, .slice (some ⟨w.heap.size + 1 + 1, 0, none⟩) 3 3, .slice (some ⟨w.heap.size + 1 + 1 + 1, 0, none⟩) 2 2] := by have h := rW0; have h := h.alloc (.cells #[.int .i64 0, .int .i64 30, .int .i64 2, .bool false, .int .i64 0, .int .i64 7, .int .i64 1, .bool true] 59); rw [← hW1] at h; have h := h.alloc (.cells #[.int .i64 2, .int .i64 1, .int .i64 1] 3); rw [← hW2] at h; have h := h.alloc (.cells #[.int .i64 100, .int .i64 50] 3); rw [← hW3] at h; have h := h.alloc (.cells #[.slice (some ⟨w.heap.size + 1, 0, none⟩) 2 2, .slice (some ⟨w.heap.size + 1 + 1, 0, none⟩) 3 3, .slice (some ⟨w.heap.size + 1 + 1 + 1, 0, none⟩) 2 2] 25); rw [← hW4] at h; have h := h.alloc (.cells #[.int .i64 1, .int .i64 1, .int .i64 0, .int .i64 0, .int .i64 (-1), .int .i64 1, .int .i64 1, .int .i64 1, .int .i64 1, .int .i64 2, .int .i64 3, .int .i64 2, .int .i64 0, .int .i64 2, .int .i64 0, .int .i64 4, .int .i64 4, .int .i64 0, .int .i64 1, .int .i64 0, .int .i64 5, .int .i64 3, .int .i64 2, .int .i64 0, .int .i64 0] 54); rw [← hW5] at h; exact h
  have q1 : Row W5 (w.heap.size + 1) 59 [.int .i64 0, .int .i64 30, .int .i64 2, .bool false, .int .i64 0, .int .i64 7, .int .i64 1, .bool true] := by have h := rW1; have h := h.alloc (.cells #[.int .i64 2, .int .i64 1, .int .i64 1] 3); rw [← hW2] at h; have h := h.alloc (.cells #[.int .i64 100, .int .i64 50] 3); rw [← hW3] at h; have h := h.alloc (.cells #[.slice (some ⟨w.heap.size + 1, 0, none⟩) 2 2, .slice (some ⟨w.heap.size + 1 + 1, 0, none⟩) 3 3, .slice (some ⟨w.heap.size + 1 + 1 + 1, 0, none⟩) 2 2] 25); rw [← hW4] at h; have h := h.alloc (.cells #[.int .i64 1, .int .i64 1, .int .i64 0, .int .i64 0, .int .i64 (-1), .int .i64 1, .int .i64 1, .int .i64 1, .int .i64 1, .int .i64 2, .int .i64 3, .int .i64 2, .int .i64 0, .int .i64 2, .int .i64 0, .int .i64 4, .int .i64 4, .int .i64 0, .int .i64 1, .int .i64 0, .int .i64 5, .int .i64 3, .int .i64 2, .int .i64 0, .int .i64 0] 54); rw [← hW5] at h; exact h
  have q2 : Row W5 (w.heap.size + 1 + 1) 3 [.int .i64 2, .int .i64 1, .int .i64 1] := by have h := rW2; have h := h.alloc (.cells #[.int .i64 100, .int .i64 50] 3); rw [← hW3] at h; have h := h.alloc (.cells #[.slice (some ⟨w.heap.size + 1, 0, none⟩) 2 2, .slice (some ⟨w.heap.size + 1 + 1, 0, none⟩) 3 3, .slice (some ⟨w.heap.size + 1 + 1 + 1, 0, none⟩) 2 2] 25); rw [← hW4] at h; have h := h.alloc (.cells #[.int .i64 1, .int .i64 1, .int .i64 0, .int .i64 0, .int .i64 (-1), .int .i64 1, .int .i64 1, .int .i64 1, .int .i64 1, .int .i64 2, .int .i64 3, .int .i64 2, .int .i64 0, .int .i64 2, .int .i64 0, .int .i64 4, .int .i64 4, .int .i64 0, .int .i64 1, .int .i64 0, .int .i64 5, .int .i64 3, .int .i64 2, .int .i64 0, .int .i64 0] 54); rw [← hW5] at h; exact h
  have q3 : Row W5 (w.heap.size + 1 + 1 + 1) 3 [.int .i64 100, .int .i64 50] := by have h := rW3; have h := h.alloc (.cells #[.slice (some ⟨w.heap.size + 1, 0, none⟩) 2 2, .slice (some ⟨w.heap.size + 1 + 1, 0, none⟩) 3 3, .slice (some ⟨w.heap.size + 1 + 1 + 1, 0, none⟩) 2 2] 25); rw [← hW4] at h; have h := h.alloc (.cells #[.int .i64 1, .int .i64 1, .int .i64 0, .int .i64 0, .int .i64 (-1), .int .i64 1, .int .i64 1, .int .i64 1, .int .i64 1, .int .i64 2, .int .i64 3, .int .i64 2, .int .i64 0, .int .i64 2, .int .i64 0, .int .i64 4, .int .i64 4, .int .i64 0, .int .i64 1, .int .i64 0, .int .i64 5, .int .i64 3, .int .i64 2, .int .i64 0, .int .i64 0] 54); rw [← hW5] at h; exact h
  have q4 : Row W5 (w.heap.size + 1 + 1 + 1 + 1) 25 [.slice (some ⟨w.heap.size + 1, 0, none⟩) 2 2, .slice (some ⟨w.heap.size + 1 + 1, 0, none⟩) 3 3, .slice (some ⟨w.heap.size + 1 + 1 + 1, 0, none⟩) 2 2] := by have h := rW4; have h := h.alloc (.cells #[.int .i64 1, .int .i64 1, .int .i64 0, .int .i64 0, .int .i64 (-1), .int .i64 1, .int .i64 1, .int .i64 1, .int .i64 1, .int .i64 2, .int .i64 3, .int .i64 2, .int .i64 0, .int .i64 2, .int .i64 0, .int .i64 4, .int .i64 4, .int .i64 0, .int .i64 1, .int .i64 0, .int .i64 5, .int .i64 3, .int .i64 2, .int .i64 0, .int .i64 0] 54); rw [← hW5] at h; exact h
  refine bodyPost_ret (v := .tuple #[.agg #[.slice (some ⟨w.heap.size + 1, 0, none⟩) 2 2, .slice (some ⟨w.heap.size + 1 + 1, 0, none⟩) 3 3, .slice (some ⟨w.heap.size + 1 + 1 + 1, 0, none⟩) 2 2], .slice (some ⟨w.heap.size + 1 + 1 + 1 + 1 + 1, 0, none⟩) 5 5]) (bk_end _ 0 1 rfl _ w.heap.size _ _ _ _ _ rfl rfl q0) rfl ?_
  refine ⟨⟨some ⟨w.heap.size + 1, 0, none⟩, some ⟨w.heap.size + 1 + 1, 0, none⟩, some ⟨w.heap.size + 1 + 1 + 1, 0, none⟩, 2, 3, 2⟩, _, _, rfl, ⟨q1.reads (n := 2) (size := 4) rfl q1.lt, q2.reads (n := 3) (size := 1) rfl q2.lt, q3.reads (n := 2) (size := 1) rfl q3.lt, by decide, by decide, by decide⟩, rW5.reads (n := 5) (size := 5) rfl rW5.lt, Nat.le_refl _, bW5⟩
set_option maxHeartbeats 1000000 in
theorem same_eq (xs : List Int) (A A' : Option Addr) (c c' B B' : Nat) (w : World) (hr : Reads w B 1 A xs.length (xs.map (Value.int .i64))) (hs : Reads w B' 1 A' xs.length (xs.map (Value.int .i64))) (hB : B ≤ w.heap.size) (hB' : B' ≤ w.heap.size) (hm : xs.length ≤ 1000000000) :
    Calls Try.prog 22 #[.slice A xs.length c, .slice A' xs.length c'] w fun e w' => e = .returned (.bool true) ∧ Below w.heap.size w w' := by
  have HR := Lib.hid hr
  have HS := Lib.hid hs
  clear hr hs
  go_enter Try.func22, Try.ntmps22
  go_wp2_with fail
  go_loopw [5] (fun i wr => ∃ k : Nat, k ≤ xs.length ∧ i = .int .i64 k ∧ Below w.heap.size w wr) (fun i _ => xs.length - (intOf i).toNat)
  case atStart => exact ⟨0, Nat.zero_le _, rfl, Below.refl _ _⟩
  case round =>
    obtain ⟨k, hk, rfl, hbel⟩ := hrel
    have HB := Lib.hid hbel
    by_cases hlt : k < xs.length
    · have hlt' : (k : Int) < (xs.length : Int) := by omega
      obtain ⟨b, o, rfl, hb, hc⟩ := HR.out.2 (by omega)
      obtain ⟨b', o', rfl, hb', hc'⟩ := HS.out.2 (by omega)
      have hx : (xs.map (Value.int .i64))[k]? = some (.int .i64 xs[k]) := by rw [List.getElem?_map, List.getElem?_eq_getElem hlt]; rfl
      have hb1 : b < w.heap.size := by omega
      have hb1' : b' < w.heap.size := by omega
      have q1 := (hbel.cell (p := ⟨b, o + k, none⟩) hb1).trans (hc k _ hx)
      have q2 := (hbel.cell (p := ⟨b', o' + k, none⟩) hb1').trans (hc' k _ hx)
      have l1 : b < wr.heap.size := Nat.lt_of_lt_of_le hb1 hbel.size
      have l2 : b' < wr.heap.size := Nat.lt_of_lt_of_le hb1' hbel.size
      have e1 : IntKind.i64.wrap ((k : Int) + 1) = (k : Int) + 1 := IntWalk.i64_in _ (by omega)
      generalize xs[k] = x at q1 q2
      clear hc hc' hx hbel
      go_upto_region 6 with fail
      go_quiet (fail)
      go_wp2_with fail
      go_roundw
      case rel => exact ⟨k + 1, by omega, by go_num, below_drewN HB.out _⟩
      case measure => simp [intOf]; omega
    · have hge : ¬ (k : Int) < (xs.length : Int) := by omega
      go_wp2_with fail
      go_ret
      exact ⟨rfl, HB.out⟩
theorem ex_on : onE exB exL 4 = 0 := by decide +kernel
theorem ex_ride : rideE exB exL 0 4 = 0 := by decide +kernel
theorem ex_rel : lsE (onE exB exL 4) (relS exB (upL exL 4) 4) = [0] := by decide +kernel
theorem ex_unt2 : untE (rideE exB exL 0 4) (untS exB (upL exL 4) (0 : Int).toNat 4) = (7, 0) := by decide +kernel
set_option maxHeartbeats 1000000 in
set_option maxRecDepth 100000 in
theorem works_any (w : World) : Calls Try.prog 17 #[] w fun e w' => e = .returned (.bool true) ∧ Below w.heap.size w w' := by
  have HEx := Lib.hid (Example_any w)
  have HRel : Hid (∀ (R : BkR) (A : Option Addr) (c B : Nat) (X : World), B ≤ X.heap.size → BkIn X B exB R → Reads X B 5 A 5 (entCells exL) → 5 ≤ c → Calls Try.prog 25 #[bookV exB R, .slice A 5 c, .int .i64 4] X (LsTo X 0 [0])) := fun R A c B X hB hk hr hc => by
    have h := Released_any exB R exL A c B 4 X hB (by decide) hc hr hk
    rw [ex_rel, ex_on] at h
    exact h
  have HUnt : Hid (∀ (R : BkR) (A : Option Addr) (c B : Nat) (X : World), B ≤ X.heap.size → BkIn X B exB R → Reads X B 5 A 5 (entCells exL) → 5 ≤ c → Calls Try.prog 30 #[bookV exB R, .slice A 5 c, .int .i64 0, .int .i64 4] X fun e w' => e = .returned (.tuple #[.int .i64 7, .int .i64 0]) ∧ Below X.heap.size X w') := fun R A c B X hB hk hr hc => by
    have h := Until_any exB R exL A c B 0 4 X hB (by decide) hc hr hk
    rw [ex_unt2] at h
    exact h
  have HSm : Hid (∀ (A : Option Addr) (c c' B : Nat) (X : World), B ≤ X.heap.size → Reads X B 1 A 1 [.int .i64 0] → Calls Try.prog 22 #[.slice A 1 c, .slice (some ⟨X.heap.size, 0, none⟩) 1 c'] (X.alloc (.cells #[.int .i64 0] 3)) fun e w' => e = .returned (.bool true) ∧ Below X.heap.size X w') := fun A c c' B X hB hr => by
    have hr2 : Reads (X.alloc (.cells #[.int .i64 0] 3)) (X.heap.size + 1) 1 (some ⟨X.heap.size, 0, none⟩) 1 [.int .i64 0] := (Row.new X 3 #[.int .i64 0]).reads (n := 1) (size := 1) rfl (by omega)
    refine (same_eq [0] A _ c c' B (X.heap.size + 1) _ (hr.alloc hB _) hr2 (by simp; omega) (by simp) (by decide)).mono ?_
    rintro e w' ⟨h1, h2⟩
    exact ⟨h1, ((Below.refl _ X).alloc (Nat.le_refl _) _).trans (h2.mono (by simp))⟩
  go_enter Try.func17, Try.ntmps17
  go_upto_region 1 with fail
  unfold bookV at HEx HRel HUnt
  go_upto_region 2 with (go_at_call 43; refine HEx.out.mono ?_; rintro e X ⟨R, A, c, rfl, hk, hr, hc, hX⟩)
  have bY := hX.alloc hX.size (.cells #[.slice R.A1 exB.rules.length R.c1, .slice R.A2 exB.ranks.length R.c2, .slice R.A3 exB.insured.length R.c3] 25)
  have gY := Row.new X 25 #[.slice R.A1 exB.rules.length R.c1, .slice R.A2 exB.ranks.length R.c2, .slice R.A3 exB.insured.length R.c3]
  have bXY := (Below.refl _ X).alloc (Nat.le_refl _) (.cells #[.slice R.A1 exB.rules.length R.c1, .slice R.A2 exB.ranks.length R.c2, .slice R.A3 exB.insured.length R.c3] 25)
  generalize X.alloc (.cells #[.slice R.A1 exB.rules.length R.c1, .slice R.A2 exB.ranks.length R.c2, .slice R.A3 exB.insured.length R.c3] 25) = Y at bY gY bXY ⊢
  generalize X.heap.size = zb at gY bXY hk hr ⊢
  have HBY := Lib.hid bY
  have HKY := Lib.hid (hk.below bXY)
  have HRY := Lib.hid (hr.below bXY)
  have HZ := Lib.hid gY.lt
  have HGY := Lib.hid gY
  have g0 : Y.cell? ⟨zb, 0, none⟩ = some (.slice R.A1 exB.rules.length R.c1) := gY.cell (j := 0) (by simp)
  have g1 : Y.cell? ⟨zb, 1, none⟩ = some (.slice R.A2 exB.ranks.length R.c2) := gY.cell (j := 1) (by simp)
  have g2 : Y.cell? ⟨zb, 2, none⟩ = some (.slice R.A3 exB.insured.length R.c3) := gY.cell (j := 2) (by simp)
  have lG := gY.lt
  have HC : Hid (5 ≤ c) := hc
  have HR1 := Lib.hid (HRel.out R A c zb Y (Nat.le_of_lt lG) HKY.out HRY.out hc)
  clear hX hk hr hc bY gY bXY HRel HEx
  go_upto_region 3 with (go_at_call 25; refine HR1.out.mono ?_; rintro e Z ⟨hZ, A2, c2, rfl, hr2⟩)
  have HBZ := Lib.hid (HBY.out.trans (hZ.mono HBY.out.size))
  have HR2 := Lib.hid hr2
  have gZ := HGY.out.below hZ HGY.out.lt
  have k0 : Z.cell? ⟨zb, 0, none⟩ = some (.slice R.A1 exB.rules.length R.c1) := gZ.cell (j := 0) (by simp)
  have k1 : Z.cell? ⟨zb, 1, none⟩ = some (.slice R.A2 exB.ranks.length R.c2) := gZ.cell (j := 1) (by simp)
  have k2 : Z.cell? ⟨zb, 2, none⟩ = some (.slice R.A3 exB.insured.length R.c3) := gZ.cell (j := 2) (by simp)
  have lZ := gZ.lt
  have hzy : zb ≤ Y.heap.size := Nat.le_of_lt HZ.out
  have HU1 := Lib.hid (HUnt.out R A c zb Z (Nat.le_of_lt lZ) (HKY.out.below (hZ.mono hzy)) (HRY.out.below (hZ.mono hzy)) HC.out)
  clear hZ hr2 gZ HUnt g0 g1 g2 lG hzy HR1
  go_upto_region 4 with (go_at_call 30; refine HU1.out.mono ?_; rintro e V ⟨rfl, hV⟩)
  have HBV := Lib.hid (HBZ.out.trans (hV.mono HBZ.out.size))
  have HS1 : Hid (∀ c', Calls Try.prog 22 #[.slice A2 1 c2, .slice (some ⟨V.heap.size, 0, none⟩) 1 c'] (V.alloc (.cells #[.int .i64 0] 3)) fun e w' => e = .returned (.bool true) ∧ Below V.heap.size V w') := fun c' => HSm.out A2 c2 c' Z.heap.size V hV.size (HR2.out.below hV)
  clear hV HU1 k0 k1 k2 lZ
  go_wp2_with (go_at_call 22; refine (HS1.out _).mono ?_; rintro e U ⟨rfl, hU⟩; have HBU := Lib.hid (HBV.out.trans (hU.mono HBV.out.size)); clear hU)
  go_ret
  exact ⟨rfl, HBU.out⟩
end Go.Proofs.Ytaocgkmobfocjaa
