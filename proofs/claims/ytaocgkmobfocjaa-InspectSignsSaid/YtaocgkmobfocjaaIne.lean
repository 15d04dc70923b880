/- Contracts of inspect's small functions: what is a ride, a rule, a person, a day; who may sign. Conditions: a book that reads as data. -/
import Derived.Test.YtaocgkmobfocjaaInd
import Derived.Deep.RegionHeld3
import Derived.Deep.DeepCutAuto
import Derived.Deep.LoopGhost
namespace Go.Proofs.Ytaocgkmobfocjaa
open Go.RowKit

/-- A rule of a check. -/
structure RuZ where
  ride : Int
  every : Int
  rank : Int
  two : Bool
deriving Inhabited, DecidableEq
def ruL (r : RuZ) : List Value := [.int .i64 r.ride, .int .i64 r.every, .int .i64 r.rank, .bool r.two]
def ruV (r : RuZ) : Value := .agg #[.int .i64 r.ride, .int .i64 r.every, .int .i64 r.rank, .bool r.two]
def ruCells (l : List RuZ) : List Value := l.flatMap ruL
/-- A log book. -/
structure BookZ where
  rules : List RuZ
  ranks : List Int
  insured : List Int
/-- Where a book lies. -/
structure BkR where
  A1 : Option Addr
  A2 : Option Addr
  A3 : Option Addr
  c1 : Nat
  c2 : Nat
  c3 : Nat
def bookV (k : BookZ) (R : BkR) : Value := .agg #[.slice R.A1 k.rules.length R.c1, .slice R.A2 k.ranks.length R.c2, .slice R.A3 k.insured.length R.c3]
/-- A book reads as data. -/
structure BkIn (w : World) (B : Nat) (k : BookZ) (R : BkR) : Prop where
  rules : Reads w B 4 R.A1 k.rules.length (ruCells k.rules)
  ranks : Reads w B 1 R.A2 k.ranks.length (k.ranks.map (Value.int .i64))
  insured : Reads w B 1 R.A3 k.insured.length (k.insured.map (Value.int .i64))
  l1 : k.rules.length ≤ maxLen
  l2 : k.ranks.length ≤ maxLen
  l3 : k.insured.length ≤ maxLen
theorem BkIn.below {w w' : World} {B : Nat} {k : BookZ} {R : BkR} (h : BkIn w B k R) (hb : Below B w w') : BkIn w' B k R := ⟨h.rules.below hb, h.ranks.below hb, h.insured.below hb, h.l1, h.l2, h.l3⟩
theorem inI_le {x lo hi : Int} (h : inB x lo hi = true) : lo ≤ x ∧ x ≤ hi := by
  unfold inB at h
  simpa using h
theorem iall_one (X : World) (g c : Nat) (v lo hi : Int) (hr : Row X g 3 [.int .i64 v]) : Calls Try.prog 64 #[.int .i64 lo, .int .i64 hi, .slice (some ⟨g, 0, none⟩) 1 c] X fun e w' => e = .returned (.bool (inB v lo hi)) ∧ X = w' := by
  have h := iall_any [v] (some ⟨g, 0, none⟩) 1 c X.heap.size lo hi X (hr.reads (n := 1) (size := 1) rfl hr.lt) (by decide)
  refine h.mono ?_
  rintro e w' ⟨rfl, h2⟩
  exact ⟨ret_boolI (by simp [allB]), h2⟩
set_option maxRecDepth 100000 in
theorem isDay_any (n : Int) (w : World) : Calls Try.prog 63 #[.int .i64 n] w fun e w' => e = .returned (.bool (inB n 0 10000)) ∧ Below w.heap.size w w' := by
  have H1 : Hid (∀ (c : Nat), Calls Try.prog 64 #[.int .i64 0, .int .i64 10000, .slice (some ⟨w.heap.size, 0, none⟩) 1 c] (w.alloc (.cells #[.int .i64 n] 3)) fun e w' => e = .returned (.bool (inB n 0 10000)) ∧ w.alloc (.cells #[.int .i64 n] 3) = w') := fun c => iall_one _ _ c n 0 10000 (Row.new w 3 #[.int .i64 n])
  go_enter Try.func63, Try.ntmps63
  go_wp2_with (go_at_call 64; refine (H1.out _).mono ?_; rintro e w' ⟨rfl, rfl⟩)
  go_ret
  exact ⟨rfl, (Below.refl _ w).alloc (Nat.le_refl _) _⟩
set_option maxRecDepth 100000 in
theorem isRide_any (k : BookZ) (R : BkR) (n : Int) (hl : k.insured.length ≤ maxLen) (w : World) : Calls Try.prog 62 #[bookV k R, .int .i64 n] w fun e w' => e = .returned (.bool (inB n 0 ((k.insured.length : Int) - 1))) ∧ Below w.heap.size w w' := by
  unfold maxLen at hl
  have ew : IntKind.i64.wrap ((k.insured.length : Int) - 1) = (k.insured.length : Int) - 1 := IntWalk.i64_in _ (by omega)
  have H1 : Hid (∀ (X : World) (c : Nat), Calls Try.prog 64 #[.int .i64 0, .int .i64 ((k.insured.length : Int) - 1), .slice (some ⟨X.heap.size, 0, none⟩) 1 c] (X.alloc (.cells #[.int .i64 n] 3)) fun e w' => e = .returned (.bool (inB n 0 ((k.insured.length : Int) - 1))) ∧ X.alloc (.cells #[.int .i64 n] 3) = w') := fun X c => iall_one _ _ c n 0 _ (Row.new X 3 #[.int .i64 n])
  obtain ⟨W, hW⟩ : ∃ W, W = w.alloc (.cells #[.slice R.A1 k.rules.length R.c1, .slice R.A2 k.ranks.length R.c2, .slice R.A3 k.insured.length R.c3] 25) := ⟨_, rfl⟩
  have bW : Below w.heap.size w W := by subst hW; exact (Below.refl _ _).alloc (Nat.le_refl _) _
  have r0 : Row W w.heap.size 25 [.slice R.A1 k.rules.length R.c1, .slice R.A2 k.ranks.length R.c2, .slice R.A3 k.insured.length R.c3] := by subst hW; exact Row.new w _ _
  have q : W.cell? ⟨w.heap.size, 2, none⟩ = some (.slice R.A3 k.insured.length R.c3) := r0.cell (j := 2) (by simp)
  have lW := r0.lt
  have HB := Lib.hid (bW.alloc bW.size (.cells #[.int .i64 n] 3))
  unfold bookV
  clear r0 bW hl
  go_enter Try.func62, Try.ntmps62
  go_upto_region 1 with fail
  rw [← hW]
  clear hW
  go_wp2_with (go_at_call 64; refine (H1.out _ _).mono ?_; rintro e w' ⟨rfl, rfl⟩)
  go_ret
  exact ⟨rfl, HB.out⟩
set_option maxRecDepth 100000 in
theorem isRule_any (k : BookZ) (R : BkR) (n : Int) (hl : k.rules.length ≤ maxLen) (w : World) : Calls Try.prog 69 #[bookV k R, .int .i64 n] w fun e w' => e = .returned (.bool (inB n 0 ((k.rules.length : Int) - 1))) ∧ Below w.heap.size w w' := by
  unfold maxLen at hl
  have ew : IntKind.i64.wrap ((k.rules.length : Int) - 1) = (k.rules.length : Int) - 1 := IntWalk.i64_in _ (by omega)
  have H1 : Hid (∀ (X : World) (c : Nat), Calls Try.prog 64 #[.int .i64 0, .int .i64 ((k.rules.length : Int) - 1), .slice (some ⟨X.heap.size, 0, none⟩) 1 c] (X.alloc (.cells #[.int .i64 n] 3)) fun e w' => e = .returned (.bool (inB n 0 ((k.rules.length : Int) - 1))) ∧ X.alloc (.cells #[.int .i64 n] 3) = w') := fun X c => iall_one _ _ c n 0 _ (Row.new X 3 #[.int .i64 n])
  obtain ⟨W, hW⟩ : ∃ W, W = w.alloc (.cells #[.slice R.A1 k.rules.length R.c1, .slice R.A2 k.ranks.length R.c2, .slice R.A3 k.insured.length R.c3] 25) := ⟨_, rfl⟩
  have bW : Below w.heap.size w W := by subst hW; exact (Below.refl _ _).alloc (Nat.le_refl _) _
  have r0 : Row W w.heap.size 25 [.slice R.A1 k.rules.length R.c1, .slice R.A2 k.ranks.length R.c2, .slice R.A3 k.insured.length R.c3] := by subst hW; exact Row.new w _ _
  have q : W.cell? ⟨w.heap.size, 0, none⟩ = some (.slice R.A1 k.rules.length R.c1) := r0.cell (j := 0) (by simp)
  have lW := r0.lt
  have HB := Lib.hid (bW.alloc bW.size (.cells #[.int .i64 n] 3))
  unfold bookV
  clear r0 bW hl
  go_enter Try.func69, Try.ntmps69
  go_upto_region 1 with fail
  rw [← hW]
  clear hW
  go_wp2_with (go_at_call 64; refine (H1.out _ _).mono ?_; rintro e w' ⟨rfl, rfl⟩)
  go_ret
  exact ⟨rfl, HB.out⟩
set_option maxRecDepth 100000 in
theorem isPerson_any (k : BookZ) (R : BkR) (n : Int) (hl : k.ranks.length ≤ maxLen) (w : World) : Calls Try.prog 87 #[bookV k R, .int .i64 n] w fun e w' => e = .returned (.bool (inB n 0 ((k.ranks.length : Int) - 1))) ∧ Below w.heap.size w w' := by
  unfold maxLen at hl
  have ew : IntKind.i64.wrap ((k.ranks.length : Int) - 1) = (k.ranks.length : Int) - 1 := IntWalk.i64_in _ (by omega)
  have H1 : Hid (∀ (X : World) (c : Nat), Calls Try.prog 64 #[.int .i64 0, .int .i64 ((k.ranks.length : Int) - 1), .slice (some ⟨X.heap.size, 0, none⟩) 1 c] (X.alloc (.cells #[.int .i64 n] 3)) fun e w' => e = .returned (.bool (inB n 0 ((k.ranks.length : Int) - 1))) ∧ X.alloc (.cells #[.int .i64 n] 3) = w') := fun X c => iall_one _ _ c n 0 _ (Row.new X 3 #[.int .i64 n])
  obtain ⟨W, hW⟩ : ∃ W, W = w.alloc (.cells #[.slice R.A1 k.rules.length R.c1, .slice R.A2 k.ranks.length R.c2, .slice R.A3 k.insured.length R.c3] 25) := ⟨_, rfl⟩
  have bW : Below w.heap.size w W := by subst hW; exact (Below.refl _ _).alloc (Nat.le_refl _) _
  have r0 : Row W w.heap.size 25 [.slice R.A1 k.rules.length R.c1, .slice R.A2 k.ranks.length R.c2, .slice R.A3 k.insured.length R.c3] := by subst hW; exact Row.new w _ _
  have q : W.cell? ⟨w.heap.size, 1, none⟩ = some (.slice R.A2 k.ranks.length R.c2) := r0.cell (j := 1) (by simp)
  have lW := r0.lt
  have HB := Lib.hid (bW.alloc bW.size (.cells #[.int .i64 n] 3))
  unfold bookV
  clear r0 bW hl
  go_enter Try.func87, Try.ntmps87
  go_upto_region 1 with fail
  rw [← hW]
  clear hW
  go_wp2_with (go_at_call 64; refine (H1.out _ _).mono ?_; rintro e w' ⟨rfl, rfl⟩)
  go_ret
  exact ⟨rfl, HB.out⟩
/-- Who has a rank. -/
def rankB (k : BookZ) (n r : Int) : Bool := inB n 0 ((k.ranks.length : Int) - 1) && decide (r ≤ k.ranks.getD n.toNat 0)
set_option maxRecDepth 100000 in
theorem hasRank_any (k : BookZ) (R : BkR) (n r : Int) (B : Nat) (w : World) (hB : B ≤ w.heap.size) (hk : BkIn w B k R) : Calls Try.prog 94 #[bookV k R, .int .i64 n, .int .i64 r] w fun e w' => e = .returned (.bool (rankB k n r)) ∧ Below w.heap.size w w' := by
  have hl := hk.l2
  obtain ⟨W, hW⟩ : ∃ W, W = w.alloc (.cells #[.slice R.A1 k.rules.length R.c1, .slice R.A2 k.ranks.length R.c2, .slice R.A3 k.insured.length R.c3] 25) := ⟨_, rfl⟩
  have bW : Below w.heap.size w W := by subst hW; exact (Below.refl _ _).alloc (Nat.le_refl _) _
  have r0 : Row W w.heap.size 25 [.slice R.A1 k.rules.length R.c1, .slice R.A2 k.ranks.length R.c2, .slice R.A3 k.insured.length R.c3] := by subst hW; exact Row.new w _ _
  have q0 : W.cell? ⟨w.heap.size, 0, none⟩ = some (.slice R.A1 k.rules.length R.c1) := r0.cell (j := 0) (by simp)
  have q1 : W.cell? ⟨w.heap.size, 1, none⟩ = some (.slice R.A2 k.ranks.length R.c2) := r0.cell (j := 1) (by simp)
  have q2 : W.cell? ⟨w.heap.size, 2, none⟩ = some (.slice R.A3 k.insured.length R.c3) := r0.cell (j := 2) (by simp)
  have lW := r0.lt
  have HP := Lib.hid (isPerson_any k R n hl W)
  have HR0 := Lib.hid r0
  have HBW := Lib.hid bW
  have HRD : Hid (∀ X, Below w.heap.size w X → Reads X B 1 R.A2 k.ranks.length (k.ranks.map (Value.int .i64))) := fun X hX => hk.ranks.below (hX.mono hB)
  unfold bookV at HP ⊢
  clear r0 bW hl hk
  cases hp : inB n 0 ((k.ranks.length : Int) - 1) with
  | false =>
    have hv : rankB k n r = false := by unfold rankB; rw [hp]; rfl
    rw [hv]
    rw [hp] at HP
    clear hp hv
    go_enter Try.func94, Try.ntmps94
    go_upto_region 1 with fail
    rw [← hW]
    clear hW
    go_wp2_with (go_at_call 87; refine HP.out.mono ?_; rintro e X ⟨rfl, hX⟩; have HX := Lib.hid (HBW.out.trans (hX.mono HBW.out.size)); clear hX)
    go_ret
    exact ⟨rfl, HX.out⟩
  | true =>
    have hv : rankB k n r = decide (r ≤ k.ranks.getD n.toNat 0) := by unfold rankB; rw [hp]; rfl
    rw [hv]
    rw [hp] at HP
    have hb := inI_le hp
    obtain ⟨i, hi⟩ : ∃ i, i = n.toNat := ⟨_, rfl⟩
    have hn : n = (i : Int) := by omega
    have hil : i < k.ranks.length := by omega
    have i0 : ¬ (i : Int) < 0 := by omega
    have i1 : (i : Int) < (k.ranks.length : Int) := by omega
    rw [← hi]
    subst hn
    have hg : k.ranks.getD i 0 = k.ranks[i] := by simp [List.getD_eq_getElem?_getD, hil]
    rw [hg]
    have HB3 := Lib.hid hB
    clear hp hv hi hb
    go_enter Try.func94, Try.ntmps94
    go_upto_region 1 with fail
    rw [← hW]
    clear hW
    go_wp2_with (go_at_call 87; refine HP.out.mono ?_; rintro e X ⟨rfl, hX⟩; have r1 := HR0.out.below hX HR0.out.lt; have s1 : X.cell? ⟨w.heap.size, 1, none⟩ = some (.slice R.A2 k.ranks.length R.c2) := r1.cell (j := 1) (by simp); have l1 := r1.lt; have HX := Lib.hid (HBW.out.trans (hX.mono HBW.out.size)); obtain ⟨b, o, hA, hbB, hcc⟩ := (HRD.out X HX.out).2 (by omega); have hck : X.cell? ⟨b, o + i, none⟩ = some (.int .i64 k.ranks[i]) := hcc i _ (by simp [hil]); have lb : b < X.heap.size := (by have := HX.out.size; omega); rw [hA] at s1; clear hX r1 hcc hA)
    go_ret
    exact ⟨rfl, HX.out⟩
/-- Who may sign. -/
def signB (k : BookZ) (u : RuZ) (a b : Int) : Bool := if u.two = false then rankB k a u.rank && decide (b = -1) else (rankB k a u.rank && rankB k b u.rank) && decide (a ≠ b)
set_option maxRecDepth 100000 in
set_option maxHeartbeats 1000000 in
theorem maySign_any (k : BookZ) (R : BkR) (u : RuZ) (a b : Int) (B : Nat) (w : World) (hB : B ≤ w.heap.size) (hk : BkIn w B k R) : Calls Try.prog 85 #[bookV k R, ruV u, .int .i64 a, .int .i64 b] w fun e w' => e = .returned (.bool (signB k u a b)) ∧ Below w.heap.size w w' := by
  obtain ⟨W, hW⟩ : ∃ W, W = (w.alloc (.cells #[.slice R.A1 k.rules.length R.c1, .slice R.A2 k.ranks.length R.c2, .slice R.A3 k.insured.length R.c3] 25)).alloc (.cells #[.int .i64 u.ride, .int .i64 u.every, .int .i64 u.rank, .bool u.two] 59) := ⟨_, rfl⟩
  have bW : Below w.heap.size w W := by subst hW; exact ((Below.refl _ _).alloc (Nat.le_refl _) _).alloc (by simp) _
  have r0 : Row W w.heap.size 25 [.slice R.A1 k.rules.length R.c1, .slice R.A2 k.ranks.length R.c2, .slice R.A3 k.insured.length R.c3] := by subst hW; exact (Row.new w _ _).alloc _
  have r1 : Row W (w.heap.size + 1) 59 [.int .i64 u.ride, .int .i64 u.every, .int .i64 u.rank, .bool u.two] := by
    subst hW
    have h := Row.new (w.alloc (.cells #[.slice R.A1 k.rules.length R.c1, .slice R.A2 k.ranks.length R.c2, .slice R.A3 k.insured.length R.c3] 25)) 59 #[.int .i64 u.ride, .int .i64 u.every, .int .i64 u.rank, .bool u.two]
    rw [World.size_alloc] at h
    exact h
  have q0 : W.cell? ⟨w.heap.size, 0, none⟩ = some (.slice R.A1 k.rules.length R.c1) := r0.cell (j := 0) (by simp)
  have q1 : W.cell? ⟨w.heap.size, 1, none⟩ = some (.slice R.A2 k.ranks.length R.c2) := r0.cell (j := 1) (by simp)
  have q2 : W.cell? ⟨w.heap.size, 2, none⟩ = some (.slice R.A3 k.insured.length R.c3) := r0.cell (j := 2) (by simp)
  have p2 : W.cell? ⟨w.heap.size + 1, 2, none⟩ = some (.int .i64 u.rank) := r1.cell (j := 2) (by simp)
  have p3 : W.cell? ⟨w.heap.size + 1, 3, none⟩ = some (.bool u.two) := r1.cell (j := 3) (by simp)
  have lW := r0.lt
  have lP := r1.lt
  have HBW := Lib.hid bW
  have HR0 := Lib.hid r0
  have HR1 := Lib.hid r1
  have HH : Hid (∀ (n : Int) (X : World), Below w.heap.size w X → Calls Try.prog 94 #[bookV k R, .int .i64 n, .int .i64 u.rank] X fun e w' => e = .returned (.bool (rankB k n u.rank)) ∧ Below X.heap.size X w') := fun n X hX => hasRank_any k R n u.rank B X (Nat.le_trans hB hX.size) (hk.below (hX.mono hB))
  have HA := Lib.hid (HH.out a W bW)
  have HS : Hid (signB k u a b = if u.two = false then rankB k a u.rank && decide (b = -1) else (rankB k a u.rank && rankB k b u.rank) && decide (a ≠ b)) := rfl
  obtain ⟨v, hv⟩ : ∃ v, v = signB k u a b := ⟨_, rfl⟩
  rw [← hv] at HS ⊢
  generalize rankB k a u.rank = ra at HA HS
  obtain ⟨rb, hrb⟩ : ∃ rb, rb = rankB k b u.rank := ⟨_, rfl⟩
  rw [← hrb] at HS
  have HRB := Lib.hid hrb
  generalize u.two = tw at p3 HS
  unfold bookV ruV at *
  clear bW r0 r1 hk hv hrb
  cases tw with
  | false =>
    cases ra with
    | false =>
      go_enter Try.func85, Try.ntmps85
      go_upto_region 1 with fail
      rw [← hW]
      clear hW
      go_wp2_with (go_at_call 94; refine HA.out.mono ?_; rintro e X ⟨rfl, hX⟩; have HX := Lib.hid (HBW.out.trans (hX.mono HBW.out.size)); clear hX HA)
      go_ret
      exact ⟨by rw [HS.out]; rfl, HX.out⟩
    | true =>
      go_enter Try.func85, Try.ntmps85
      go_upto_region 1 with fail
      rw [← hW]
      clear hW
      go_wp2_with (go_at_call 94; refine HA.out.mono ?_; rintro e X ⟨rfl, hX⟩; have HX := Lib.hid (HBW.out.trans (hX.mono HBW.out.size)); clear hX HA)
      go_ret
      exact ⟨ret_boolI (by rw [HS.out, Bool.eq_iff_iff]; simp), HX.out⟩
  | true =>
    cases ra with
    | false =>
      go_enter Try.func85, Try.ntmps85
      go_upto_region 1 with fail
      rw [← hW]
      clear hW
      go_wp2_with (go_at_call 94; refine HA.out.mono ?_; rintro e X ⟨rfl, hX⟩; have HX := Lib.hid (HBW.out.trans (hX.mono HBW.out.size)); clear hX HA)
      go_ret
      exact ⟨by rw [HS.out]; rfl, HX.out⟩
    | true =>
      have HHB : Hid (∀ X, Below w.heap.size w X → Calls Try.prog 94 #[.agg #[.slice R.A1 k.rules.length R.c1, .slice R.A2 k.ranks.length R.c2, .slice R.A3 k.insured.length R.c3], .int .i64 b, .int .i64 u.rank] X fun e w' => e = .returned (.bool rb) ∧ Below X.heap.size X w') := fun X hX => by
        rw [HRB.out]
        exact HH.out b X hX
      clear HH HRB
      cases rb with
      | false =>
        go_enter Try.func85, Try.ntmps85
        go_upto_region 1 with fail
        rw [← hW]
        clear hW
        go_wp2_with (first | (go_at_call 94; refine HA.out.mono ?_; rintro e X ⟨rfl, hX⟩; have HX := Lib.hid (HBW.out.trans (hX.mono HBW.out.size)); have s0 := HR0.out.below hX HR0.out.lt; have s1 := HR1.out.below hX HR1.out.lt; have t0 : X.cell? ⟨w.heap.size, 0, none⟩ = some (.slice R.A1 k.rules.length R.c1) := s0.cell (j := 0) (by simp); have t1 : X.cell? ⟨w.heap.size, 1, none⟩ = some (.slice R.A2 k.ranks.length R.c2) := s0.cell (j := 1) (by simp); have t2 : X.cell? ⟨w.heap.size, 2, none⟩ = some (.slice R.A3 k.insured.length R.c3) := s0.cell (j := 2) (by simp); have v2 : X.cell? ⟨w.heap.size + 1, 2, none⟩ = some (.int .i64 u.rank) := s1.cell (j := 2) (by simp); have ls := s0.lt; have lt := s1.lt; have HB2 := Lib.hid (HHB.out X HX.out); clear hX HA s0 s1) | (go_at_call 94; refine HB2.out.mono ?_; rintro e Y ⟨rfl, hY⟩; have HY := Lib.hid (HX.out.trans (hY.mono HX.out.size)); clear hY HB2))
        go_ret
        exact ⟨by rw [HS.out]; rfl, HY.out⟩
      | true =>
        go_enter Try.func85, Try.ntmps85
        go_upto_region 1 with fail
        rw [← hW]
        clear hW
        go_wp2_with (first | (go_at_call 94; refine HA.out.mono ?_; rintro e X ⟨rfl, hX⟩; have HX := Lib.hid (HBW.out.trans (hX.mono HBW.out.size)); have s0 := HR0.out.below hX HR0.out.lt; have s1 := HR1.out.below hX HR1.out.lt; have t0 : X.cell? ⟨w.heap.size, 0, none⟩ = some (.slice R.A1 k.rules.length R.c1) := s0.cell (j := 0) (by simp); have t1 : X.cell? ⟨w.heap.size, 1, none⟩ = some (.slice R.A2 k.ranks.length R.c2) := s0.cell (j := 1) (by simp); have t2 : X.cell? ⟨w.heap.size, 2, none⟩ = some (.slice R.A3 k.insured.length R.c3) := s0.cell (j := 2) (by simp); have v2 : X.cell? ⟨w.heap.size + 1, 2, none⟩ = some (.int .i64 u.rank) := s1.cell (j := 2) (by simp); have ls := s0.lt; have lt := s1.lt; have HB2 := Lib.hid (HHB.out X HX.out); clear hX HA s0 s1) | (go_at_call 94; refine HB2.out.mono ?_; rintro e Y ⟨rfl, hY⟩; have HY := Lib.hid (HX.out.trans (hY.mono HX.out.size)); clear hY HB2))
        go_ret
        exact ⟨ret_boolI (by rw [HS.out, Bool.eq_iff_iff]; simp), HY.out⟩
end Go.Proofs.Ytaocgkmobfocjaa
