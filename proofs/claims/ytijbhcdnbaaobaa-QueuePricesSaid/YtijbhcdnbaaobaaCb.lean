/- Contract of queue's Cycle. Conditions: an evening and groups that read as data. -/
import Derived.Test.YtijbhcdnbaaobaaEe
import Derived.Test.YtijbhcdnbaaobaaJm
import Derived.Test.YtijbhcdnbaaobaaDw
import Derived.Test.YtijbhcdnbaaobaaDx
/- Contract of queue's changed, with the closure that sets a cycle. Conditions: an evening that reads as data; the closure's variable lies in memory. -/
namespace Go.Proofs.Ytijbhcdnbaaobaa
open Go.RowKit

set_option maxRecDepth 100000 in
set_option maxHeartbeats 1000000 in
theorem clone_b (l : List Bth) (b o c B : Nat) (w : World) (_ : B ≤ w.heap.size) (hr : Reads w B 5 (some ⟨b, o, none⟩) l.length (bthCells l)) (h0 : 0 < l.length) (hl : l.length ≤ 1000) :
    Calls Try.prog 87 #[.slice (some ⟨b, o, none⟩) l.length c] w fun e w' => ∃ A c, e = .returned (.slice A l.length c) ∧ w'.ownsRow w.heap.size 47 5 (.slice A l.length c) l.length (bthCells l) ∧ Below w.heap.size w w' := by
  obtain ⟨i0, hi, hz0, hz1, hz2⟩ := info_parts Try.info_booth
  have q22 : ∀ (w : World) (a : Option Addr) (n c n' c' : Nat), (binOp .eql 22 (.slice a n c) (.slice none n' c')).run Try.prog w = .ok (.bool a.isNone) w := fun w a n c n' c' => Lib.run_eql_slice_nil w _ _ a n c n' c' Try.underlying22
  have po := bth_one l
  obtain ⟨b', o', e, hb, hc⟩ := hr.2 h0
  injection e with e
  injection e with e1 e2
  subst e1 e2
  have Hc : Hid (∀ j u, (bthCells l)[j]? = some u → w.cell? ⟨b, o + j, none⟩ = some u) := hc
  have Hll : Hid ((bthCells l).length = l.length * 5) := hr.1
  have Hpo := Lib.hid po
  clear hr hc po
  generalize l.length = n at *
  go_enter Try.func87, Try.ntmps87
  go_wp2_with (at_builtin; refine wpList_append_own _ rfl _ _ 22 rfl w.heap.size 47 i0 _ 5 40 Try.underlying22 hi hz0 hz1 hz2 rfl (by decide) _ _ _ rfl (World.ownsRow_made w #[] 0 (Nat.le_refl _) (Nat.zero_le _) rfl) ⟨b, o, none⟩ n c (bthCells l) rfl Hll.out ?qc2 ?qc3 ?qc4 ?qc5 (by simp) ?_)
  case qc2 =>
    intro j u hj
    exact Lib.cell?_alloc_some _ (Hc.out j u hj)
  case qc3 => exact Hpo.out
  case qc4 => unfold maxLen; omega
  case qc5 => omega
  intro v' w1 hown hgrow hnil
  have hown' : w1.ownsRow w.heap.size 47 5 v' n (bthCells l) := by simpa using hown
  obtain ⟨A, c, rfl⟩ := own_slice hown'
  clear hown
  have Ho := Lib.hid hown'
  clear hown'
  go_wp2
  go_ret
  exact ⟨A, c, rfl, Ho.out, ((Below.refl _ w).alloc (Nat.le_refl _) _).grown hgrow (by simp) (by intro k hk; simp [Value.ownBlock] at hk; omega)⟩
/-- The closure that sets a cycle. -/
theorem setCycle_any (g k gc : Nat) (cyc v0 : Int) (w : World) (hc : w.cell? ⟨gc, 0, none⟩ = some (.int .i64 cyc)) (_ : gc < w.heap.size) (hg : w.cell? ⟨g, k + 2, none⟩ = some (.int .i64 v0)) (hf : w.frozen? ⟨g, k + 2, none⟩ = false) (_ : g < w.heap.size) :
    Calls Try.prog 74 #[.pointer (some ⟨g, k, none⟩), .pointer (some ⟨gc, 0, none⟩)] w fun e w' => e = .returned (.tuple #[]) ∧ w' = w.setCell ⟨g, k + 2, none⟩ (.int .i64 cyc) := by
  go_enter Try.func74, Try.ntmps74
  go_wp2_with fail
  go_end0
  exact ⟨rfl, rfl⟩
/-- An evening in which a ride has another cycle. -/
def EveZ.cyc (f : EveZ) (r : Nat) (c : Int) : EveZ := { f with rides := f.rides.modify r fun b => { b with cycle := c } }
theorem cyc_len (f : EveZ) (r : Nat) (c : Int) : (f.cyc r c).rides.length = f.rides.length := by simp [EveZ.cyc]
theorem cyc_at (f : EveZ) {r : Nat} (hr : r < f.rides.length) (c : Int) (i : Nat) : (f.cyc r c).rides.getD i default = if i = r then { f.rides.getD r default with cycle := c } else f.rides.getD i default := by
  unfold EveZ.cyc
  simp only [List.getD_eq_getElem?_getD, List.getElem?_modify]
  by_cases h : i = r
  · subst h
    simp [hr]
  · rw [if_neg h]
    simp [Ne.symm h]
theorem bth_len : ∀ l : List Bth, (bthCells l).length = l.length * 5 := by
  intro l
  induction l with
  | nil => rfl
  | cons b l ih => rw [show bthCells (b :: l) = bthL b ++ bthCells l from rfl, List.length_append, ih, List.length_cons]; simp [bthL]; omega
/-- One cell of a ride's. -/
theorem cyc_cells (f : EveZ) {r : Nat} (hr : r < f.rides.length) (c : Int) : (bthCells f.rides).set (r * 5 + 2) (.int .i64 c) = bthCells (f.cyc r c).rides := by
  refine List.ext_getElem? fun i => ?_
  have hl := bth_len f.rides
  rw [List.getElem?_set, hl]
  by_cases hi : i < f.rides.length * 5
  · have e : i = i / 5 * 5 + i % 5 := by omega
    have hq : i / 5 < f.rides.length := by omega
    have hc : i % 5 < 5 := by omega
    have f1 := bthCells_at f.rides (i / 5) hq (i % 5) hc
    have f2 := bthCells_at (f.cyc r c).rides (i / 5) (by rw [cyc_len]; exact hq) (i % 5) hc
    rw [← e] at f1 f2
    rw [f1, f2, cyc_at f hr]
    by_cases er : i / 5 = r
    · rw [if_pos er, er]
      by_cases e2 : r * 5 + 2 = i
      · rw [if_pos e2, if_pos (by omega), show i % 5 = 2 by omega]
        rfl
      · rw [if_neg e2]
        rcases (by omega : i % 5 = 0 ∨ i % 5 = 1 ∨ i % 5 = 3 ∨ i % 5 = 4) with h | h | h | h <;> rw [h] <;> rfl
    · rw [if_neg er, if_neg (by omega)]
  · rw [if_neg (by omega), List.getElem?_eq_none (by rw [hl]; omega), List.getElem?_eq_none (by rw [bth_len, cyc_len]; omega)]
/-- An evening in memory of the call's own. -/
def ChTo (w : World) (f : EveZ) (e : Ending) (w' : World) : Prop := ∃ A c, e = .returned (eveV f A c) ∧ Below w.heap.size w w' ∧ Reads w' w'.heap.size 5 A f.rides.length (bthCells f.rides)
set_option maxRecDepth 100000 in
set_option maxHeartbeats 1000000 in
theorem changed_any (f : EveZ) (A : Option Addr) (c B r gc : Nat) (cyc : Int) (w : World) (hB : B ≤ w.heap.size) (hr : Reads w B 5 A f.rides.length (bthCells f.rides)) (hn : f.rides.length ≤ 1000) (hrr : r < f.rides.length) (hc : w.cell? ⟨gc, 0, none⟩ = some (.int .i64 cyc)) (hlc : gc < w.heap.size) :
    Calls Try.prog 71 #[eveV f A c, .int .i64 (r : Int), .func (.func 74) #[] #[.pointer (some ⟨gc, 0, none⟩)]] w (ChTo w (f.cyc r cyc)) := by
  obtain ⟨W, hW⟩ : ∃ W, W = (w.alloc (.cells #[.slice A f.rides.length c, .int .i64 f.walk] 24)).alloc (.cells #[.slice none 0 0, .int .i64 0] 24) := ⟨_, rfl⟩
  have bW : Below w.heap.size w W := by subst hW; exact ((Below.refl _ _).alloc (Nat.le_refl _) _).alloc (by simp) _
  have r0 : Row W w.heap.size 24 [.slice A f.rides.length c, .int .i64 f.walk] := by subst hW; exact (Row.new w _ _).alloc _
  have r1 : Row W (w.heap.size + 1) 24 [.slice none 0 0, .int .i64 0] := by subst hW; rw [show w.heap.size + 1 = (w.alloc (.cells #[.slice A f.rides.length c, .int .i64 f.walk] 24)).heap.size by rw [World.size_alloc]]; exact Row.new _ _ _
  have x0 : W.cell? ⟨w.heap.size, 0, none⟩ = some (.slice A f.rides.length c) := r0.cell (j := 0) (by simp)
  have z0 := r0.lt
  obtain ⟨b, o, hA, hb, -⟩ := hr.2 (by omega)
  subst hA
  have HCL := Lib.hid (clone_b f.rides b o c B W (Nat.le_trans hB bW.size) (hr.below (bW.mono hB)) (by omega) hn)
  have HR0 := Lib.hid r0
  have HR1 := Lib.hid r1
  have HBW := Lib.hid bW
  unfold eveV
  clear hr r0 r1
  go_enter Try.func71, Try.ntmps71
  go_upto_region 1 with (fail)
  rw [← hW]
  clear hW bW
  go_upto_region 2 with (go_at_call 87; refine HCL.out.mono ?_; rintro e w1 ⟨A1, c1, rfl, ho1, hb1⟩; have rr := HR0.out.below hb1 z0; have k0 : w1.cell? ⟨w.heap.size, 0, none⟩ = some (.slice (some ⟨b, o, none⟩) f.rides.length c) := rr.cell (j := 0) (by simp); have f0 := rr.frozen 0; have lr := rr.lt; have RR := Lib.hid rr; clear rr)
  obtain ⟨g, cap, e, hg, hlt⟩ := World.ownsRow.form ho1 (by omega)
  injection e with e1 _ e2
  subst e1 e2
  have bB := HBW.out.trans (hb1.mono HBW.out.size)
  have rG : Row w1 g 47 (bthCells f.rides) := (Row.of_own ho1).1
  have rQ := HR1.out.below hb1 HR1.out.lt
  obtain ⟨Y, hY⟩ : ∃ Y, Y = w1.setCell ⟨w.heap.size, 0, none⟩ (.slice (some ⟨g, 0, none⟩) f.rides.length c1) := ⟨_, rfl⟩
  have bY : Below w.heap.size w Y := by subst hY; exact bB.setCell (p := ⟨w.heap.size, 0, none⟩) (Nat.le_refl _) _
  have rF : Row Y w.heap.size 24 [.slice (some ⟨g, 0, none⟩) f.rides.length c1, .int .i64 f.walk] := by subst hY; exact RR.out.set 0 _
  have rY : Row Y g 47 (bthCells f.rides) := by subst hY; exact rG.far (p := ⟨w.heap.size, 0, none⟩) (by show g ≠ w.heap.size; omega) _
  have rQY : Row Y (w.heap.size + 1) 24 [.slice none 0 0, .int .i64 0] := by subst hY; exact rQ.far (p := ⟨w.heap.size, 0, none⟩) (by show w.heap.size + 1 ≠ w.heap.size; omega) _
  rw [← hY]
  have hcY := (bY.cell (p := ⟨gc, 0, none⟩) hlc).trans hc
  have hlY : gc < Y.heap.size := Nat.lt_of_lt_of_le hlc bY.size
  have hlen := bth_len f.rides
  have hat := bthCells_at f.rides r hrr 2 (by omega)
  have hgc : Y.cell? ⟨g, r * 5 + 2, none⟩ = some (.int .i64 (f.rides.getD r default).cycle) := by
    rw [rY.cell (j := r * 5 + 2) (by omega), hat]
    rfl
  have HST := Lib.hid (setCycle_any g (r * 5) gc cyc (f.rides.getD r default).cycle Y hcY hlY hgc (rY.frozen _) rY.lt)
  have y0 : Y.cell? ⟨w.heap.size, 0, none⟩ = some (.slice (some ⟨g, 0, none⟩) f.rides.length c1) := rF.cell (j := 0) (by simp)
  have lF := rF.lt
  have lG := rY.lt
  have ri0 : ¬ (r : Int) < 0 := by omega
  have ri1 : (r : Int) < (f.rides.length : Int) := by omega
  have rGY := rY.set (r * 5 + 2) (.int .i64 cyc)
  rw [cyc_cells f hrr] at rGY
  have rFY := rF.far (p := ⟨g, r * 5 + 2, none⟩) (by show w.heap.size ≠ g; omega) (.int .i64 cyc)
  have rQZ := rQY.far (p := ⟨g, r * 5 + 2, none⟩) (by show w.heap.size + 1 ≠ g; have := HR1.out.lt; omega) (.int .i64 cyc)
  have bZ := bY.setCell (p := ⟨g, r * 5 + 2, none⟩) (by show w.heap.size ≤ g; omega) (.int .i64 cyc)
  have HGY := Lib.hid rGY
  have HFY := Lib.hid rFY
  have HQZ := Lib.hid rQZ
  have HBZ := Lib.hid bZ
  have HG := Lib.hid hg
  clear k0 f0 lr ho1 hb1 bB rG rQ hY bY rF rY rQY hcY hlY hlen hat hgc rGY rFY rQZ bZ RR
  go_upto_region 3 with (go_at_call 74; refine HST.out.mono ?_; rintro e w3 ⟨rfl, rfl⟩)
  have gZ := HGY.out
  have fZ := HFY.out
  have qZ := HQZ.out
  have bZ := HBZ.out
  generalize Y.setCell ⟨g, r * 5 + 2, none⟩ (.int .i64 cyc) = Z at gZ fZ qZ bZ ⊢
  have u0 : Z.cell? ⟨w.heap.size, 0, none⟩ = some (.slice (some ⟨g, 0, none⟩) f.rides.length c1) := fZ.cell (j := 0) (by simp)
  have u1 : Z.cell? ⟨w.heap.size, 1, none⟩ = some (.int .i64 f.walk) := fZ.cell (j := 1) (by simp)
  have v0 : Z.cell? ⟨w.heap.size + 1, 0, none⟩ = some (.slice none 0 0) := qZ.cell (j := 0) (by simp)
  have v1 : Z.cell? ⟨w.heap.size + 1, 1, none⟩ = some (.int .i64 0) := qZ.cell (j := 1) (by simp)
  have lu := fZ.lt
  have lv := qZ.lt
  have fq := qZ.frozen
  have gV := ((gZ.far (p := ⟨w.heap.size + 1, 0, none⟩) (by show g ≠ w.heap.size + 1; have := HG.out; have := HR1.out.lt; omega) (.slice (some ⟨g, 0, none⟩) f.rides.length c1)).far (p := ⟨w.heap.size + 1, 1, none⟩) (by show g ≠ w.heap.size + 1; have := HG.out; have := HR1.out.lt; omega) (.int .i64 f.walk))
  have bV := (bZ.setCell (p := ⟨w.heap.size + 1, 0, none⟩) (by show w.heap.size ≤ w.heap.size + 1; omega) (.slice (some ⟨g, 0, none⟩) f.rides.length c1)).setCell (p := ⟨w.heap.size + 1, 1, none⟩) (by show w.heap.size ≤ w.heap.size + 1; omega) (.int .i64 f.walk)
  have HGV := Lib.hid gV
  have HBV := Lib.hid bV
  have HL : Hid ((bthCells (f.cyc r cyc).rides).length = (f.cyc r cyc).rides.length * 5 ∧ (f.cyc r cyc).rides.length = f.rides.length) := ⟨bth_len _, cyc_len f r cyc⟩
  clear gZ fZ qZ bZ gV bV HGY HFY HQZ HBZ HST y0
  go_wp2_with fail
  refine bodyPost_ret (v := .agg #[.slice (some ⟨g, 0, none⟩) f.rides.length c1, .int .i64 f.walk]) ?_ rfl ⟨some ⟨g, 0, none⟩, c1, ?_, HBV.out, HGV.out.reads HL.out.1 HGV.out.lt⟩
  · rw [results_cell rfl]
    go_simp
  · unfold eveV
    rw [HL.out.2]
    rfl
end Go.Proofs.Ytijbhcdnbaaobaa
/- Contracts of queue's less and bestCycle. Conditions: a valid evening and groups that read as data; cycles within the bounds. -/
namespace Go.Proofs.Ytijbhcdnbaaobaa
open Go.RowKit

def lessP (s g s' g' : Int) : Bool := if g = 0 ∨ g' = 0 then decide (0 < g) else decide (s * g' < s' * g)
set_option maxRecDepth 100000 in
theorem less_any (s g s' g' : Int) (w : World) (h1 : 0 ≤ s ∧ s ≤ 100000000) (h2 : 0 ≤ g ∧ g ≤ 100000) (h3 : 0 ≤ s' ∧ s' ≤ 100000000) (h4 : 0 ≤ g' ∧ g' ≤ 100000) :
    Calls Try.prog 75 #[.agg #[.int .i64 s, .int .i64 g], .agg #[.int .i64 s', .int .i64 g']] w fun e w' => e = .returned (.bool (lessP s g s' g')) ∧ Below w.heap.size w w' := by
  have HB := Lib.hid (Below.refl w.heap.size w)
  have m1 := Int.mul_nonneg h1.1 h4.1
  have m2 := Int.mul_le_mul h1.2 h4.2 h4.1 (by omega)
  have m3 := Int.mul_nonneg h3.1 h2.1
  have m4 := Int.mul_le_mul h3.2 h2.2 h2.1 (by omega)
  have e1 : IntKind.i64.wrap (s * g') = s * g' := IntWalk.i64_in _ (by omega)
  have e2 : IntKind.i64.wrap (s' * g) = s' * g := IntWalk.i64_in _ (by omega)
  obtain ⟨c, hc⟩ : ∃ c, c = lessP s g s' g' := ⟨_, rfl⟩
  rw [← hc]
  have HC := Lib.hid hc
  clear hc m1 m2 m3 m4
  go_enter Try.func75, Try.ntmps75
  go_wp2_with fail
  all_goals
    go_ret
    refine ⟨?_, (HB.out.alloc (Nat.le_refl _) _).alloc (by rw [World.size_alloc]; omega) _⟩
    rw [HC.out]
    unfold lessP
  · rename_i h
    rw [if_pos (.inl h), h]
    rfl
  · rename_i h
    rw [if_pos (by simpa using h)]
    rfl
  · rename_i h
    rw [if_neg (by simpa using h)]
    rfl
/-- One more cycle is tried; best, and its wait. -/
def bcW (f : EveZ) (l : List GrpZ) (r : Nat) (c : Int) : Int × Int := (wS (szZ l) (eveS (f.cyc r c) l).visits, wG (szZ l) (eveS (f.cyc r c) l).visits)
def bcStep (f : EveZ) (l : List GrpZ) (r : Nat) (st : Int × Int × Int) (c : Int) : Int × Int × Int := if lessP (bcW f l r c).1 (bcW f l r c).2 st.2.1 st.2.2 = true then (c, bcW f l r c) else st
def bcGo (f : EveZ) (l : List GrpZ) (r : Nat) (low : Int) : Nat → Int × Int × Int
  | 0 => (0, 0, 0)
  | k + 1 => bcStep f l r (bcGo f l r low k) (low + (k : Int))
theorem cyc_eve {f : EveZ} (h : eveB f = true) {r : Nat} (hr : r < f.rides.length) {c : Int} (hc : 1 ≤ c ∧ c ≤ 100) : eveB (f.cyc r c) = true := by
  unfold eveB at h ⊢
  rw [cyc_len]
  simp only [Bool.and_eq_true, decide_eq_true_eq, List.all_eq_true] at h ⊢
  refine ⟨⟨h.1.1, fun b hb => ?_⟩, h.2⟩
  obtain ⟨i, hi, e⟩ := List.getElem_of_mem hb
  have hi' : i < f.rides.length := by rw [cyc_len] at hi; exact hi
  have h1 := cyc_at f hr c i
  rw [List.getD_eq_getElem?_getD, List.getElem?_eq_getElem hi, Option.getD_some, e] at h1
  rw [h1]
  split
  · have h2 := h.1.2 _ (getD_mem' hr)
    unfold bthB at h2 ⊢
    simp only [Bool.and_eq_true] at h2 ⊢
    refine ⟨⟨h2.1.1, ?_⟩, h2.2⟩
    unfold inB
    simp only [Bool.and_eq_true, decide_eq_true_eq]
    exact hc
  · exact h.1.2 _ (getD_mem' hi')
theorem cyc_check {f : EveZ} {l : List GrpZ} (h : checkQ f l = 0) {r : Nat} (hr : r < f.rides.length) {c : Int} (hc : 1 ≤ c ∧ c ≤ 100) : checkQ (f.cyc r c) l = 0 := by
  obtain ⟨h1, h2⟩ := checkQ_ok.1 h
  exact checkQ_ok.2 ⟨cyc_eve h1 hr hc, by rw [cyc_len]; exact h2⟩
theorem bcW_bd {f : EveZ} {l : List GrpZ} (h : checkQ f l = 0) {r : Nat} (hr : r < f.rides.length) {c : Int} (hc : 1 ≤ c ∧ c ≤ 100) : (0 ≤ (bcW f l r c).1 ∧ (bcW f l r c).1 ≤ 100000000) ∧ 0 ≤ (bcW f l r c).2 ∧ (bcW f l r c).2 ≤ 100000 := by
  have hw : WtOk l.length (szZ l) (eveS (f.cyc r c) l).visits := wt_ok (cyc_check h hr hc)
  have h1 := w_bd hw _ (Nat.le_refl _)
  rw [List.take_length] at h1
  have h2 := hw.len
  unfold bcW
  exact ⟨⟨h1.1.1, by omega⟩, h1.2.1, by omega⟩
theorem bcGo_bd {f : EveZ} {l : List GrpZ} (h : checkQ f l = 0) {r : Nat} (hr : r < f.rides.length) {low : Int} (h1 : 1 ≤ low) : ∀ k : Nat, low + (k : Int) ≤ 101 → (0 ≤ (bcGo f l r low k).2.1 ∧ (bcGo f l r low k).2.1 ≤ 100000000) ∧ (0 ≤ (bcGo f l r low k).2.2 ∧ (bcGo f l r low k).2.2 ≤ 100000) ∧ ((bcGo f l r low k).1 = 0 ↔ (bcGo f l r low k).2.2 = 0) := by
  intro k
  induction k with
  | zero => intro _; exact ⟨⟨Int.le_refl _, by show (0 : Int) ≤ _; omega⟩, ⟨Int.le_refl _, by show (0 : Int) ≤ _; omega⟩, Iff.rfl⟩
  | succ k ih =>
    intro hk
    have h2 := ih (by omega)
    have h3 := bcW_bd h hr (c := low + (k : Int)) (by omega)
    rw [show bcGo f l r low (k + 1) = bcStep f l r (bcGo f l r low k) (low + (k : Int)) from rfl]
    unfold bcStep
    split
    · rename_i hl
      refine ⟨h3.1, h3.2, ?_⟩
      have hg : (bcW f l r (low + (k : Int))).2 ≠ 0 := fun e => by
        unfold lessP at hl
        rw [if_pos (.inl e), e] at hl
        simp at hl
      constructor
      · intro e
        have e : low + (k : Int) = 0 := e
        omega
      · intro e
        exact absurd e hg
    · exact h2
theorem eve_size {f : EveZ} {l : List GrpZ} (hc : checkQ f l = 0) : (eveS f l).groups.length = l.length ∧ ∀ i, i < (eveS f l).groups.length → ((eveS f l).grp i).g.size = szZ l i := by
  obtain ⟨n1, -, -, -⟩ := eve_lens hc
  refine ⟨n1, fun i hi => ?_⟩
  obtain ⟨h1, h2⟩ := checkQ_ok.1 hc
  have g := grp_valid h2
  have hb := play_his f l (fun x hx => (g x hx).2.2.2.1.1) (fun x hx => (g x hx).2.2.2.2.2)
  rw [fix_grp hb.1.fix, start_grp f l (by omega)]
  rfl
set_option maxRecDepth 100000 in
set_option maxHeartbeats 2000000 in
theorem bestCycle_any (f : EveZ) (l : List GrpZ) (A A2 : Option Addr) (c c2 B r : Nat) (rs : List (Option Addr × Nat)) (low high : Int) (n : Nat) (w : World) (hB : B ≤ w.heap.size) (hr : Reads w B 5 A f.rides.length (bthCells f.rides)) (hl : GrpsIn w B A2 rs l) (hc : checkQ f l = 0) (hrr : r < f.rides.length) (h1 : 1 ≤ low) (h2 : high ≤ 100) (hn : low + (n : Int) = high + 1) :
    Calls Try.prog 62 #[eveV f A c, .slice A2 l.length c2, .int .i64 (r : Int), .int .i64 low, .int .i64 high] w fun e w' => e = .returned (.tuple #[.int .i64 (bcGo f l r low n).1, .bool (decide (0 < (bcGo f l r low n).2.2))]) ∧ Below w.heap.size w w' := by
  have n8 := (eve_lens8 hc).1
  have HR : Hid (∀ X, Below w.heap.size w X → Reads X B 5 A f.rides.length (bthCells f.rides) ∧ GrpsIn X B A2 rs l) := fun X hX => ⟨hr.below (hX.mono hB), hl.below (hX.mono hB)⟩
  have HC : Hid (checkQ f l = 0) := hc
  obtain ⟨W, hW⟩ : ∃ W, W = ((w.alloc (.cells #[.slice A f.rides.length c, .int .i64 f.walk] 24)).alloc (.cells #[.int .i64 0, .int .i64 0] 92)).alloc (.cells #[.int .i64 low] 3) := ⟨_, rfl⟩
  have bW : Below w.heap.size w W := by subst hW; exact (((Below.refl _ _).alloc (Nat.le_refl _) _).alloc (by simp) _).alloc (by simp; omega) _
  have r0 : Row W w.heap.size 24 [.slice A f.rides.length c, .int .i64 f.walk] := by subst hW; exact ((Row.new w _ _).alloc _).alloc _
  have r1 : Row W (w.heap.size + 1) 92 [.int .i64 0, .int .i64 0] := by
    subst hW
    have := Row.new (w.alloc (.cells #[.slice A f.rides.length c, .int .i64 f.walk] 24)) 92 #[.int .i64 0, .int .i64 0]
    rw [World.size_alloc] at this
    exact this.alloc _
  have r2 : Row W (w.heap.size + 1 + 1) 3 [.int .i64 low] := by
    subst hW
    have := Row.new ((w.alloc (.cells #[.slice A f.rides.length c, .int .i64 f.walk] 24)).alloc (.cells #[.int .i64 0, .int .i64 0] 92)) 3 #[.int .i64 low]
    rw [World.size_alloc, World.size_alloc] at this
    exact this
  have HBW := Lib.hid bW
  have HR0 := Lib.hid r0
  have HR1 := Lib.hid r1
  have HR2 := Lib.hid r2
  unfold eveV
  clear hr hl hc bW r0 r1 r2
  go_enter Try.func62, Try.ntmps62
  go_wp2_with fail
  rw [← hW]
  clear hW
  go_loopw [10, 13] (fun b p wr => ∃ k gc : Nat, k ≤ n ∧ p = .pointer (some ⟨gc, 0, none⟩) ∧ b = .int .i64 (bcGo f l r low k).1 ∧ Below w.heap.size w wr ∧ Row wr w.heap.size 24 [.slice A f.rides.length c, .int .i64 f.walk] ∧ Row wr (w.heap.size + 1) 92 [.int .i64 (bcGo f l r low k).2.1, .int .i64 (bcGo f l r low k).2.2] ∧ w.heap.size ≤ gc ∧ Row wr gc 3 [.int .i64 (low + (k : Int))]) (fun _ p wr => (match p with | .pointer (some a) => (match wr.cell? a with | some v => (high + 1 - intOf v).toNat | none => 0) | _ => 0))
  case atStart => exact ⟨0, w.heap.size + 1 + 1, Nat.zero_le _, rfl, rfl, HBW.out, HR0.out, HR1.out, by omega, by rw [show low + ((0 : Nat) : Int) = low by omega]; exact HR2.out⟩
  case round =>
    obtain ⟨k, gc, hk, rfl, rfl, hbel, q0, q1, hgc, q2⟩ := hrel
    have hcy : 1 ≤ low + (k : Int) := by omega
    have x2 : wr.cell? ⟨gc, 0, none⟩ = some (.int .i64 (low + (k : Int))) := q2.cell (j := 0) (by simp)
    have l2 := q2.lt
    by_cases hlt : k < n
    · obtain ⟨cy, hcyy⟩ : ∃ cy, cy = low + (k : Int) := ⟨_, rfl⟩
      rw [← hcyy] at x2 hcy
      have hcyh : cy ≤ high := by omega
      have hcb : 1 ≤ cy ∧ cy ≤ 100 := by omega
      have hch := cyc_check HC.out hrr hcb
      obtain ⟨e1, e2⟩ := checkQ_ok.1 hch
      have x0 : wr.cell? ⟨w.heap.size, 0, none⟩ = some (.slice A f.rides.length c) := q0.cell (j := 0) (by simp)
      have x1 : wr.cell? ⟨w.heap.size, 1, none⟩ = some (.int .i64 f.walk) := q0.cell (j := 1) (by simp)
      have l0 := q0.lt
      have HCH := Lib.hid (changed_any f A c B r gc cy wr (Nat.le_trans hB hbel.size) (HR.out wr hbel).1 (by omega) hrr x2 l2)
      have HPL : Hid (∀ (X : World) (A4 : Option Addr) (c4 : Nat), Below wr.heap.size wr X → Reads X X.heap.size 5 A4 (f.cyc r cy).rides.length (bthCells (f.cyc r cy).rides) → Calls Try.prog 63 #[eveV (f.cyc r cy) A4 c4, .slice A2 l.length c2] X (PlayTo X (eveS (f.cyc r cy) l))) := fun X A4 c4 hX h4 => play_any (f.cyc r cy) l A4 A2 c4 c2 X.heap.size rs X (Nat.le_refl _) h4 ((HR.out X (hbel.trans (hX.mono hbel.size))).2.more (Nat.le_trans hB (Nat.le_trans hbel.size hX.size))) e1 e2
      have Q0 := Lib.hid q0
      have Q1 := Lib.hid q1
      have Q2 := Lib.hid q2
      have HBl := Lib.hid hbel
      have HCY := Lib.hid hcyy
      have HCH2 := Lib.hid hch
      unfold eveV at HCH HPL
      clear q0 q1 q2 hbel hcyy hch e1 e2
      go_upto_region 6 with (first
        | (go_at_call 71; refine HCH.out.mono ?_; rintro e w2 ⟨A4, c4, rfl, hb2, hr4⟩; have HP2 := Lib.hid (HPL.out w2 A4 c4 hb2 hr4); have HB2 := Lib.hid hb2; clear hb2 hr4; unfold eveV)
        | (go_at_call 63; refine HP2.out.mono ?_; rintro e w3 ⟨E, rfl, hE0, hb3, hE⟩; have HB3 := Lib.hid (HB2.out.trans (hb3.mono HB2.out.size)); have HE := Lib.hid hE; clear hb3 hE hE0))
      obtain ⟨n1, hgz⟩ := eve_size HCH2.out
      have hwt : WtOk (eveS (f.cyc r cy) l).groups.length (szZ l) (eveS (f.cyc r cy) l).visits := by rw [n1]; exact wt_ok HCH2.out
      have hww := waited_any HE.out hgz hwt
      obtain ⟨⟨b1, b2⟩, b3, b4⟩ := bcW_bd HC.out hrr hcb
      obtain ⟨⟨d1, d2⟩, ⟨d3, d4⟩, -⟩ := bcGo_bd HC.out hrr h1 k (by omega)
      have hst : bcGo f l r low (k + 1) = bcStep f l r (bcGo f l r low k) cy := by rw [HCY.out]; rfl
      unfold bcStep at hst
      have ha : (bcW f l r cy).1 = wS (szZ l) (eveS (f.cyc r cy) l).visits := rfl
      have hb' : (bcW f l r cy).2 = wG (szZ l) (eveS (f.cyc r cy) l).visits := rfl
      rw [← ha, ← hb'] at hww
      generalize hpw : bcW f l r cy = pw at *
      obtain ⟨pa, pb⟩ := pw
      generalize hpg : bcGo f l r low k = pg at *
      obtain ⟨bb, sg, gg⟩ := pg
      have HST := Lib.hid hst
      have HWW := Lib.hid hww
      clear hst hww ha hb' hgz hwt n1
      simp only at b1 b2 b3 b4 d1 d2 d3 d4 ⊢
      go_upto_region 7 with (go_at_call 55; refine HWW.out.mono ?_; rintro e w4 ⟨rfl, hb4⟩)
      have HXR := Lib.hid x2
      have bX := (HB3.out.trans (hb4.mono HB3.out.size)).alloc (HB3.out.trans (hb4.mono HB3.out.size)).size (.cells #[.int .i64 pa, .int .i64 pb] 92)
      have rX := Row.new w4 92 #[.int .i64 pa, .int .i64 pb]
      have g4 := (HB3.out.trans (hb4.mono HB3.out.size)).size
      generalize w4.alloc (.cells #[.int .i64 pa, .int .i64 pb] 92) = X at bX rX ⊢
      generalize w4.heap.size = g5 at rX g4 ⊢
      have q0 := Q0.out.below bX l0
      have q1 := Q1.out.below bX Q1.out.lt
      have q2 := Q2.out.below bX l2
      have bwX := HBl.out.trans (bX.mono HBl.out.size)
      have p0 : X.cell? ⟨g5, 0, none⟩ = some (.int .i64 pa) := rX.cell (j := 0) (by simp)
      have p1 : X.cell? ⟨g5, 1, none⟩ = some (.int .i64 pb) := rX.cell (j := 1) (by simp)
      have s0 : X.cell? ⟨w.heap.size + 1, 0, none⟩ = some (.int .i64 sg) := q1.cell (j := 0) (by simp)
      have s1 : X.cell? ⟨w.heap.size + 1, 1, none⟩ = some (.int .i64 gg) := q1.cell (j := 1) (by simp)
      have lg5 := rX.lt
      have lg1 := q1.lt
      have HLE := Lib.hid (less_any pa pb sg gg X ⟨b1, b2⟩ ⟨b3, b4⟩ ⟨d1, d2⟩ ⟨d3, d4⟩)
      have Y0 := Lib.hid q0
      have Y1 := Lib.hid q1
      have Y2 := Lib.hid q2
      have YX := Lib.hid rX
      have BX := Lib.hid bwX
      clear hb4 bX rX q0 q1 q2 bwX x0 x1 x2 b1 b2 b3 b4 d1 d2 d3 d4 HCH HPL HP2 HB2 HB3 HE HWW Q0 Q1 Q2 HBl hpw hpg l0 l2
      cases hlp : lessP pa pb sg gg with
      | true =>
        rw [hlp] at HLE HST
        rw [if_pos rfl] at HST
        go_upto_region 8 with (go_at_call 75; refine HLE.out.mono ?_; rintro e y ⟨rfl, hy⟩)
        have q0 := Y0.out.below hy Y0.out.lt
        have q1 := Y1.out.below hy Y1.out.lt
        have q2 := Y2.out.below hy Y2.out.lt
        have rX := YX.out.below hy YX.out.lt
        have bY := BX.out.trans (hy.mono BX.out.size)
        have p0 : y.cell? ⟨g5, 0, none⟩ = some (.int .i64 pa) := rX.cell (j := 0) (by simp)
        have p1 : y.cell? ⟨g5, 1, none⟩ = some (.int .i64 pb) := rX.cell (j := 1) (by simp)
        have s0 : y.cell? ⟨w.heap.size + 1, 0, none⟩ = some (.int .i64 sg) := q1.cell (j := 0) (by simp)
        have s1 : y.cell? ⟨w.heap.size + 1, 1, none⟩ = some (.int .i64 gg) := q1.cell (j := 1) (by simp)
        have x2 : y.cell? ⟨gc, 0, none⟩ = some (.int .i64 cy) := by rw [HCY.out]; exact q2.cell (j := 0) (by simp)
        have fs := q1.frozen
        have ls := q1.lt
        have lx := rX.lt
        have l2 := q2.lt
        clear hy
        refine wp_tail 3 (by kernel_rfl) (by kernel_rfl) ?_
        simp only [List.take_succ_cons, List.take_zero, List.drop_succ_cons, List.drop_zero]
        repeat still_step
        refine wpStill_nil ?_
        go_upto_region 9 with fail
        have v0 := ((q0.drewN 1).far (p := ⟨w.heap.size + 1, 0, none⟩) (by show w.heap.size ≠ w.heap.size + 1; omega) (.int .i64 pa)).far (p := ⟨w.heap.size + 1, 1, none⟩) (by show w.heap.size ≠ w.heap.size + 1; omega) (.int .i64 pb)
        have v1 := ((q1.drewN 1).set 0 (.int .i64 pa)).set 1 (.int .i64 pb)
        have hgne : gc ≠ w.heap.size + 1 := q2.ty.ne q1.ty (by decide)
        have v2 := ((q2.drewN 1).far (p := ⟨w.heap.size + 1, 0, none⟩) hgne (.int .i64 pa)).far (p := ⟨w.heap.size + 1, 1, none⟩) hgne (.int .i64 pb)
        have bV := ((below_drewN bY 1).setCell (p := ⟨w.heap.size + 1, 0, none⟩) (by show w.heap.size ≤ w.heap.size + 1; omega) (.int .i64 pa)).setCell (p := ⟨w.heap.size + 1, 1, none⟩) (by show w.heap.size ≤ w.heap.size + 1; omega) (.int .i64 pb)
        generalize ((y.drewN 1).setCell ⟨w.heap.size + 1, 0, none⟩ (.int .i64 pa)).setCell ⟨w.heap.size + 1, 1, none⟩ (.int .i64 pb) = V at v0 v1 v2 bV ⊢
        clear q0 q1 q2 rX bY p0 p1 s0 s1 x2 fs ls lx l2
        have HV0 := Lib.hid v0
        have HV1 := Lib.hid v1
        have HV2 := Lib.hid v2
        have HBV := Lib.hid bV
        have x2 : V.cell? ⟨gc, 0, none⟩ = some (.int .i64 cy) := by rw [HCY.out]; exact v2.cell (j := 0) (by simp)
        have l2 := v2.lt
        have ec : IntKind.i64.wrap (cy + 1) = cy + 1 := IntWalk.i64_in _ (by omega)
        have ek : low + ((k + 1 : Nat) : Int) = cy + 1 := by have := HCY.out; omega
        have HEK := Lib.hid ek
        clear v0 v1 v2 bV ek
        go_wp2_with fail
        have rN := Row.new V 3 #[.int .i64 (cy + 1)]
        have bN := HBV.out.alloc HBV.out.size (.cells #[.int .i64 (cy + 1)] 3)
        have n0 := HV0.out.alloc (.cells #[.int .i64 (cy + 1)] 3)
        have n1 := HV1.out.alloc (.cells #[.int .i64 (cy + 1)] 3)
        have HRN := Lib.hid rN
        have HBN := Lib.hid bN
        have HN0 := Lib.hid n0
        have HN1 := Lib.hid n1
        clear rN bN n0 n1
        go_roundw
        case rel => exact ⟨k + 1, V.heap.size, by omega, rfl, by rw [HST.out], HBN.out, HN0.out, by rw [HST.out]; exact HN1.out, HBV.out.size, by rw [HEK.out]; exact HRN.out⟩
        case measure =>
          have m1 : (V.alloc (.cells #[.int .i64 (cy + 1)] 3)).cell? ⟨V.heap.size, 0, none⟩ = some (.int .i64 (cy + 1)) := HRN.out.cell (j := 0) (by simp)
          have m2 := HXR.out
          simp only [m1, m2, intOf]
          omega
      | false =>
        rw [hlp] at HLE HST
        rw [if_neg (by simp)] at HST
        go_upto_region 9 with (go_at_call 75; refine HLE.out.mono ?_; rintro e V ⟨rfl, hy⟩)
        have v0 := Y0.out.below hy Y0.out.lt
        have v1 := Y1.out.below hy Y1.out.lt
        have v2 := Y2.out.below hy Y2.out.lt
        have bV := BX.out.trans (hy.mono BX.out.size)
        clear hy
        have HV0 := Lib.hid v0
        have HV1 := Lib.hid v1
        have HV2 := Lib.hid v2
        have HBV := Lib.hid bV
        have x2 : V.cell? ⟨gc, 0, none⟩ = some (.int .i64 cy) := by rw [HCY.out]; exact v2.cell (j := 0) (by simp)
        have l2 := v2.lt
        have ec : IntKind.i64.wrap (cy + 1) = cy + 1 := IntWalk.i64_in _ (by omega)
        have ek : low + ((k + 1 : Nat) : Int) = cy + 1 := by have := HCY.out; omega
        have HEK := Lib.hid ek
        clear v0 v1 v2 bV ek
        go_wp2_with fail
        have rN := Row.new V 3 #[.int .i64 (cy + 1)]
        have bN := HBV.out.alloc HBV.out.size (.cells #[.int .i64 (cy + 1)] 3)
        have n0 := HV0.out.alloc (.cells #[.int .i64 (cy + 1)] 3)
        have n1 := HV1.out.alloc (.cells #[.int .i64 (cy + 1)] 3)
        have HRN := Lib.hid rN
        have HBN := Lib.hid bN
        have HN0 := Lib.hid n0
        have HN1 := Lib.hid n1
        clear rN bN n0 n1
        go_roundw
        case rel => exact ⟨k + 1, V.heap.size, by omega, rfl, by rw [HST.out], HBN.out, HN0.out, by rw [HST.out]; exact HN1.out, HBV.out.size, by rw [HEK.out]; exact HRN.out⟩
        case measure =>
          have m1 : (V.alloc (.cells #[.int .i64 (cy + 1)] 3)).cell? ⟨V.heap.size, 0, none⟩ = some (.int .i64 (cy + 1)) := HRN.out.cell (j := 0) (by simp)
          have m2 := HXR.out
          simp only [m1, m2, intOf]
          omega
    · have hkn : k = n := by omega
      have hge : ¬ low + (k : Int) ≤ high := by omega
      have HKN := Lib.hid hkn
      have HBl := Lib.hid hbel
      have y1 : wr.cell? ⟨w.heap.size + 1, 1, none⟩ = some (.int .i64 (bcGo f l r low k).2.2) := q1.cell (j := 1) (by simp)
      have l1 := q1.lt
      clear hkn hbel q0 q1 q2
      go_wp2_with fail
      go_quiet (fail)
      go_wp2_with fail
      go_ret2
      exact ⟨by rw [HKN.out]; rfl, below_drewN HBl.out _⟩
end Go.Proofs.Ytijbhcdnbaaobaa
namespace Go.Proofs.Ytijbhcdnbaaobaa
open Go.RowKit

def vcB (low high : Int) : Bool := (inB low 1 100 && inB high 1 100) && inB (high - low) 0 20
set_option maxRecDepth 100000 in
theorem validCycles_any (low high : Int) (w : World) : Calls Try.prog 61 #[.int .i64 low, .int .i64 high] w fun e w' => e = .returned (.bool (vcB low high)) ∧ Below w.heap.size w w' := by
  have HB := Lib.hid (Below.refl w.heap.size w)
  have H2 : Hid (∀ (X : World) (c : Nat), Calls Try.prog 58 #[.int .i64 1, .int .i64 100, .slice (some ⟨X.heap.size, 0, none⟩) 2 c] (X.alloc (.cells #[.int .i64 low, .int .i64 high] 3)) fun e w' => e = .returned (.bool (inB low 1 100 && inB high 1 100)) ∧ X.alloc (.cells #[.int .i64 low, .int .i64 high] 3) = w') := fun X c => qall_two _ _ c low high 1 100 (Row.new X 3 #[.int .i64 low, .int .i64 high])
  have H1 : Hid (∀ (c : Nat), Calls Try.prog 58 #[.int .i64 0, .int .i64 20, .slice (some ⟨w.heap.size + 1, 0, none⟩) 1 c] ((w.alloc (.cells #[.int .i64 low, .int .i64 high] 3)).alloc (.cells #[.int .i64 (high - low)] 3)) fun e w' => e = .returned (.bool (inB (high - low) 0 20)) ∧ (w.alloc (.cells #[.int .i64 low, .int .i64 high] 3)).alloc (.cells #[.int .i64 (high - low)] 3) = w') := fun c => by
    have hr := Row.new (w.alloc (.cells #[.int .i64 low, .int .i64 high] 3)) 3 #[.int .i64 (high - low)]
    rw [World.size_alloc] at hr
    exact qall_one _ _ c (high - low) 0 20 hr
  cases hb : (inB low 1 100 && inB high 1 100) with
  | false =>
    have hv : vcB low high = false := by unfold vcB; rw [hb]; rfl
    rw [hv]
    rw [hb] at H2
    clear hb hv
    go_enter Try.func61, Try.ntmps61
    go_wp2_with (go_at_call 58; refine (H2.out _ _).mono ?_; rintro e w' ⟨rfl, rfl⟩)
    go_ret
    exact ⟨rfl, HB.out.alloc (Nat.le_refl _) _⟩
  | true =>
    have hv : vcB low high = inB (high - low) 0 20 := by unfold vcB; rw [hb]; rfl
    rw [hv]
    rw [hb] at H2
    simp only [Bool.and_eq_true] at hb
    have b1 := inB_le hb.1
    have b2 := inB_le hb.2
    have ew : IntKind.i64.wrap (high - low) = high - low := IntWalk.i64_in _ (by omega)
    clear hb hv b1 b2
    go_enter Try.func61, Try.ntmps61
    go_wp2_with (first | (go_at_call 58; refine (H2.out _ _).mono ?_; rintro e w' ⟨rfl, rfl⟩; clear H2) | (go_at_call 58; refine (H1.out _).mono ?_; rintro e w' ⟨rfl, rfl⟩))
    go_ret
    exact ⟨rfl, (HB.out.alloc (Nat.le_refl _) _).alloc (by rw [World.size_alloc]; omega) _⟩
/-- What Cycle answers. -/
def cyOk (f : EveZ) (ride low high : Int) : Bool := inB ride 0 ((f.rides.length : Int) - 1) && vcB low high
def cyR (f : EveZ) (l : List GrpZ) (ride low high : Int) : Int × Int := if checkQ f l ≠ 0 then (0, checkQ f l) else if cyOk f ride low high = false then (0, 1) else if 0 < (bcGo f l ride.toNat low (high - low + 1).toNat).2.2 then ((bcGo f l ride.toNat low (high - low + 1).toNat).1, 0) else (0, 3)
theorem cyOk_get {f : EveZ} {ride low high : Int} (h : cyOk f ride low high = true) : ((0 ≤ ride ∧ ride.toNat < f.rides.length) ∧ ride = (ride.toNat : Int)) ∧ 1 ≤ low ∧ high ≤ 100 ∧ low ≤ high ∧ high ≤ low + 20 ∧ low + ((high - low + 1).toNat : Int) = high + 1 := by
  unfold cyOk vcB at h
  simp only [Bool.and_eq_true] at h
  have h1 := inB_le h.1
  have h2 := inB_le h.2.1.1
  have h3 := inB_le h.2.1.2
  have h4 := inB_le h.2.2
  omega
set_option maxRecDepth 100000 in
set_option maxHeartbeats 1000000 in
theorem Cycle_any (f : EveZ) (l : List GrpZ) (A A2 : Option Addr) (c c2 B : Nat) (rs : List (Option Addr × Nat)) (ride low high : Int) (w : World) (hB : B ≤ w.heap.size) (hr : Reads w B 5 A f.rides.length (bthCells f.rides)) (hn : f.rides.length ≤ maxLen) (hl : GrpsIn w B A2 rs l) :
    Calls Try.prog 38 #[eveV f A c, .slice A2 l.length c2, .int .i64 ride, .int .i64 low, .int .i64 high] w fun e w' => e = .returned (.tuple #[.int .i64 (cyR f l ride low high).1, .int .i64 (cyR f l ride low high).2]) ∧ Below w.heap.size w w' := by
  obtain ⟨W, hW⟩ : ∃ W, W = w.alloc (.cells #[.slice A f.rides.length c, .int .i64 f.walk] 24) := ⟨_, rfl⟩
  have bW : Below w.heap.size w W := by subst hW; exact (Below.refl _ _).alloc (Nat.le_refl _) _
  have r0 : Row W w.heap.size 24 [.slice A f.rides.length c, .int .i64 f.walk] := by subst hW; exact Row.new w _ _
  have q0 : W.cell? ⟨w.heap.size, 0, none⟩ = some (.slice A f.rides.length c) := r0.cell (j := 0) (by simp)
  have q1 : W.cell? ⟨w.heap.size, 1, none⟩ = some (.int .i64 f.walk) := r0.cell (j := 1) (by simp)
  have lW : w.heap.size < W.heap.size := r0.lt
  have HBW := Lib.hid bW
  have HR0 := Lib.hid r0
  have hBW := Nat.le_trans hB bW.size
  have HR : Hid (∀ X, Below w.heap.size w X → Reads X B 5 A f.rides.length (bthCells f.rides) ∧ GrpsIn X B A2 rs l) := fun X hX => ⟨hr.below (hX.mono hB), hl.below (hX.mono hB)⟩
  have HC := Lib.hid (Check_any f l A A2 c c2 B rs W hBW (hr.below (bW.mono hB)) hn (hl.below (bW.mono hB)))
  by_cases hc : checkQ f l = 0
  · have n8 := (eve_lens8 hc).1
    rw [hc] at HC
    have H1 : Hid (∀ (X : World) (c : Nat), Calls Try.prog 58 #[.int .i64 0, .int .i64 ((f.rides.length : Int) - 1), .slice (some ⟨X.heap.size, 0, none⟩) 1 c] (X.alloc (.cells #[.int .i64 ride] 3)) fun e w' => e = .returned (.bool (inB ride 0 ((f.rides.length : Int) - 1))) ∧ X.alloc (.cells #[.int .i64 ride] 3) = w') := fun X c => qall_one _ _ c ride 0 _ (Row.new X 3 #[.int .i64 ride])
    have H2 : Hid (∀ X : World, Calls Try.prog 61 #[.int .i64 low, .int .i64 high] X fun e w' => e = .returned (.bool (vcB low high)) ∧ Below X.heap.size X w') := fun X => validCycles_any low high X
    have ew : IntKind.i64.wrap ((f.rides.length : Int) - 1) = (f.rides.length : Int) - 1 := IntWalk.i64_in _ (by omega)
    have HCC : Hid (checkQ f l = 0) := hc
    unfold eveV at HC ⊢
    clear hr hl hn r0 bW hc
    go_enter Try.func38, Try.ntmps38
    go_upto_region 1 with (fail)
    rw [← hW]
    clear hW
    go_upto_region 4 with (go_at_call 17; refine HC.out.mono ?_; rintro e w1 ⟨rfl, hb1⟩; have HB1 := Lib.hid hb1; clear hb1 HC)
    have r1 := HR0.out.below HB1.out HR0.out.lt
    have q0 : w1.cell? ⟨w.heap.size, 0, none⟩ = some (.slice A f.rides.length c) := r1.cell (j := 0) (by simp)
    have q1 : w1.cell? ⟨w.heap.size, 1, none⟩ = some (.int .i64 f.walk) := r1.cell (j := 1) (by simp)
    have lW : w.heap.size < w1.heap.size := r1.lt
    have B1 := Lib.hid (HBW.out.trans (HB1.out.mono HBW.out.size))
    have R1 := Lib.hid r1
    clear r1 HB1 HR0 HBW
    cases hk : cyOk f ride low high with
    | false =>
      have HZ : Hid (cyR f l ride low high = (0, 1)) := by show _ = _; unfold cyR; rw [if_neg (by rw [HCC.out]; simp), if_pos hk]
      cases hi : inB ride 0 ((f.rides.length : Int) - 1) with
      | false =>
        rw [hi] at H1
        clear hk hi
        go_wp2_with (go_at_call 58; refine (H1.out _ _).mono ?_; rintro e w' ⟨rfl, rfl⟩)
        go_ret2
        exact ⟨by rw [HZ.out]; rfl, B1.out.alloc B1.out.size _⟩
      | true =>
        have hv : vcB low high = false := by unfold cyOk at hk; rw [hi] at hk; simpa using hk
        rw [hi] at H1
        rw [hv] at H2
        clear hk hi hv
        go_wp2_with (first | (go_at_call 58; refine (H1.out _ _).mono ?_; rintro e w' ⟨rfl, rfl⟩) | (go_at_call 61; refine (H2.out _).mono ?_; rintro e w' ⟨rfl, hb2⟩; have HB2 := Lib.hid ((B1.out.alloc B1.out.size (.cells #[.int .i64 ride] 3)).trans (hb2.mono (B1.out.alloc B1.out.size (.cells #[.int .i64 ride] 3)).size)); clear hb2))
        go_ret2
        exact ⟨by rw [HZ.out]; rfl, HB2.out⟩
    | true =>
      obtain ⟨⟨⟨k0, k1⟩, k2⟩, k3, k4, k5, k6, k7⟩ := cyOk_get hk
      have hk2 := hk
      unfold cyOk at hk2
      simp only [Bool.and_eq_true] at hk2
      rw [hk2.1] at H1
      rw [hk2.2] at H2
      have HZ : Hid (cyR f l ride low high = if 0 < (bcGo f l ride.toNat low (high - low + 1).toNat).2.2 then ((bcGo f l ride.toNat low (high - low + 1).toNat).1, 0) else (0, 3)) := by show _ = _; unfold cyR; rw [if_neg (by rw [HCC.out]; simp), if_neg (by rw [hk]; simp)]
      have HBC : Hid (∀ X, Below w.heap.size w X → Calls Try.prog 62 #[eveV f A c, .slice A2 l.length c2, .int .i64 ride, .int .i64 low, .int .i64 high] X fun e w' => e = .returned (.tuple #[.int .i64 (bcGo f l ride.toNat low (high - low + 1).toNat).1, .bool (decide (0 < (bcGo f l ride.toNat low (high - low + 1).toNat).2.2))]) ∧ Below X.heap.size X w') := fun X hX => by
        have h := bestCycle_any f l A A2 c c2 B ride.toNat rs low high (high - low + 1).toNat X (Nat.le_trans hB hX.size) (HR.out X hX).1 (HR.out X hX).2 HCC.out k1 k3 k4 k7
        rw [← k2] at h
        exact h
      generalize bcGo f l ride.toNat low (high - low + 1).toNat = st at HZ HBC
      obtain ⟨bb, ss, gg⟩ := st
      unfold eveV at HBC
      clear hk hk2 k0 k1 k2 k3 k4 k5 k6 k7
      go_upto_region 6 with (first | (go_at_call 58; refine (H1.out _ _).mono ?_; rintro e w' ⟨rfl, rfl⟩) | (go_at_call 61; refine (H2.out _).mono ?_; rintro e w3 ⟨rfl, hb2⟩; have HB2 := Lib.hid (hb2.trans (Below.refl _ _)); have BB := Lib.hid ((B1.out.alloc B1.out.size (.cells #[.int .i64 ride] 3)).trans (hb2.mono (B1.out.alloc B1.out.size (.cells #[.int .i64 ride] 3)).size)); have RR := Lib.hid ((R1.out.alloc (.cells #[.int .i64 ride] 3)).below hb2 (R1.out.alloc (.cells #[.int .i64 ride] 3)).lt); clear hb2))
      have r3 := RR.out
      have x0 : w3.cell? ⟨w.heap.size, 0, none⟩ = some (.slice A f.rides.length c) := r3.cell (j := 0) (by simp)
      have x1 : w3.cell? ⟨w.heap.size, 1, none⟩ = some (.int .i64 f.walk) := r3.cell (j := 1) (by simp)
      have l3 := r3.lt
      have HC3 := Lib.hid (HBC.out w3 BB.out)
      clear r3 HBC
      go_upto_region 7 with (go_at_call 62; refine HC3.out.mono ?_; rintro e w4 ⟨rfl, hb4⟩)
      have HB4 := Lib.hid (BB.out.trans (hb4.mono BB.out.size))
      clear hb4
      cases hf : decide (0 < gg) with
      | true =>
        have hf' : 0 < gg := by simpa using hf
        rw [if_pos hf'] at HZ
        clear hf
        go_wp2_with fail
        go_ret2
        exact ⟨by rw [HZ.out]; rfl, HB4.out⟩
      | false =>
        have hf' : ¬ 0 < gg := by simpa using hf
        rw [if_neg hf'] at HZ
        clear hf
        go_wp2_with fail
        go_ret2
        exact ⟨by rw [HZ.out]; rfl, HB4.out⟩
  · have HZ : Hid (cyR f l ride low high = (0, checkQ f l)) := if_pos hc
    generalize checkQ f l = k at hc HC HZ
    unfold eveV at HC ⊢
    clear hr hl hn r0 bW HR0
    go_enter Try.func38, Try.ntmps38
    go_upto_region 1 with (fail)
    rw [← hW]
    clear hW
    go_wp2_with (go_at_call 17; refine HC.out.mono ?_; rintro e w1 ⟨rfl, hb1⟩; have HB1 := Lib.hid (HBW.out.trans (hb1.mono HBW.out.size)); clear hb1)
    all_goals first | (go_ret2; rw [HZ.out]; exact ⟨rfl, HB1.out⟩) | (exfalso; omega) | trace_state
end Go.Proofs.Ytijbhcdnbaaobaa
