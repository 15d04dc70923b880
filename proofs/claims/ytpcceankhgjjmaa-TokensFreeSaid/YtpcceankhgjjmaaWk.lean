/- Contracts of slices.Clone at a slice of ints that is not empty, and of begin. Conditions: the arguments read as data; the fair is valid. -/
import Derived.Test.YtpcceankhgjjmaaWj
import Derived.Laws.MakeOwn
import Derived.Laws.Entries
import Derived.Deep.RegionHeld3
import Derived.Deep.DeepCutAuto
namespace Go.Proofs.Ytpcceankhgjjmaa
open Go.RowKit

theorem Try.info_int : (Try.prog.info? 3).map (fun i => (i.zero, i.size, i.bytes)) = some (some (.int .i64 0), 1, 8) := by kernel_rfl
theorem Try.info_purse : (Try.prog.info? 62).map (fun i => (i.zero, i.size, i.bytes)) = some (some (.agg #[.int .i64 0, .int .i64 0]), 2, 16) := by kernel_rfl

theorem run_make_rowN {P : Program} (t e : TypeId) (i : TypeInfo) (z : Value) (ht : P.underlying t = some (.slice e)) (hi : P.info? e = some i) (hz : i.zero = some z)
    (kl kc : IntKind) (n c : Nat) (hnc : n ≤ c) (hbytes : i.bytes * c ≤ 281474976710656) (h63 : c ≤ 9223372036854775807) (w : World) :
    (Instr.makeSlice t (.int kl (n : Int)) (.int kc (c : Int))).run P w = .ok (.slice (some ⟨w.heap.size, 0, none⟩) n c) (w.alloc (.cells (madeCells z.cells (c * i.size)) e)) := by
  have hb : (i.bytes : Int) * (c : Int) ≤ 281474976710656 := by
    have h : ((i.bytes * c : Nat) : Int) ≤ 281474976710656 := by omega
    rwa [Int.natCast_mul] at h
  have hr := run_make (P := P) w t e i z ht hi hz kl kc n c (by omega) (by omega) hb (by omega)
  simp only [Int.toNat_natCast] at hr
  exact hr

set_option maxHeartbeats 2000000 in
set_option maxRecDepth 100000 in
theorem clone_any (zs : List Int) (A : Option Addr) (n c B : Nat) (w : World) (hr : Reads w B 1 A n (intCells zs)) (h1 : 1 ≤ n) (hbig : n ≤ 100000) :
    Calls Try.prog 71 #[.slice A n c] w fun e w' => ∃ g cap, e = .returned (.slice (some ⟨g, 0, none⟩) n cap) ∧ w.heap.size ≤ g ∧ Row w' g 3 (intCells zs) ∧ Below w.heap.size w w' := by
  obtain ⟨b, o, rfl, hb, hc⟩ := hr.2 h1
  have hl : (intCells zs).length = n := by have := hr.1; omega
  obtain ⟨i0, hi, hz0, hz1, hz2⟩ := info_parts Try.info_int
  have q22 : ∀ (w : World) (a : Option Addr) (n c n' c' : Nat), (binOp .eql 22 (.slice a n c) (.slice none n' c')).run Try.prog w = .ok (.bool a.isNone) w := fun w a n c n' c' => Lib.run_eql_slice_nil w _ _ a n c n' c' Try.underlying22
  have Hc : Hid (∀ j u, (intCells zs)[j]? = some u → w.cell? ⟨b, o + j, none⟩ = some u) := hc
  clear hc
  go_enter Try.func71, Try.ntmps71
  go_wp2_with (at_builtin; refine wpList_append_own _ rfl _ _ 22 rfl w.heap.size 3 i0 (.int .i64 0) 1 8 Try.underlying22 hi hz0 hz1 hz2 rfl (by decide) _ _ _ rfl (World.ownsRow_made w #[] 0 (Nat.le_refl _) (Nat.zero_le _) rfl) ⟨b, o, none⟩ n c (intCells zs) rfl ?qc1 ?qc2 ?qc3 ?qc4 ?qc5 ?qc6 ?_)
  case qc1 => omega
  case qc2 =>
    intro j u hj
    rw [Addr.add_lit]
    exact Lib.cell?_alloc_some _ (Hc.out j u hj)
  case qc3 => intro u hu; obtain ⟨x, _, rfl⟩ := List.mem_map.1 hu; rfl
  case qc4 => unfold maxLen; omega
  case qc5 => omega
  case qc6 => simp
  intro v' w1 hown hgrow hnil
  go_wp2
  go_ret
  have hown' : w1.ownsRow w.heap.size 3 1 v' n (intCells zs) := by simpa using hown
  rcases hown'.2 with ⟨_, h0⟩ | ⟨g, cap, cur, hv, hg, _⟩
  · omega
  · subst hv
    exact ⟨g, cap, rfl, hg, (Row.of_own hown').1, ((Below.refl _ w).alloc (Nat.le_refl _) _).grown hgrow (by simp) (by intro k hk; simp [Value.ownBlock] at hk; omega)⟩

section
variable {x : World} {b g : Nat} {t t' : TypeId} {xs : List Value} {z0 z1 z2 z3 z4 z5 z6 z7 z8 z9 z10 z11 z12 v0 v1 v2 v3 v4 v5 v6 v7 v8 v9 v10 v11 v12 : Value}
theorem set13 (h : Row x b t [z0, z1, z2, z3, z4, z5, z6, z7, z8, z9, z10, z11, z12]) : Row (((((((((((((x.setCell ⟨b, 0, none⟩ v0).setCell ⟨b, 1, none⟩ v1).setCell ⟨b, 2, none⟩ v2).setCell ⟨b, 3, none⟩ v3).setCell ⟨b, 4, none⟩ v4).setCell ⟨b, 5, none⟩ v5).setCell ⟨b, 6, none⟩ v6).setCell ⟨b, 7, none⟩ v7).setCell ⟨b, 8, none⟩ v8).setCell ⟨b, 9, none⟩ v9).setCell ⟨b, 10, none⟩ v10).setCell ⟨b, 11, none⟩ v11).setCell ⟨b, 12, none⟩ v12) b t [v0, v1, v2, v3, v4, v5, v6, v7, v8, v9, v10, v11, v12] := by
  have := ((((((((((((h.set 0 v0).set 1 v1).set 2 v2).set 3 v3).set 4 v4).set 5 v5).set 6 v6).set 7 v7).set 8 v8).set 9 v9).set 10 v10).set 11 v11).set 12 v12
  exact this
theorem far13 (h : Row x g t xs) (hg : g ≠ b) : Row (((((((((((((x.setCell ⟨b, 0, none⟩ v0).setCell ⟨b, 1, none⟩ v1).setCell ⟨b, 2, none⟩ v2).setCell ⟨b, 3, none⟩ v3).setCell ⟨b, 4, none⟩ v4).setCell ⟨b, 5, none⟩ v5).setCell ⟨b, 6, none⟩ v6).setCell ⟨b, 7, none⟩ v7).setCell ⟨b, 8, none⟩ v8).setCell ⟨b, 9, none⟩ v9).setCell ⟨b, 10, none⟩ v10).setCell ⟨b, 11, none⟩ v11).setCell ⟨b, 12, none⟩ v12) g t xs :=
  (((((((((((((h.far (by simp; omega) _).far (by simp; omega) _).far (by simp; omega) _).far (by simp; omega) _).far (by simp; omega) _).far (by simp; omega) _).far (by simp; omega) _).far (by simp; omega) _).far (by simp; omega) _).far (by simp; omega) _).far (by simp; omega) _).far (by simp; omega) _).far (by simp; omega) _)
theorem below13 {B : Nat} {a : World} (h : Below B a x) (hb : B ≤ b) : Below B a (((((((((((((x.setCell ⟨b, 0, none⟩ v0).setCell ⟨b, 1, none⟩ v1).setCell ⟨b, 2, none⟩ v2).setCell ⟨b, 3, none⟩ v3).setCell ⟨b, 4, none⟩ v4).setCell ⟨b, 5, none⟩ v5).setCell ⟨b, 6, none⟩ v6).setCell ⟨b, 7, none⟩ v7).setCell ⟨b, 8, none⟩ v8).setCell ⟨b, 9, none⟩ v9).setCell ⟨b, 10, none⟩ v10).setCell ⟨b, 11, none⟩ v11).setCell ⟨b, 12, none⟩ v12) :=
  (((((((((((((h.setCell hb _).setCell hb _).setCell hb _).setCell hb _).setCell hb _).setCell hb _).setCell hb _).setCell hb _).setCell hb _).setCell hb _).setCell hb _).setCell hb _).setCell hb _)
end
def newPurse (n : Nat) : Obj := .cells (madeCells #[.int .i64 0, .int .i64 0] (n * 2)) 62
theorem new_purse (w : World) (g n : Nat) (hg : g = w.heap.size) : Row (w.alloc (.cells (madeCells #[.int .i64 0, .int .i64 0] (n * 2)) 62)) g 62 (purseCells (List.replicate n ⟨0, 0⟩)) := by
  subst hg
  have h := Row.new w 62 (madeCells #[.int .i64 0, .int .i64 0] (n * 2))
  have e : (madeCells #[Value.int .i64 0, Value.int .i64 0] (n * 2)).toList = purseCells (List.replicate n ⟨0, 0⟩) := by
    apply List.ext_getElem?
    intro j
    have hl := purseCells_length (List.replicate n (⟨0, 0⟩ : Purse))
    by_cases hj : j < n * 2
    · have h0 : (madeCells #[Value.int .i64 0, Value.int .i64 0] (n * 2)).toList[j]? = some (.int .i64 0) := by
        simp [madeCells, hj]
        rcases Nat.mod_two_eq_zero_or_one j with h | h <;> simp [h]
      rw [h0]
      obtain ⟨q1, q2⟩ := purseCells_at (List.replicate n (⟨0, 0⟩ : Purse)) (j / 2) (by simp; omega)
      have gz : getp (List.replicate n (⟨0, 0⟩ : Purse)) ((j / 2 : Nat) : Int) = ⟨0, 0⟩ := by
        simp only [getp, Int.toNat_natCast, List.getElem?_replicate]; split <;> rfl
      rw [gz] at q1 q2
      rcases Nat.mod_two_eq_zero_or_one j with h | h
      · rw [show j / 2 * 2 = j from by omega] at q1; exact q1.symm
      · rw [show j / 2 * 2 + 1 = j from by omega] at q2; exact q2.symm
    · rw [List.getElem?_eq_none (by simp [madeCells]; omega), List.getElem?_eq_none (by rw [hl]; simp; omega)]
  rw [e] at h
  exact h
theorem new_ints (w : World) (g n : Nat) (hg : g = w.heap.size) : Row (w.alloc (.cells (madeCells #[.int .i64 0] n) 3)) g 3 (intCells (List.replicate n 0)) := by
  subst hg
  have h := Row.new w 3 (madeCells #[.int .i64 0] n)
  rw [toList_madeCells_one] at h
  simpa [intCells] using h
/-- What begin leaves: its own block and the four blocks. -/
def BPost (w wx : World) (F : Fair) (R : Refs) : Prop :=
  ∃ g1 g2 g3 g4 k1 k2 k3 k4 : Nat, Row wx (w.heap.size + 1) 80 [.int .i64 F.purses, .int .i64 F.boxes, .slice R.A1 F.stock.length R.c1, .slice R.A2 F.cash.length R.c2, .slice R.A3 F.bundles.length R.c3, .int .i64 F.refund, .int .i64 F.band, .int .i64 F.hours,
      .slice (some ⟨g1, 0, none⟩) F.stock.length k1, .slice (some ⟨g2, 0, none⟩) F.cash.length k2, .slice (some ⟨g3, 0, none⟩) F.purses.toNat k3, .slice (some ⟨g4, 0, none⟩) F.boxes.toNat k4, .int .i64 0] ∧
    Below w.heap.size w wx ∧ (w.heap.size ≤ g1 ∧ w.heap.size ≤ g2 ∧ w.heap.size ≤ g3 ∧ w.heap.size ≤ g4) ∧ [g1, g2, g3, g4].Nodup ∧
    Row wx g1 3 (intCells F.stock) ∧ Row wx g2 3 (intCells F.cash) ∧ Row wx g3 62 (purseCells (beginS F).purses) ∧ Row wx g4 3 (intCells (beginS F).boxes)
/-- What begin returns: the value of a fair as it stands, and its four blocks. -/
def BRet (w : World) (F : Fair) (R : Refs) (e : Ending) (w' : World) : Prop := ∃ g1 g2 g3 g4 c1 c2 c3 c4, Below w.heap.size w w' ∧ e = .returned (.agg #[.int .i64 F.purses, .int .i64 F.boxes, .slice R.A1 F.stock.length R.c1, .slice R.A2 F.cash.length R.c2, .slice R.A3 F.bundles.length R.c3, .int .i64 F.refund, .int .i64 F.band, .int .i64 F.hours,
      .slice (some ⟨g1, 0, none⟩) F.stock.length c1, .slice (some ⟨g2, 0, none⟩) F.cash.length c2, .slice (some ⟨g3, 0, none⟩) F.purses.toNat c3, .slice (some ⟨g4, 0, none⟩) F.boxes.toNat c4, .int .i64 0]) ∧
      w.heap.size ≤ g1 ∧ w.heap.size ≤ g2 ∧ w.heap.size ≤ g3 ∧ w.heap.size ≤ g4 ∧ [g1, g2, g3, g4].Nodup ∧
      Row w' g1 3 (intCells F.stock) ∧ Row w' g2 3 (intCells F.cash) ∧ Row w' g3 62 (purseCells (beginS F).purses) ∧ Row w' g4 3 (intCells (beginS F).boxes)
theorem BPost_intro {w wx : World} {F : Fair} {R : Refs} {g1 g2 g3 g4 k1 k2 k3 k4 : Nat} (hbox : Row wx (w.heap.size + 1) 80 [.int .i64 F.purses, .int .i64 F.boxes, .slice R.A1 F.stock.length R.c1, .slice R.A2 F.cash.length R.c2, .slice R.A3 F.bundles.length R.c3, .int .i64 F.refund, .int .i64 F.band, .int .i64 F.hours,
      .slice (some ⟨g1, 0, none⟩) F.stock.length k1, .slice (some ⟨g2, 0, none⟩) F.cash.length k2, .slice (some ⟨g3, 0, none⟩) F.purses.toNat k3, .slice (some ⟨g4, 0, none⟩) F.boxes.toNat k4, .int .i64 0])
    (hbel : Below w.heap.size w wx) (hlo : w.heap.size ≤ g1 ∧ w.heap.size ≤ g2 ∧ w.heap.size ≤ g3 ∧ w.heap.size ≤ g4) (hnd : [g1, g2, g3, g4].Nodup)
    (h1 : Row wx g1 3 (intCells F.stock)) (h2 : Row wx g2 3 (intCells F.cash)) (h3 : Row wx g3 62 (purseCells (beginS F).purses)) (h4 : Row wx g4 3 (intCells (beginS F).boxes)) : BPost w wx F R :=
  ⟨g1, g2, g3, g4, k1, k2, k3, k4, hbox, hbel, hlo, hnd, h1, h2, h3, h4⟩
theorem cell_far1 (w : World) (c i o : Nat) (v : Value) : (w.setCell ⟨c + 1, i, none⟩ v).cell? ⟨c, o, none⟩ = w.cell? ⟨c, o, none⟩ := World.cell?_setCell_other _ _ _ _ (fun e => by injection e with e1 _ _; omega)
abbrev zeros : List Value := [.int .i64 0, .int .i64 0, .slice none 0 0, .slice none 0 0, .slice none 0 0, .int .i64 0, .int .i64 0, .int .i64 0, .slice none 0 0, .slice none 0 0, .slice none 0 0, .slice none 0 0, .int .i64 0]
theorem below_step {w X x : World} (h : Below w.heap.size w X) (hx : Below X.heap.size X x) : Below w.heap.size w x := h.trans (hx.mono h.size)

set_option maxHeartbeats 2000000 in
set_option maxRecDepth 100000 in
theorem begin_any (F : Fair) (R : Refs) (w : World) (B : Nat) (hB : B ≤ w.heap.size) (hF : FairIn w B F R) (hv : validB F = true) :
    Calls Try.prog 67 #[fairV F R] w (BRet w F R) := by
  have hb := bounds_of hv
  obtain ⟨purses, boxes, stock, cash, bundles, refund, band, hours⟩ := F
  obtain ⟨A1, c1, A2, c2, A3, c3⟩ := R
  unfold fairV
  dsimp only at *
  obtain ⟨i0, hi, hz0, hz1, hz2⟩ := info_parts Try.info_int
  obtain ⟨j0, hj, hy0, hy1, hy2⟩ := info_parts Try.info_purse
  obtain ⟨np, rfl⟩ := Int.eq_ofNat_of_zero_le hb.p1
  obtain ⟨nx, rfl⟩ := Int.eq_ofNat_of_zero_le hb.x1
  have hp2 := hb.p2
  have hx2 := hb.x2
  dsimp only at *
  have hm1 := fun W => run_make_rowN (P := Try.prog) 33 62 j0 _ Try.underlying33 hj hy0 .i64 .i64 np np (Nat.le_refl _) (by rw [hy2]; omega) (by omega) W
  have hm2 := fun W => run_make_rowN (P := Try.prog) 22 3 i0 _ Try.underlying22 hi hz0 .i64 .i64 nx nx (Nat.le_refl _) (by rw [hz2]; omega) (by omega) W
  rw [hy1] at hm1
  rw [hz1] at hm2
  go_enter Try.func67, Try.ntmps67
  go_wp2_with fail
  go_cut [2] (fun s2 wx => s2 = .pointer (some ⟨w.heap.size + 1, 0, none⟩) ∧ BPost w wx ⟨np, nx, stock, cash, bundles, refund, band, hours⟩ ⟨A1, c1, A2, c2, A3, c3⟩)
  case rest =>
    obtain ⟨rfl, g1, g2, g3, g4, k1, k2, k3, k4, hbx, hbel, ⟨e1, e2, e3, e4⟩, hnd, h1, h2, h3, h4⟩ := hcut
    have c0 := hbx.cell (j := 0) (by simp)
    have c1' := hbx.cell (j := 1) (by simp)
    have c2' := hbx.cell (j := 2) (by simp)
    have c3' := hbx.cell (j := 3) (by simp)
    have c4' := hbx.cell (j := 4) (by simp)
    have c5' := hbx.cell (j := 5) (by simp)
    have c6' := hbx.cell (j := 6) (by simp)
    have c7' := hbx.cell (j := 7) (by simp)
    have c8' := hbx.cell (j := 8) (by simp)
    have c9' := hbx.cell (j := 9) (by simp)
    have c10' := hbx.cell (j := 10) (by simp)
    have c11' := hbx.cell (j := 11) (by simp)
    have c12' := hbx.cell (j := 12) (by simp)
    simp only [List.getElem?_cons_zero, List.getElem?_cons_succ, Int.toNat_natCast] at c0 c1' c2' c3' c4' c5' c6' c7' c8' c9' c10' c11' c12'
    clear hbx
    go_wp2_with fail
    refine bodyPost_ret (v := .agg #[.int .i64 np, .int .i64 nx, .slice A1 stock.length c1, .slice A2 cash.length c2, .slice A3 bundles.length c3, .int .i64 refund, .int .i64 band, .int .i64 hours,
      .slice (some ⟨g1, 0, none⟩) stock.length k1, .slice (some ⟨g2, 0, none⟩) cash.length k2, .slice (some ⟨g3, 0, none⟩) np k3, .slice (some ⟨g4, 0, none⟩) nx k4, .int .i64 0]) (by simp [results, Try.results67, go_sem, *]) rfl ?_
    refine ⟨g1, g2, g3, g4, k1, k2, k3, k4, hbel, rfl, e1, e2, e3, e4, hnd, h1, h2, h3, h4⟩
  have hq0 : Row ((w.alloc (.cells (fairCells ⟨np, nx, stock, cash, bundles, refund, band, hours⟩ ⟨A1, c1, A2, c2, A3, c3⟩) 25)).alloc (.cells zeros.toArray 80)) (w.heap.size + 1) 80 zeros := by
    have := Row.new (w.alloc (.cells (fairCells ⟨np, nx, stock, cash, bundles, refund, band, hours⟩ ⟨A1, c1, A2, c2, A3, c3⟩) 25)) 80 zeros.toArray
    simpa using this
  have HF := Lib.hid hF
  have hwF : ∀ X : World, Below w.heap.size w X → FairIn X B ⟨np, nx, stock, cash, bundles, refund, band, hours⟩ ⟨A1, c1, A2, c2, A3, c3⟩ := fun X hX => hF.below (hX.mono hB)
  have l1 := hb.s1
  have l2 := hb.s2
  have l3 := hb.c
  dsimp only at *
  have l4 : 1 ≤ cash.length := by omega
  have l5 : cash.length ≤ 8 := by omega
  have L3 := Lib.hid l3
  clear l3
  go_region_held3 (fun x => x.cell? ⟨w.heap.size, 0, none⟩ = some (.int .i64 np) ∧ x.cell? ⟨w.heap.size, 1, none⟩ = some (.int .i64 nx) ∧ x.cell? ⟨w.heap.size, 2, none⟩ = some (.slice A1 stock.length c1) ∧ x.cell? ⟨w.heap.size, 3, none⟩ = some (.slice A2 cash.length c2) ∧ x.cell? ⟨w.heap.size, 4, none⟩ = some (.slice A3 bundles.length c3) ∧ x.cell? ⟨w.heap.size, 5, none⟩ = some (.int .i64 refund) ∧ x.cell? ⟨w.heap.size, 6, none⟩ = some (.int .i64 band) ∧ x.cell? ⟨w.heap.size, 7, none⟩ = some (.int .i64 hours)) (first | go_keep | (refine ⟨?_, ?_, ?_, ?_, ?_, ?_, ?_, ?_⟩ <;> ((repeat rw [World.cell?_alloc_lt _ _ _ (by simp; omega)]); simp only [cell_far1]; (try rw [hd2]); (repeat rw [World.cell?_alloc_lt _ _ _ (by simp; omega)]); (try rw [hd1]); simp [World.cell?_alloc_new, World.cell?_alloc_lt]))) (first
    | (go_at_call_of 71 (Value.slice A1 stock.length c1); go_must (refine (clone_any stock _ stock.length _ B _ (FairIn.s1 (F := ⟨np, nx, stock, cash, bundles, refund, band, hours⟩) (R := ⟨A1, c1, A2, c2, A3, c3⟩) (hwF _ ?_)) (by omega) (by omega)).mono ?_; ((repeat first | exact Below.refl _ _ | assumption | refine below_drewN ?_ _ | refine Below.drew ?_ | refine Below.alloc ?_ ?_ _) <;> (simp <;> omega)); rintro e x1 ⟨g1, k1, rfl, hg1, hrow1, hx1⟩; have bx1 : Below w.heap.size w x1 := below_step (by ((repeat first | exact Below.refl _ _ | assumption | refine below_drewN ?_ _ | refine Below.drew ?_ | refine Below.alloc ?_ ?_ _) <;> (simp <;> omega))) hx1; have sx1 := bx1.size; have sy1 := hx1.size; (try simp at sy1); obtain ⟨hc1, hf1⟩ := bcell hx1; have hG1 := hg1; (try simp at hG1); have hL1 := hrow1.lt; have hq1 : Row x1 (w.heap.size + 1) 80 zeros := (fun (h : Row _ (w.heap.size + 1) _ _) => h.below hx1 h.lt) (by repeat first | exact hq0 | refine Row.drew ?_ | refine Row.drewN ?_ _ | refine Row.alloc ?_ _); have hd1 := fun o => hc1 w.heap.size o (by first | omega | (simp; done) | (simp; omega)); have he1 := fun o => hc1 (w.heap.size + 1) o (by first | omega | (simp; done) | (simp; omega)); have hg1' := fun o => hf1 (w.heap.size + 1) o (by first | omega | (simp; done) | (simp; omega)); have hi1 : w.heap.size < x1.heap.size := (by first | omega | (simp at *; omega)); have hj1 : w.heap.size + 1 < x1.heap.size := (by first | omega | (simp at *; omega)); clear hc1 hf1))
    | (go_at_call_of 71 (Value.slice A2 cash.length c2); go_must (refine (clone_any cash _ cash.length _ B _ (FairIn.s2 (F := ⟨np, nx, stock, cash, bundles, refund, band, hours⟩) (R := ⟨A1, c1, A2, c2, A3, c3⟩) (hwF _ ?_)) (by omega) (by omega)).mono ?_; ((repeat first | exact Below.refl _ _ | assumption | refine below_drewN ?_ _ | refine Below.drew ?_ | refine Below.alloc ?_ ?_ _) <;> (simp <;> omega)); rintro e x2 ⟨g2, k2, rfl, hg2, hrow2, hx2⟩; have bx2 : Below w.heap.size w x2 := below_step (by ((repeat first | exact Below.refl _ _ | assumption | refine below_drewN ?_ _ | refine Below.drew ?_ | refine Below.alloc ?_ ?_ _) <;> (simp <;> omega))) hx2; have sx2 := bx2.size; have sy2 := hx2.size; (try simp at sy2); obtain ⟨hc2, hf2⟩ := bcell hx2; have hG2 := hg2; (try simp at hG2); have hL2 := hrow2.lt; have hq2 : Row x2 (w.heap.size + 1) 80 zeros := (fun (h : Row _ (w.heap.size + 1) _ _) => h.below hx2 h.lt) (by repeat first | exact hq1 | refine Row.drew ?_ | refine Row.drewN ?_ _ | refine Row.alloc ?_ _); have hs1 : Row x2 g1 3 (intCells stock) := (fun (h : Row _ g1 _ _) => h.below hx2 h.lt) (by repeat first | exact hrow1 | refine Row.drew ?_ | refine Row.drewN ?_ _ | refine Row.alloc ?_ _); have hd2 := fun o => hc2 w.heap.size o (by first | omega | (simp; done) | (simp; omega)); have he2 := fun o => hc2 (w.heap.size + 1) o (by first | omega | (simp; done) | (simp; omega)); have hg2' := fun o => hf2 (w.heap.size + 1) o (by first | omega | (simp; done) | (simp; omega)); have hi2 : w.heap.size < x2.heap.size := (by first | omega | (simp at *; omega)); have hj2 : w.heap.size + 1 < x2.heap.size := (by first | omega | (simp at *; omega)); clear hc2 hf2)))
  all_goals
    go_wp2_with fail
    go_meet
    refine ⟨rfl, ?_⟩
    apply BPost_intro (g1 := g1) (g2 := g2) (k1 := k1) (k2 := k2) (k3 := np) (k4 := nx)
    · simp only [Int.toNat_natCast]; (repeat (with_reducible refine Row.alloc ?_ _)); with_reducible exact set13 hq2
    · (repeat (with_reducible refine Below.alloc ?_ (by simp; omega) _)); with_reducible exact below13 bx2 (by omega)
    · refine ⟨?_, ?_, ?_, ?_⟩ <;> omega
    · simp; omega
    · (repeat (first | (with_reducible exact hrow1) | (with_reducible exact hrow2) | (with_reducible exact hs1) | (with_reducible refine new_purse _ _ _ (by simp; done)) | (with_reducible refine new_ints _ _ _ (by simp; done)) | (with_reducible refine Row.alloc ?_ _) | (with_reducible refine far13 ?_ (by omega)) | (with_reducible refine Row.drew ?_) | (with_reducible refine Row.drewN ?_ _) | (with_reducible refine Row.below ?_ hx2 (by first | omega | (simp; done) | (simp; omega))) | (with_reducible refine Row.below ?_ hx1 (by first | omega | (simp; done) | (simp; omega)))))
    · (repeat (first | (with_reducible exact hrow1) | (with_reducible exact hrow2) | (with_reducible exact hs1) | (with_reducible refine new_purse _ _ _ (by simp; done)) | (with_reducible refine new_ints _ _ _ (by simp; done)) | (with_reducible refine Row.alloc ?_ _) | (with_reducible refine far13 ?_ (by omega)) | (with_reducible refine Row.drew ?_) | (with_reducible refine Row.drewN ?_ _) | (with_reducible refine Row.below ?_ hx2 (by first | omega | (simp; done) | (simp; omega))) | (with_reducible refine Row.below ?_ hx1 (by first | omega | (simp; done) | (simp; omega)))))
    · simp only [beginS, Int.toNat_natCast]; (repeat (first | (with_reducible exact hrow1) | (with_reducible exact hrow2) | (with_reducible exact hs1) | (with_reducible refine new_purse _ _ _ (by simp; done)) | (with_reducible refine new_ints _ _ _ (by simp; done)) | (with_reducible refine Row.alloc ?_ _) | (with_reducible refine far13 ?_ (by omega)) | (with_reducible refine Row.drew ?_) | (with_reducible refine Row.drewN ?_ _) | (with_reducible refine Row.below ?_ hx2 (by first | omega | (simp; done) | (simp; omega))) | (with_reducible refine Row.below ?_ hx1 (by first | omega | (simp; done) | (simp; omega)))))
    · simp only [beginS, Int.toNat_natCast]; (repeat (first | (with_reducible exact hrow1) | (with_reducible exact hrow2) | (with_reducible exact hs1) | (with_reducible refine new_purse _ _ _ (by simp; done)) | (with_reducible refine new_ints _ _ _ (by simp; done)) | (with_reducible refine Row.alloc ?_ _) | (with_reducible refine far13 ?_ (by omega)) | (with_reducible refine Row.drew ?_) | (with_reducible refine Row.drewN ?_ _) | (with_reducible refine Row.below ?_ hx2 (by first | omega | (simp; done) | (simp; omega))) | (with_reducible refine Row.below ?_ hx1 (by first | omega | (simp; done) | (simp; omega)))))
end Go.Proofs.Ytpcceankhgjjmaa
