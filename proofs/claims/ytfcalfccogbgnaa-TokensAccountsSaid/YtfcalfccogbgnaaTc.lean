/- Contract of the specification's Account. Conditions: the arguments read as data; the slice is no longer than its capacity. -/
import Derived.Test.YtfcalfccogbgnaaVf
import Derived.Deep.RegionHeld3
import Derived.Deep.DeepCutAuto
import Derived.IntWalk
namespace Go.Proofs.Ytfcalfccogbgnaa
open Go.RowKit

theorem acc_err {F : Fair} {l : List Deal} (h : ¬ errS F l = 0) : accS F l = ([0, 0, 0, 0, 0, 0], errS F l) := by
  unfold errS at h ⊢
  unfold accS
  cases hv : validB F with
  | false => simp
  | true =>
    rw [hv] at h
    simp only [Bool.true_eq_false, if_false] at h ⊢
    by_cases h2 : 200 < l.length
    · rw [if_pos h2, if_pos h2]
    · rw [if_neg h2] at h
      rw [if_neg h2, if_neg h2]
      cases hg : goS F l l.length with
      | none => rfl
      | some x => rw [hg] at h; exact absurd rfl h
theorem acc_ok {F : Fair} {l : List Deal} (h : errS F l = 0) : accS F l = ([(nightK F l l.length).1, (nightK F l l.length).2.1, (nightK F l l.length).2.2, heldS (playS F l).purses, (playS F l).lost, wrap64 (sumW (playS F l).cash - sumW F.cash)], 0) := by
  obtain ⟨hv, h2, C, t, hg, hp⟩ := err_parts h
  have h3 : ¬ 200 < l.length := by omega
  rw [hp]
  simp only [accS, hv, Bool.true_eq_false, if_false, if_neg h3, hg]
theorem go_right {F : Fair} {l : List Deal} (h : errS F l = 0) {k : Nat} (hk : k ≤ l.length) : ∃ C t, goS F l k = some (C, t) := by
  obtain ⟨_, _, C, t, hg, _⟩ := err_parts (begin_ok h k)
  exact ⟨C, t, by rw [← hg, goS_take hk]⟩
theorem Reads.kf {w w' : World} {B size n g N : Nat} {A : Option Addr} {xs : List Value} (h : Reads w B size A n xs) (hk : KeptBut [g] w w') (hf : ∀ b o, A = some ⟨b, o, none⟩ → N ≤ b) (hg : g < N) (hB : B ≤ w.heap.size) : Reads w' B size A n xs :=
  ⟨h.1, fun hn => by
    obtain ⟨b, o, e, hb, hc⟩ := h.2 hn
    have := hf b o e
    exact ⟨b, o, e, hb, fun j u hu => (World.cell?_of_block (hk.block b (by omega) (by simp; omega))).trans (hc j u hu)⟩⟩
section
variable (w : World) (t : TypeId) (o : Obj)
theorem zr0 : Row (w.alloc (.cells zeroC5 t)) w.heap.size t zeroC5.toList := row_new _ _ _ _ rfl
theorem zr1 : Row (w.drew.alloc (.cells zeroC5 t)) w.heap.size t zeroC5.toList := row_new _ _ _ _ rfl
theorem zr2 : Row ((w.alloc o).alloc (.cells zeroC5 t)) (w.heap.size + 1) t zeroC5.toList := row_new _ _ _ _ (by simp)
theorem zr3 : Row ((w.drew.alloc o).alloc (.cells zeroC5 t)) (w.heap.size + 1) t zeroC5.toList := row_new _ _ _ _ (by simp)
theorem zr4 : Row ((w.alloc o).drew.alloc (.cells zeroC5 t)) (w.heap.size + 1) t zeroC5.toList := row_new _ _ _ _ (by simp)
end
section
variable {X x : World} {t : TypeId} {o : Obj} {g : Nat} {zs : List Value}
theorem zk1 (h : Below (X.alloc (.cells zeroC5 t)).heap.size (X.alloc (.cells zeroC5 t)) x) : Row x X.heap.size t zeroC5.toList := (fun (r : Row (X.alloc (.cells zeroC5 t)) X.heap.size t zeroC5.toList) => r.below h r.lt) (zr0 _ _)
theorem zk2 (h : Below ((X.alloc (.cells zeroC5 t)).drew).heap.size ((X.alloc (.cells zeroC5 t)).drew) x) : Row x X.heap.size t zeroC5.toList := (fun (r : Row ((X.alloc (.cells zeroC5 t)).drew) X.heap.size t zeroC5.toList) => r.below h r.lt) ((zr0 _ _).drew)
theorem zk3 (h : Below (X.drew.alloc (.cells zeroC5 t)).heap.size (X.drew.alloc (.cells zeroC5 t)) x) : Row x X.heap.size t zeroC5.toList := (fun (r : Row (X.drew.alloc (.cells zeroC5 t)) X.heap.size t zeroC5.toList) => r.below h r.lt) (zr1 _ _)
theorem zk4 (h : Below ((X.alloc (.cells zeroC5 t)).alloc o).heap.size ((X.alloc (.cells zeroC5 t)).alloc o) x) : Row x X.heap.size t zeroC5.toList := (fun (r : Row ((X.alloc (.cells zeroC5 t)).alloc o) X.heap.size t zeroC5.toList) => r.below h r.lt) ((zr0 _ _).alloc _)
theorem zk5 (h : Below ((X.drew.alloc (.cells zeroC5 t)).alloc o).heap.size ((X.drew.alloc (.cells zeroC5 t)).alloc o) x) : Row x X.heap.size t zeroC5.toList := (fun (r : Row ((X.drew.alloc (.cells zeroC5 t)).alloc o) X.heap.size t zeroC5.toList) => r.below h r.lt) ((zr1 _ _).alloc _)
theorem zk6 (h : Below (((X.alloc (.cells zeroC5 t)).alloc o).drew).heap.size (((X.alloc (.cells zeroC5 t)).alloc o).drew) x) : Row x X.heap.size t zeroC5.toList := (fun (r : Row (((X.alloc (.cells zeroC5 t)).alloc o).drew) X.heap.size t zeroC5.toList) => r.below h r.lt) (((zr0 _ _).alloc _).drew)
theorem zk7 (h : Below ((X.alloc (.cells zeroC5 t)).drew.alloc o).heap.size ((X.alloc (.cells zeroC5 t)).drew.alloc o) x) : Row x X.heap.size t zeroC5.toList := (fun (r : Row ((X.alloc (.cells zeroC5 t)).drew.alloc o) X.heap.size t zeroC5.toList) => r.below h r.lt) ((zr0 _ _).drew.alloc _)
theorem zl4 (h : Below ((X.alloc o).alloc (.cells zeroC5 t)).heap.size ((X.alloc o).alloc (.cells zeroC5 t)) x) : Row x (X.heap.size + 1) t zeroC5.toList := (fun (r : Row ((X.alloc o).alloc (.cells zeroC5 t)) (X.heap.size + 1) t zeroC5.toList) => r.below h r.lt) (zr2 _ _ _)
theorem zl5 (h : Below ((X.drew.alloc o).alloc (.cells zeroC5 t)).heap.size ((X.drew.alloc o).alloc (.cells zeroC5 t)) x) : Row x (X.heap.size + 1) t zeroC5.toList := (fun (r : Row ((X.drew.alloc o).alloc (.cells zeroC5 t)) (X.heap.size + 1) t zeroC5.toList) => r.below h r.lt) (zr3 _ _ _)
theorem zl6 (h : Below (((X.alloc o).alloc (.cells zeroC5 t)).drew).heap.size (((X.alloc o).alloc (.cells zeroC5 t)).drew) x) : Row x (X.heap.size + 1) t zeroC5.toList := (fun (r : Row (((X.alloc o).alloc (.cells zeroC5 t)).drew) (X.heap.size + 1) t zeroC5.toList) => r.below h r.lt) ((zr2 _ _ _).drew)
theorem zl7 (h : Below ((X.alloc o).drew.alloc (.cells zeroC5 t)).heap.size ((X.alloc o).drew.alloc (.cells zeroC5 t)) x) : Row x (X.heap.size + 1) t zeroC5.toList := (fun (r : Row ((X.alloc o).drew.alloc (.cells zeroC5 t)) (X.heap.size + 1) t zeroC5.toList) => r.below h r.lt) (zr4 _ _ _)
theorem zm1 (r0 : Row X g t zs) (h : Below (X).heap.size (X) x) : Row x g t zs := (fun (r : Row (X) g t zs) => r.below h r.lt) (r0)
theorem zm2 (r0 : Row X g t zs) (h : Below (X.drew).heap.size (X.drew) x) : Row x g t zs := (fun (r : Row (X.drew) g t zs) => r.below h r.lt) (r0.drew)
theorem zm3 (r0 : Row X g t zs) (h : Below (X.alloc o).heap.size (X.alloc o) x) : Row x g t zs := (fun (r : Row (X.alloc o) g t zs) => r.below h r.lt) (r0.alloc _)
theorem zm4 (r0 : Row X g t zs) (h : Below (X.drew.alloc o).heap.size (X.drew.alloc o) x) : Row x g t zs := (fun (r : Row (X.drew.alloc o) g t zs) => r.below h r.lt) (r0.drew.alloc _)
theorem zm5 (r0 : Row X g t zs) (h : Below ((X.alloc o).drew).heap.size ((X.alloc o).drew) x) : Row x g t zs := (fun (r : Row ((X.alloc o).drew) g t zs) => r.below h r.lt) ((r0.alloc _).drew)
end
theorem off_hi {x : World} {B size n g : Nat} {A : Option Addr} {xs : List Value} (h : Reads x B size A n xs) (hg : B ≤ g) : ∀ b o, 0 < n → A = some ⟨b, o, none⟩ → g ≠ b := fun b o hn e => by
  have := reads_lt h hn e; omega
theorem off_lo {N g n : Nat} {K : CRefs} (h : CFresh N K) (hg : g < N) : ∀ b o, 0 < n → K.A4 = some ⟨b, o, none⟩ → g ≠ b := fun b o _ e => by
  have := h b o (.inr (.inr (.inr e))); omega
theorem rdr5 {x : World} {B size n g : Nat} {A : Option Addr} {xs : List Value} {v0 v1 v2 v3 v4 : Value} (h : Reads x B size A n xs) (ho : ∀ b o, 0 < n → A = some ⟨b, o, none⟩ → g ≠ b) : Reads (((((x.setCell ⟨g, 0, none⟩ v0).setCell ⟨g, 1, none⟩ v1).setCell ⟨g, 2, none⟩ v2).setCell ⟨g, 3, none⟩ v3).setCell ⟨g, 4, none⟩ v4) B size A n xs :=
  ((((h.off (p := ⟨g, 0, none⟩) ho v0).off (p := ⟨g, 1, none⟩) ho v1).off (p := ⟨g, 2, none⟩) ho v2).off (p := ⟨g, 3, none⟩) ho v3).off (p := ⟨g, 4, none⟩) ho v4
section
variable {B g h : Nat} {a x : World} {o o' : Obj} {t : TypeId} {v0 v1 v2 v3 v4 u0 u1 u2 u3 u4 y0 y1 y2 y3 y4 : Value}
theorem bs1 (hb : Below B a x) (hB : B ≤ x.heap.size) : Below B a ((x.alloc o).alloc o') := (hb.alloc hB _).alloc (by simp; omega) _
theorem bs2 (hb : Below B a x) (hg : B ≤ g) (hB : B ≤ x.heap.size) : Below B a ((((((x.setCell ⟨g, 0, none⟩ v0).setCell ⟨g, 1, none⟩ v1).setCell ⟨g, 2, none⟩ v2).setCell ⟨g, 3, none⟩ v3).setCell ⟨g, 4, none⟩ v4).alloc o) := (belr5 hb hg).alloc (by simp [World.setCell]; omega) _
theorem bs3 (hb : Below B a x) (hg : B ≤ g) (hh : B ≤ h) : Below B a ((((((((((x.setCell ⟨g, 0, none⟩ v0).setCell ⟨g, 1, none⟩ v1).setCell ⟨g, 2, none⟩ v2).setCell ⟨g, 3, none⟩ v3).setCell ⟨g, 4, none⟩ v4).setCell ⟨h, 0, none⟩ u0).setCell ⟨h, 1, none⟩ u1).setCell ⟨h, 2, none⟩ u2).setCell ⟨h, 3, none⟩ u3).setCell ⟨h, 4, none⟩ u4) := belr5 (belr5 hb hg) hh
theorem rs1 : Row ((x.alloc (.cells #[v0, v1, v2, v3, v4] t)).alloc o) x.heap.size t [v0, v1, v2, v3, v4] := rowr5.alloc _
theorem rs2 : Row ((x.alloc o).alloc (.cells #[v0, v1, v2, v3, v4] t)) (x.heap.size + 1) t [v0, v1, v2, v3, v4] := row_new _ _ _ _ (by simp)
theorem rs3 : Row ((((((x.setCell ⟨g, 0, none⟩ u0).setCell ⟨g, 1, none⟩ u1).setCell ⟨g, 2, none⟩ u2).setCell ⟨g, 3, none⟩ u3).setCell ⟨g, 4, none⟩ u4).alloc (.cells #[v0, v1, v2, v3, v4] t)) x.heap.size t [v0, v1, v2, v3, v4] := row_new _ _ _ _ (by simp [World.setCell])
theorem rs4 (z : Row x g t [u0, u1, u2, u3, u4]) : Row ((((((x.setCell ⟨g, 0, none⟩ v0).setCell ⟨g, 1, none⟩ v1).setCell ⟨g, 2, none⟩ v2).setCell ⟨g, 3, none⟩ v3).setCell ⟨g, 4, none⟩ v4).alloc o) g t [v0, v1, v2, v3, v4] := (setr5 z).alloc _
theorem rs5 (z : Row x g t [u0, u1, u2, u3, u4]) (ne : g ≠ h) : Row ((((((((((x.setCell ⟨g, 0, none⟩ v0).setCell ⟨g, 1, none⟩ v1).setCell ⟨g, 2, none⟩ v2).setCell ⟨g, 3, none⟩ v3).setCell ⟨g, 4, none⟩ v4).setCell ⟨h, 0, none⟩ y0).setCell ⟨h, 1, none⟩ y1).setCell ⟨h, 2, none⟩ y2).setCell ⟨h, 3, none⟩ y3).setCell ⟨h, 4, none⟩ y4) g t [v0, v1, v2, v3, v4] := farr5 (setr5 z) ne
theorem rs6 (z : Row x h t [u0, u1, u2, u3, u4]) (ne : h ≠ g) : Row ((((((((((x.setCell ⟨g, 0, none⟩ y0).setCell ⟨g, 1, none⟩ y1).setCell ⟨g, 2, none⟩ y2).setCell ⟨g, 3, none⟩ y3).setCell ⟨g, 4, none⟩ y4).setCell ⟨h, 0, none⟩ v0).setCell ⟨h, 1, none⟩ v1).setCell ⟨h, 2, none⟩ v2).setCell ⟨h, 3, none⟩ v3).setCell ⟨h, 4, none⟩ v4) h t [v0, v1, v2, v3, v4] := setr5 (farr5 z ne)
end
/-- The two counts that a ride is held between. -/
def AMid (V : World) (C C' : Count) (s10 s11 : Value) (wx : World) : Prop :=
  ∃ g h K K', s10 = .pointer (some ⟨g, 0, none⟩) ∧ s11 = .pointer (some ⟨h, 0, none⟩) ∧ V.heap.size ≤ g ∧ V.heap.size ≤ h ∧ Below V.heap.size V wx ∧ Row wx g 35 (countL C K) ∧ Row wx h 35 (countL C' K') ∧ Reads wx wx.heap.size 1 K.A4 C.boxes.length (intCells C.boxes) ∧ Reads wx wx.heap.size 1 K'.A4 C'.boxes.length (intCells C'.boxes)

set_option maxHeartbeats 4000000 in
set_option maxRecDepth 100000 in
theorem rAccount_any (F : Fair) (R : Refs) (l : List Deal) (A : Option Addr) (c B : Nat) (w : World) (hB : B ≤ w.heap.size) (hF : FairIn w B F R) (hl : Reads w B 5 A l.length (dealCells l)) (hn : l.length ≤ maxLen) (hc : l.length ≤ c) (_hcm : c ≤ maxLen) :
    Calls Try.prog 26 #[fairV F R, .slice A l.length c] w (APost w F l) := by
  obtain ⟨S1, k1, S2, k2, S3, k3⟩ := R
  obtain ⟨W, hW⟩ : ∃ W, W = (w.alloc (.cells (fairCells F ⟨S1, k1, S2, k2, S3, k3⟩) 25)).alloc (.cells #[.int .i64 0, .int .i64 0, .int .i64 0, .int .i64 0, .int .i64 0, .int .i64 0] 42) := ⟨_, rfl⟩
  have sW : W.heap.size = w.heap.size + 2 := by subst hW; simp
  have bW : Below w.heap.size w W := by subst hW; exact ((Below.refl _ _).alloc (Nat.le_refl _) _).alloc (by simp) _
  have rF : Row W w.heap.size 25 [.int .i64 F.purses, .int .i64 F.boxes, .slice S1 F.stock.length k1, .slice S2 F.cash.length k2, .slice S3 F.bundles.length k3, .int .i64 F.refund, .int .i64 F.band, .int .i64 F.hours] := by subst hW; exact (row_new _ _ _ _ rfl).alloc _
  have rR : Row W (w.heap.size + 1) 42 [.int .i64 0, .int .i64 0, .int .i64 0, .int .i64 0, .int .i64 0, .int .i64 0] := by subst hW; exact row_new _ _ _ _ (by simp)
  obtain ⟨_, q0, q1, q2, q3, q4, q5, q6, q7⟩ := Row.cells8 rF
  unfold fairV
  dsimp only
  go_enter Try.func26, Try.ntmps26
  go_wp2_with fail
  rw [← hW]
  clear hW
  refine (rCheckDeals_any F ⟨S1, k1, S2, k2, S3, k3⟩ l A c B W (by omega) (hF.below (bW.mono hB)) (hl.below (bW.mono hB)) hn).mono ?_
  rintro e w1 ⟨rfl, hb1⟩
  have b1 := below_step bW hb1
  have s1 := hb1.size
  replace rF := rF.below hb1 rF.lt
  replace rR := rR.below hb1 rR.lt
  clear q0 q1 q2 q3 q4 q5 q6 q7
  by_cases he : errS F l = 0
  case neg =>
    have he' : (errS F l != 0) = true := by simpa using he
    have Hq : Hid (accS F l = ([0, 0, 0, 0, 0, 0], errS F l)) := acc_err he
    obtain ⟨fr, r0, r1, r2, r3, r4, r5⟩ := six rR
    clear he
    go_wp2_with fail
    refine bodyPost_ret (v := .tuple #[.agg #[.int .i64 0, .int .i64 0, .int .i64 0, .int .i64 0, .int .i64 0, .int .i64 0], .int .i64 (errS F l)]) (by simp [results, Try.results26, go_sem, *]) rfl ?_
    refine ⟨by repeat (first | (with_reducible exact b1) | (with_reducible refine Below.setCell ?_ (by dsimp only; omega) _)), by rw [Hq.out]; rfl⟩
  obtain ⟨hv, h200, _⟩ := err_parts he
  have Hq : Hid (accS F l = _) := acc_ok he
  have hbd := bounds_of hv
  have hbu := hbd.b
  rw [he]
  have He := Lib.hid he
  clear he
  go_wp2_with fail
  obtain ⟨X, hX⟩ : ∃ X, X = w1.alloc (.cells #[.int .i64 0, .int .i64 0, .int .i64 0, .int .i64 0, .int .i64 0, .int .i64 0] 42) := ⟨_, rfl⟩
  rw [← hX]
  have sX : X.heap.size = w1.heap.size + 1 := by subst hX; simp
  have bX : Below w.heap.size w X := by subst hX; exact b1.alloc b1.size _
  have rFX : Row X w.heap.size 25 [.int .i64 F.purses, .int .i64 F.boxes, .slice S1 F.stock.length k1, .slice S2 F.cash.length k2, .slice S3 F.bundles.length k3, .int .i64 F.refund, .int .i64 F.band, .int .i64 F.hours] := by subst hX; exact rF.alloc _
  have rRX : Row X (w.heap.size + 1) 42 [.int .i64 0, .int .i64 0, .int .i64 0, .int .i64 0, .int .i64 0, .int .i64 0] := by subst hX; exact rR.alloc _
  have rN0 : NightP w1.heap.size F l 0 X := by
    have e : nightK F l 0 = (0, 0, 0) := rfl
    unfold NightP
    rw [e]
    subst hX; exact row_new _ _ _ _ rfl
  clear hX rF rR
  have hn2 : l.length ≤ 9223372036854775807 := by unfold maxLen at hn; omega
  go_loopw [9] (fun i wr => ∃ k : Nat, k ≤ l.length ∧ i = .int .i64 k ∧ KeptBut [w1.heap.size] X wr ∧ NightP w1.heap.size F l k wr) (fun i _ => l.length - (intOf i).toNat)
  case atStart => exact ⟨0, Nat.zero_le _, rfl, KeptBut.refl _ _, rN0⟩
  case round =>
    obtain ⟨k, hk, rfl, hkp, hnp⟩ := hrel
    have sr := hkp.size
    have br : Below w.heap.size w wr := bX.trans (hkp.to_below (by omega) (by simp; omega))
    have rFr := rFX.kept hkp (by simp; omega)
    have Fr := hF.below (br.mono hB)
    have lr := hl.below (br.mono hB)
    obtain ⟨_, q0, q1, q2, q3, q4, q5, q6, q7⟩ := Row.cells8 rFr
    by_cases hlt : k < l.length
    case pos =>
      have hlt' : (k : Int) < (l.length : Int) := by omega
      obtain ⟨C, t, hgo⟩ := go_right He.out hk
      obtain ⟨C', hst, hgo2⟩ := step_right He.out hlt hgo
      have hsucc := nightK_succ F l k hlt C C' t hgo hst
      have Hgo := Lib.hid hgo
      have Hgo2 := Lib.hid hgo2
      have Hst := Lib.hid hst
      have Hsu := Lib.hid hsucc
      obtain ⟨b, o, rfl, hb, d0, d1, d2, d3, d4⟩ := lr.at5 hlt
      have zb : b < wr.heap.size := by omega
      have hnp' := hnp
      unfold NightP at hnp
      obtain ⟨fn, n0, n1, n2, n3, n4, n5⟩ := six hnp
      have zn := hnp.lt
      clear hgo hgo2 hst hsucc lr
      by_cases hk1 : (getd l k).kind = 1
      case pos =>
        have hsold := inB_iff.1 (sold_ok Hst.out hk1)
        obtain ⟨dn, hdn⟩ := Int.eq_ofNat_of_zero_le hsold.1
        rw [hk1] at d1
        have ln : dn < F.bundles.length := by omega
        have ln' : (dn : Int) < (F.bundles.length : Int) := by omega
        have F3 := Fr.s3
        dsimp only at F3
        obtain ⟨bb, bo, rfl, hbb, hbt, _⟩ := F3.at2 ln
        clear F3
        have vb : bb < w.heap.size := by omega
        have Hdn := Lib.hid hdn
        rw [hdn] at d4
        clear hdn hsold
        go_wp2_with fail
        refine wp_tail 14 (by kernel_rfl) (by kernel_rfl) ?_
        simp only [List.take_succ_cons, List.take_zero, List.drop_succ_cons, List.drop_zero]
        repeat still_step
        refine wpStill_nil ?_
        go_wp2_with fail
        go_roundw
        case rel => exact ⟨k + 1, by omega, by go_num, by repeat (first | (with_reducible exact hkp) | (with_reducible refine KeptBut.drewN ?_ _) | (with_reducible refine KeptBut.set ?_ (by simp) _)), by unfold NightP; rw [Hsu.out]; simp only [tallyS, hk1, if_true, Hdn.out]; exact (hnp.drewN _).set 0 _⟩
        case measure => simp [intOf]; omega
      by_cases hk4 : (getd l k).kind = 4
      case pos =>
        rw [hk4] at d1
        go_wp2_with fail
        refine wp_tail 9 (by kernel_rfl) (by kernel_rfl) ?_
        simp only [List.take_succ_cons, List.take_zero, List.drop_succ_cons, List.drop_zero]
        repeat still_step
        refine wpStill_nil ?_
        go_wp2_with fail
        go_roundw
        case rel => exact ⟨k + 1, by omega, by go_num, by repeat (first | (with_reducible exact hkp) | (with_reducible refine KeptBut.drewN ?_ _) | (with_reducible refine KeptBut.set ?_ (by simp) _)), by unfold NightP; rw [Hsu.out]; simp only [tallyS, hk4, if_true]; simp only [show ¬ ((4 : Int) = 1) from by decide, show ¬ ((4 : Int) = 2) from by decide, if_false]; exact (hnp.drewN _).set 2 _⟩
        case measure => simp [intOf]; omega
      by_cases hk2 : (getd l k).kind = 2
      case neg =>
        have g1 : ((getd l k).kind == 1) = false := by simpa using hk1
        have g2 : ((getd l k).kind == 2) = false := by simpa using hk2
        have g4 : ((getd l k).kind == 4) = false := by simpa using hk4
        have ht : tallyS F C' (getd l k) (nightK F l k) = nightK F l k := by simp [tallyS, hk1, hk2, hk4]
        clear hk1 hk2 hk4
        go_wp2_with fail
        go_roundw
        case rel => exact ⟨k + 1, by omega, by go_num, by repeat (first | (with_reducible exact hkp) | (with_reducible refine KeptBut.drewN ?_ _) | (with_reducible refine KeptBut.set ?_ (by simp) _)), by unfold NightP; rw [Hsu.out, ht]; exact hnp⟩
        case measure => simp [intOf]; omega
      rw [hk2] at d1
      have zF2 := rFr.lt
      have HP1 : Hid (∀ x : World, Below wr.heap.size wr x → Calls Try.prog 49 #[fairV F ⟨S1, k1, S2, k2, S3, k3⟩, .slice (some ⟨b, o, none⟩) k c] x fun e x' => PdPost x F (l.take k) e x' ∧ Below wr.heap.size wr x') := fun x hx => played_pre F ⟨S1, k1, S2, k2, S3, k3⟩ l k hk (some ⟨b, o, none⟩) c B wr x (by omega) Fr (hl.below (br.mono hB)) He.out hx
      have HP2 : Hid (∀ x : World, Below wr.heap.size wr x → Calls Try.prog 49 #[fairV F ⟨S1, k1, S2, k2, S3, k3⟩, .slice (some ⟨b, o, none⟩) (k + 1) c] x fun e x' => PdPost x F (l.take (k + 1)) e x' ∧ Below wr.heap.size wr x') := fun x hx => played_pre F ⟨S1, k1, S2, k2, S3, k3⟩ l (k + 1) hlt (some ⟨b, o, none⟩) c B wr x (by omega) Fr (hl.below (br.mono hB)) He.out hx
      have c1 : (0 : Int) ≤ (k : Int) := by omega
      have c2 : (k : Int) ≤ (c : Int) := by omega
      have c3 : k ≤ c := by omega
      have c4 : (0 : Int) ≤ (k : Int) + 1 := by omega
      have c5 : (k : Int) + 1 ≤ (c : Int) := by omega
      have c6 : k + 1 ≤ c := by omega
      have c7 : (k : Int) < (c : Int) := by omega
      have cw : IntKind.i64.wrap ((k : Int) + 1) = (k : Int) + 1 := IntWalk.i64_in _ (by omega)
      have nw1 := Nat.ne_of_lt zF2
      have nw2 := Nat.ne_of_gt zF2
      have nw3 := Nat.ne_of_lt (Nat.lt_succ_of_lt zF2)
      have nw4 := Nat.ne_of_gt (Nat.lt_succ_of_lt zF2)
      go_upto_region 14 with (fail)
      go_cut [10, 11] (fun s10 s11 wx => AMid wr (playS F (l.take k)) (playS F (l.take (k + 1))) s10 s11 wx)
      case first =>
        go_region_held3 (fun x => x.cell? ⟨w.heap.size, 0, none⟩ = some (.int .i64 F.purses) ∧ x.cell? ⟨w.heap.size, 1, none⟩ = some (.int .i64 F.boxes) ∧ x.cell? ⟨w.heap.size, 2, none⟩ = some (.slice S1 F.stock.length k1) ∧ x.cell? ⟨w.heap.size, 3, none⟩ = some (.slice S2 F.cash.length k2) ∧ x.cell? ⟨w.heap.size, 4, none⟩ = some (.slice S3 F.bundles.length k3) ∧ x.cell? ⟨w.heap.size, 5, none⟩ = some (.int .i64 F.refund) ∧ x.cell? ⟨w.heap.size, 6, none⟩ = some (.int .i64 F.band) ∧ x.cell? ⟨w.heap.size, 7, none⟩ = some (.int .i64 F.hours)) (go_keep) (first
          | (go_at_call_of 49 (Value.slice (some ⟨b, o, none⟩) k c); go_must (refine (HP1.out _ ?_).mono ?_; (first | (with_reducible exact Below.refl _ _) | (with_reducible exact Below.drew (Below.refl _ _)) | (with_reducible exact Below.alloc (Below.refl _ _) (Nat.le_refl _) _) | (with_reducible exact Below.drew (Below.alloc (Below.refl _ _) (Nat.le_refl _) _)) | (with_reducible exact Below.alloc (Below.drew (Below.refl _ _)) (Nat.le_refl _) _) | (with_reducible exact Below.alloc (Below.alloc (Below.refl _ _) (Nat.le_refl _) _) (Nat.le_of_lt (al_lt _ _)) _) | (with_reducible exact Below.drew (Below.alloc (Below.alloc (Below.refl _ _) (Nat.le_refl _) _) (Nat.le_of_lt (al_lt _ _)) _))); rintro e x3 ⟨⟨hb3, ⟨E1, e1, E2, e2, E3, e3, E4, e4⟩, rfl, hC3, hf3⟩, bx3⟩; have sx3 := bx3.size; have sy3 := hb3.size; have hw3 := Nat.lt_of_lt_of_le zF2 sx3; have nx1 := Nat.ne_of_lt hw3; have nx2 := Nat.ne_of_gt hw3; have nx3 := Nat.ne_of_lt (Nat.lt_succ_of_lt hw3); have nx4 := Nat.ne_of_gt (Nat.lt_succ_of_lt hw3); obtain ⟨_, q0, q1, q2, q3, q4, q5, q6, q7⟩ := Row.cells8 (Row.below rFr bx3 zF2); (first | (with_reducible (have za : Row x3 wr.heap.size 35 zeroC5.toList := zk1 hb3)) | (with_reducible (have za : Row x3 wr.heap.size 35 zeroC5.toList := zk2 hb3)) | (with_reducible (have za : Row x3 wr.heap.size 35 zeroC5.toList := zk3 hb3)) | (with_reducible (have za : Row x3 wr.heap.size 35 zeroC5.toList := zk4 hb3)) | (with_reducible (have za : Row x3 wr.heap.size 35 zeroC5.toList := zk5 hb3)) | (with_reducible (have za : Row x3 wr.heap.size 35 zeroC5.toList := zk6 hb3)) | (with_reducible (have za : Row x3 wr.heap.size 35 zeroC5.toList := zk7 hb3)) | skip); (first | (obtain ⟨fza, za0, za1, za2, za3, za4⟩ := Row.at_5 za; have lza := Row.lt za; have nza := Nat.ne_of_lt lza; have mza := Nat.ne_of_gt lza) | skip); (first | (with_reducible (have zb : Row x3 (wr.heap.size + 1) 35 zeroC5.toList := zl4 hb3)) | (with_reducible (have zb : Row x3 (wr.heap.size + 1) 35 zeroC5.toList := zl5 hb3)) | (with_reducible (have zb : Row x3 (wr.heap.size + 1) 35 zeroC5.toList := zl6 hb3)) | (with_reducible (have zb : Row x3 (wr.heap.size + 1) 35 zeroC5.toList := zl7 hb3)) | skip); (first | (obtain ⟨fzb, zb0, zb1, zb2, zb3, zb4⟩ := Row.at_5 zb; have lzb := Row.lt zb; have nzb := Nat.ne_of_lt lzb; have mzb := Nat.ne_of_gt lzb) | skip)))
          | (go_at_call 49; go_must (refine (HP2.out _ ?_).mono ?_; (first | (with_reducible exact bx3) | (with_reducible exact Below.drew bx3) | (with_reducible exact Below.alloc bx3 sx3 _) | (with_reducible exact Below.drew (Below.alloc bx3 sx3 _)) | (with_reducible exact Below.alloc (Below.drew bx3) sx3 _) | (with_reducible exact Below.alloc (Below.alloc bx3 sx3 _) (Nat.le_trans sx3 (Nat.le_of_lt (al_lt _ _))) _) | (with_reducible exact Below.drew (Below.alloc (Below.alloc bx3 sx3 _) (Nat.le_trans sx3 (Nat.le_of_lt (al_lt _ _))) _))); rintro e x4 ⟨⟨hb4, ⟨G1, g1, G2, g2, G3, g3, G4, g4⟩, rfl, hC4, hf4⟩, bx4⟩; have sx4 := bx4.size; have sy4 := hb4.size; (first | (with_reducible (have bz4 : Below x3.heap.size x3 x4 := below_step (Below.refl _ _) hb4)) | (with_reducible (have bz4 : Below x3.heap.size x3 x4 := below_step (Below.drew (Below.refl _ _)) hb4)) | (with_reducible (have bz4 : Below x3.heap.size x3 x4 := below_step (Below.alloc (Below.refl _ _) (Nat.le_refl _) _) hb4)) | (with_reducible (have bz4 : Below x3.heap.size x3 x4 := below_step (Below.drew (Below.alloc (Below.refl _ _) (Nat.le_refl _) _)) hb4)) | (with_reducible (have bz4 : Below x3.heap.size x3 x4 := below_step (Below.alloc (Below.drew (Below.refl _ _)) (Nat.le_refl _) _) hb4)) | (with_reducible (have bz4 : Below x3.heap.size x3 x4 := below_step (Below.alloc (Below.alloc (Below.refl _ _) (Nat.le_refl _) _) (Nat.le_of_lt (al_lt _ _)) _) hb4)) | (with_reducible (have bz4 : Below x3.heap.size x3 x4 := below_step (Below.drew (Below.alloc (Below.alloc (Below.refl _ _) (Nat.le_refl _) _) (Nat.le_of_lt (al_lt _ _)) _)) hb4)) | (with_reducible (have bz4 : Below x3.heap.size x3 x4 := below_step (Below.alloc (Below.alloc (Below.drew (Below.refl _ _)) (Nat.le_refl _) _) (Nat.le_of_lt (al_lt _ _)) _) hb4))); have hw4 := Nat.lt_of_lt_of_le zF2 sx4; have ny1 := Nat.ne_of_lt hw4; have ny2 := Nat.ne_of_gt hw4; have ny3 := Nat.ne_of_lt (Nat.lt_succ_of_lt hw4); have ny4 := Nat.ne_of_gt (Nat.lt_succ_of_lt hw4); obtain ⟨_, q0, q1, q2, q3, q4, q5, q6, q7⟩ := Row.cells8 (Row.below rFr bx4 zF2); (first | (with_reducible (have zc : Row x4 wr.heap.size 35 zeroC5.toList := zm1 za hb4)) | (with_reducible (have zc : Row x4 wr.heap.size 35 zeroC5.toList := zm2 za hb4)) | (with_reducible (have zc : Row x4 wr.heap.size 35 zeroC5.toList := zm3 za hb4)) | (with_reducible (have zc : Row x4 wr.heap.size 35 zeroC5.toList := zm4 za hb4)) | (with_reducible (have zc : Row x4 wr.heap.size 35 zeroC5.toList := zm5 za hb4)) | skip); (first | (obtain ⟨fzc, zc0, zc1, zc2, zc3, zc4⟩ := Row.at_5 zc; have lzc := Row.lt zc; have nzc := Nat.ne_of_lt lzc; have mzc := Nat.ne_of_gt lzc) | skip); (first | (with_reducible (have zd : Row x4 (wr.heap.size + 1) 35 zeroC5.toList := zm1 zb hb4)) | (with_reducible (have zd : Row x4 (wr.heap.size + 1) 35 zeroC5.toList := zm2 zb hb4)) | (with_reducible (have zd : Row x4 (wr.heap.size + 1) 35 zeroC5.toList := zm3 zb hb4)) | (with_reducible (have zd : Row x4 (wr.heap.size + 1) 35 zeroC5.toList := zm4 zb hb4)) | (with_reducible (have zd : Row x4 (wr.heap.size + 1) 35 zeroC5.toList := zm5 zb hb4)) | skip); (first | (obtain ⟨fzd, zd0, zd1, zd2, zd3, zd4⟩ := Row.at_5 zd; have lzd := Row.lt zd; have nzd := Nat.ne_of_lt lzd; have mzd := Nat.ne_of_gt lzd) | skip); (first | (with_reducible (have ze : Row x4 x3.heap.size 35 zeroC5.toList := zk1 hb4)) | (with_reducible (have ze : Row x4 x3.heap.size 35 zeroC5.toList := zk2 hb4)) | (with_reducible (have ze : Row x4 x3.heap.size 35 zeroC5.toList := zk3 hb4)) | (with_reducible (have ze : Row x4 x3.heap.size 35 zeroC5.toList := zk4 hb4)) | (with_reducible (have ze : Row x4 x3.heap.size 35 zeroC5.toList := zk5 hb4)) | (with_reducible (have ze : Row x4 x3.heap.size 35 zeroC5.toList := zk6 hb4)) | (with_reducible (have ze : Row x4 x3.heap.size 35 zeroC5.toList := zk7 hb4)) | skip); (first | (obtain ⟨fze, ze0, ze1, ze2, ze3, ze4⟩ := Row.at_5 ze; have lze := Row.lt ze; have nze := Nat.ne_of_lt lze; have mze := Nat.ne_of_gt lze) | skip); (first | (with_reducible (have zf : Row x4 (x3.heap.size + 1) 35 zeroC5.toList := zl4 hb4)) | (with_reducible (have zf : Row x4 (x3.heap.size + 1) 35 zeroC5.toList := zl5 hb4)) | (with_reducible (have zf : Row x4 (x3.heap.size + 1) 35 zeroC5.toList := zl6 hb4)) | (with_reducible (have zf : Row x4 (x3.heap.size + 1) 35 zeroC5.toList := zl7 hb4)) | skip); (first | (obtain ⟨fzf, zf0, zf1, zf2, zf3, zf4⟩ := Row.at_5 zf; have lzf := Row.lt zf; have nzf := Nat.ne_of_lt lzf; have mzf := Nat.ne_of_gt lzf) | skip))))
        all_goals
          go_wp2_with fail
          go_meet
          clear cw c1 c2 c4 c5 c7 hlt' d0 d1 d2 d3 d4
          refine ⟨_, _, ⟨E1, e1, E2, e2, E3, e3, E4, e4⟩, ⟨G1, g1, G2, g2, G3, g3, G4, g4⟩, rfl, rfl, ?_, ?_, ?_, ?_, ?_, ?_, ?_⟩
          · exact (by first | (with_reducible exact Nat.le_refl _) | (with_reducible exact sx3) | (with_reducible exact sx4) | (with_reducible exact Nat.le_succ_of_le sx3) | (with_reducible exact Nat.le_succ_of_le sx4) | (with_reducible exact Nat.le_succ _))
          · exact (by first | (with_reducible exact Nat.le_refl _) | (with_reducible exact sx3) | (with_reducible exact sx4) | (with_reducible exact Nat.le_succ_of_le sx3) | (with_reducible exact Nat.le_succ_of_le sx4) | (with_reducible exact Nat.le_succ _))
          · first | (with_reducible exact bs1 bx4 sx4) | (with_reducible exact bs2 bx4 (by first | (with_reducible exact Nat.le_refl _) | (with_reducible exact sx3) | (with_reducible exact sx4) | (with_reducible exact Nat.le_succ_of_le sx3) | (with_reducible exact Nat.le_succ_of_le sx4) | (with_reducible exact Nat.le_succ _)) sx4) | (with_reducible exact bs3 bx4 (by first | (with_reducible exact Nat.le_refl _) | (with_reducible exact sx3) | (with_reducible exact sx4) | (with_reducible exact Nat.le_succ_of_le sx3) | (with_reducible exact Nat.le_succ_of_le sx4) | (with_reducible exact Nat.le_succ _)) (by first | (with_reducible exact Nat.le_refl _) | (with_reducible exact sx3) | (with_reducible exact sx4) | (with_reducible exact Nat.le_succ_of_le sx3) | (with_reducible exact Nat.le_succ_of_le sx4) | (with_reducible exact Nat.le_succ _)))
          · dsimp only [countL]
            first | (with_reducible exact rs1) | (with_reducible exact rs2) | (with_reducible exact rs3) | (with_reducible exact rs4 zc) | (with_reducible exact rs4 zd) | (with_reducible exact rs4 ze) | (with_reducible exact rs4 zf) | (with_reducible exact rs5 zc (by first | (with_reducible exact Nat.succ_ne_self _) | (with_reducible exact (Nat.succ_ne_self _).symm) | (with_reducible exact nza) | (with_reducible exact mza) | (with_reducible exact nzb) | (with_reducible exact mzb))) | (with_reducible exact rs5 zd (by first | (with_reducible exact Nat.succ_ne_self _) | (with_reducible exact (Nat.succ_ne_self _).symm) | (with_reducible exact nza) | (with_reducible exact mza) | (with_reducible exact nzb) | (with_reducible exact mzb))) | (with_reducible exact rs5 ze (by first | (with_reducible exact Nat.succ_ne_self _) | (with_reducible exact (Nat.succ_ne_self _).symm) | (with_reducible exact nza) | (with_reducible exact mza) | (with_reducible exact nzb) | (with_reducible exact mzb))) | (with_reducible exact rs5 zf (by first | (with_reducible exact Nat.succ_ne_self _) | (with_reducible exact (Nat.succ_ne_self _).symm) | (with_reducible exact nza) | (with_reducible exact mza) | (with_reducible exact nzb) | (with_reducible exact mzb))) | (with_reducible exact rs6 zc (by first | (with_reducible exact Nat.succ_ne_self _) | (with_reducible exact (Nat.succ_ne_self _).symm) | (with_reducible exact nza) | (with_reducible exact mza) | (with_reducible exact nzb) | (with_reducible exact mzb))) | (with_reducible exact rs6 zd (by first | (with_reducible exact Nat.succ_ne_self _) | (with_reducible exact (Nat.succ_ne_self _).symm) | (with_reducible exact nza) | (with_reducible exact mza) | (with_reducible exact nzb) | (with_reducible exact mzb))) | (with_reducible exact rs6 ze (by first | (with_reducible exact Nat.succ_ne_self _) | (with_reducible exact (Nat.succ_ne_self _).symm) | (with_reducible exact nza) | (with_reducible exact mza) | (with_reducible exact nzb) | (with_reducible exact mzb))) | (with_reducible exact rs6 zf (by first | (with_reducible exact Nat.succ_ne_self _) | (with_reducible exact (Nat.succ_ne_self _).symm) | (with_reducible exact nza) | (with_reducible exact mza) | (with_reducible exact nzb) | (with_reducible exact mzb)))
          · dsimp only [countL]
            first | (with_reducible exact rs1) | (with_reducible exact rs2) | (with_reducible exact rs3) | (with_reducible exact rs4 zc) | (with_reducible exact rs4 zd) | (with_reducible exact rs4 ze) | (with_reducible exact rs4 zf) | (with_reducible exact rs5 zc (by first | (with_reducible exact Nat.succ_ne_self _) | (with_reducible exact (Nat.succ_ne_self _).symm) | (with_reducible exact nza) | (with_reducible exact mza) | (with_reducible exact nzb) | (with_reducible exact mzb))) | (with_reducible exact rs5 zd (by first | (with_reducible exact Nat.succ_ne_self _) | (with_reducible exact (Nat.succ_ne_self _).symm) | (with_reducible exact nza) | (with_reducible exact mza) | (with_reducible exact nzb) | (with_reducible exact mzb))) | (with_reducible exact rs5 ze (by first | (with_reducible exact Nat.succ_ne_self _) | (with_reducible exact (Nat.succ_ne_self _).symm) | (with_reducible exact nza) | (with_reducible exact mza) | (with_reducible exact nzb) | (with_reducible exact mzb))) | (with_reducible exact rs5 zf (by first | (with_reducible exact Nat.succ_ne_self _) | (with_reducible exact (Nat.succ_ne_self _).symm) | (with_reducible exact nza) | (with_reducible exact mza) | (with_reducible exact nzb) | (with_reducible exact mzb))) | (with_reducible exact rs6 zc (by first | (with_reducible exact Nat.succ_ne_self _) | (with_reducible exact (Nat.succ_ne_self _).symm) | (with_reducible exact nza) | (with_reducible exact mza) | (with_reducible exact nzb) | (with_reducible exact mzb))) | (with_reducible exact rs6 zd (by first | (with_reducible exact Nat.succ_ne_self _) | (with_reducible exact (Nat.succ_ne_self _).symm) | (with_reducible exact nza) | (with_reducible exact mza) | (with_reducible exact nzb) | (with_reducible exact mzb))) | (with_reducible exact rs6 ze (by first | (with_reducible exact Nat.succ_ne_self _) | (with_reducible exact (Nat.succ_ne_self _).symm) | (with_reducible exact nza) | (with_reducible exact mza) | (with_reducible exact nzb) | (with_reducible exact mzb))) | (with_reducible exact rs6 zf (by first | (with_reducible exact Nat.succ_ne_self _) | (with_reducible exact (Nat.succ_ne_self _).symm) | (with_reducible exact nza) | (with_reducible exact mza) | (with_reducible exact nzb) | (with_reducible exact mzb)))
          · have R4 : Reads x4 x3.heap.size 1 E4 (playS F (l.take k)).boxes.length (intCells (playS F (l.take k)).boxes) := hC3.s4.below bz4
            have sz4 := bz4.size
            refine Reads.more (B := x3.heap.size) ?_ (by simp; first | exact sz4 | exact Nat.le_succ_of_le sz4 | omega)
            repeat (first | (with_reducible exact R4) | (with_reducible refine rdr5 ?_ (off_hi hC3.s4 (by first | exact Nat.le_refl _ | exact Nat.le_succ _ | exact sz4 | exact Nat.le_succ_of_le sz4))) | (with_reducible refine rdr5 ?_ (off_lo hf3 (by first | exact al_lt _ _ | exact al_lt' _ _ | (simp; done) | (simp; omega)))) | (with_reducible refine Reads.alloc ?_ (by first | exact sz4 | (simp; exact sz4) | (simp; exact Nat.le_succ_of_le sz4) | (simp; omega)) _))
          · have R4 : Reads x4 x4.heap.size 1 G4 (playS F (l.take (k + 1))).boxes.length (intCells (playS F (l.take (k + 1))).boxes) := hC4.s4
            refine Reads.more (B := x4.heap.size) ?_ (by first | (simp; done) | (simp; omega))
            repeat (first | (with_reducible exact R4) | (with_reducible refine rdr5 ?_ (off_hi hC4.s4 (by first | exact Nat.le_refl _ | exact Nat.le_succ _))) | (with_reducible refine rdr5 ?_ (off_lo hf4 (by first | exact al_lt _ _ | exact al_lt' _ _ | (with_reducible assumption) | (simp; done) | (simp; omega)))) | (with_reducible refine Reads.alloc ?_ (by simp) _))
      case rest =>
        obtain ⟨g, h, ⟨E1, e1, E2, e2, E3, e3, E4, e4⟩, ⟨G1, g1, G2, g2, G3, g3, G4, g4⟩, e10, e11, hg, hh, bM, r10, r11, R10, R11⟩ := hcut
        subst e10
        subst e11
        have HC := play_at He.out hk Hgo.out
        have HC' := play_at He.out hlt Hgo2.out
        rw [HC] at r10 R10
        rw [HC'] at r11 R11
        dsimp only [countL] at r10 r11 R10 R11
        have sM := bM.size
        have rNM := hnp.below bM zn
        have hfit := Bounds.fit hv h200 Hgo.out
        have hfit' := Bounds.fit hv h200 Hgo2.out
        have m4 : C.boxes.length ≤ maxLen := by have := hfit.few; unfold maxLen; omega
        have m4' : C'.boxes.length ≤ maxLen := by have := hfit'.few; unfold maxLen; omega
        clear n0 n1 n2 n3 n4 n5 fn q0 q1 q2 q3 q4 q5 q6 q7 d0 d1 d2 d3 d4 HC HC' hfit hfit' HP1 HP2
        obtain ⟨fn, n0, n1, n2, n3, n4, n5⟩ := six rNM
        obtain ⟨_, x0, x1, x2, x3, x4⟩ := Row.at_5 r10
        obtain ⟨_, y0, y1, y2, y3, y4⟩ := Row.at_5 r11
        go_wp2_with fail
        go_region_with (first
          | (go_at_call_of 53 (Value.slice G4 C'.boxes.length g4); go_must (refine (rsum_any C'.boxes G4 _ g4 wc.heap.size _ (by first | exact R11 | exact Reads.drew R11 | exact Reads.drewN R11 _) m4').mono ?_; rintro e y ⟨rfl, rfl⟩))
          | (go_at_call_of 53 (Value.slice E4 C.boxes.length e4); go_must (refine (rsum_any C.boxes E4 _ e4 wc.heap.size _ (by first | exact R10 | exact Reads.drew R10 | exact Reads.drewN R10 _) m4).mono ?_; rintro e y ⟨rfl, rfl⟩)))
        all_goals
          go_wp2_with fail
          go_roundw
          case rel =>
            refine ⟨k + 1, by omega, by go_num, by repeat (first | (with_reducible exact hkp) | (with_reducible refine KeptBut.drewN ?_ _) | (with_reducible refine KeptBut.drew ?_) | (with_reducible refine KeptBut.set ?_ (by simp) _) | (with_reducible refine KeptBut.below ?_ bM)), ?_⟩
            unfold NightP
            rw [Hsu.out, tally_ride hv h200 Hgo.out hk2 Hst.out]
            first | exact rNM.set 1 _ | exact (rNM.drewN _).set 1 _ | exact rNM.drew.set 1 _
          case measure => simp [intOf]; omega
    have hge : ¬ (k : Int) < (l.length : Int) := by omega
    obtain ⟨wo, hwo⟩ : ∃ x, x = wr := ⟨_, rfl⟩
    subst hwo
    have ek : k = l.length := by omega
    unfold NightP at hnp
    rw [ek] at hnp
    have rRr := rRX.kept hkp (by simp; omega)
    have zn := hnp.lt
    clear ek
    go_wp2_with fail
    refine (rPlayed_any F ⟨S1, k1, S2, k2, S3, k3⟩ l A c B wo (by omega) Fr lr He.out).mono ?_
    rintro e w5 ⟨hb5, ⟨E1, e1, E2, e2, E3, e3, E4, e4⟩, rfl, hC5, hf5⟩
    have b5 := below_step br hb5
    have s5 := hb5.size
    have rN5 := hnp.below hb5 zn
    have rR5 := rRr.below hb5 rRr.lt
    have rF5 := rFr.below hb5 rFr.lt
    have hw := went He.out
    have v2 : (playS F l).cash.length ≤ 8 := by rw [hw.inv.n2]; exact hbd.s2
    have v3 : (playS F l).purses.length ≤ 20 := by rw [hw.inv.n3]; have := hbd.p2; omega
    unfold countV
    dsimp only
    clear hw hnp q0 q1 q2 q3 q4 q5 q6 q7 lr rRr rFr Fr
    generalize playS F l = C at *
    generalize nightK F l l.length = a at *
    go_wp2_with fail
    obtain ⟨Y, hY⟩ : ∃ Y, Y = w5.alloc (.cells #[.slice E1 C.stock.length e1, .slice E2 C.cash.length e2, .slice E3 C.purses.length e3, .slice E4 C.boxes.length e4, .int .i64 C.lost] 35) := ⟨_, rfl⟩
    rw [← hY]
    have sY : Y.heap.size = w5.heap.size + 1 := by subst hY; simp
    have bY : Below w.heap.size w Y := by subst hY; exact b5.alloc b5.size _
    have rNY : Row Y w1.heap.size 42 [.int .i64 a.1, .int .i64 a.2.1, .int .i64 a.2.2, .int .i64 (heldS (C.purses.take 0)), .int .i64 0, .int .i64 0] := by subst hY; exact rN5.alloc _
    have rRY : Row Y (w.heap.size + 1) 42 [.int .i64 0, .int .i64 0, .int .i64 0, .int .i64 0, .int .i64 0, .int .i64 0] := by subst hY; exact rR5.alloc _
    have rFY : Row Y w.heap.size 25 [.int .i64 F.purses, .int .i64 F.boxes, .slice S1 F.stock.length k1, .slice S2 F.cash.length k2, .slice S3 F.bundles.length k3, .int .i64 F.refund, .int .i64 F.band, .int .i64 F.hours] := by subst hY; exact rF5.alloc _
    have rCY : Row Y w5.heap.size 35 [.slice E1 C.stock.length e1, .slice E2 C.cash.length e2, .slice E3 C.purses.length e3, .slice E4 C.boxes.length e4, .int .i64 C.lost] := by subst hY; exact row_new _ _ _ _ rfl
    have RP : Reads Y w5.heap.size 2 E3 C.purses.length (purseCells C.purses) := by subst hY; exact hC5.s3.keep fun p hp => World.cell?_alloc_lt w5 _ p hp
    have RC : Reads Y w5.heap.size 1 E2 C.cash.length (intCells C.cash) := by subst hY; exact hC5.s2.keep fun p hp => World.cell?_alloc_lt w5 _ p hp
    clear hY hC5 rN5 rR5 rF5
    go_loopw [13] (fun i wr => ∃ j : Nat, j ≤ C.purses.length ∧ i = .int .i64 j ∧ KeptBut [w1.heap.size] Y wr ∧ Row wr w1.heap.size 42 [.int .i64 a.1, .int .i64 a.2.1, .int .i64 a.2.2, .int .i64 (heldS (C.purses.take j)), .int .i64 0, .int .i64 0]) (fun i _ => C.purses.length - (intOf i).toNat)
    case atStart => exact ⟨0, Nat.zero_le _, rfl, KeptBut.refl _ _, rNY⟩
    case round =>
      obtain ⟨j, hj, rfl, hkq, rN⟩ := hrel
      have sq := hkq.size
      have rCq := rCY.kept hkq (by simp; omega)
      have RPq := RP.kf hkq (N := wo.heap.size) (fun b o e => hf5 b o (.inr (.inr (.inl e)))) zn (by omega)
      have bq : Below w.heap.size w wr := bY.trans (hkq.to_below (by omega) (by simp; omega))
      obtain ⟨fn, n0, n1, n2, n3, n4, n5⟩ := six rN
      obtain ⟨_, x0, x1, x2, x3, x4⟩ := Row.at_5 rCq
      have zn' := rN.lt
      by_cases hlj : j < C.purses.length
      case pos =>
        have hlj' : (j : Int) < (C.purses.length : Int) := by omega
        obtain ⟨pb, po, rfl, hpb, p1, _⟩ := RPq.at3 hlj
        have Hsn := Lib.hid (heldS_snoc C.purses j hlj)
        go_wp2_with fail
        refine wp_tail 10 (by kernel_rfl) (by kernel_rfl) ?_
        simp only [List.take_succ_cons, List.take_zero, List.drop_succ_cons, List.drop_zero]
        repeat still_step
        refine wpStill_nil ?_
        go_wp2_with fail
        go_roundw
        case rel => exact ⟨j + 1, by omega, by go_num, by repeat (first | (with_reducible exact hkq) | (with_reducible refine KeptBut.drewN ?_ _) | (with_reducible refine KeptBut.set ?_ (by simp) _)), by rw [Hsn.out]; exact (rN.drewN _).set 3 _⟩
        case measure => simp [intOf]; omega
      have hgj : ¬ (j : Int) < (C.purses.length : Int) := by omega
      have Hj : Hid (C.purses.take j = C.purses) := by show _ = _; exact List.take_of_length_le (by omega)
      have Fq := hF.below (bq.mono hB)
      have rFq := rFY.kept hkq (by simp; omega)
      have rRq := rRY.kept hkq (by simp; omega)
      have RCq := RC.kf hkq (N := wo.heap.size) (fun b o e => hf5 b o (.inr (.inl e))) zn (by omega)
      go_upto_region 22 with (fail)
      obtain ⟨V, hV⟩ : ∃ V, V = wr.setCell ⟨w1.heap.size, 4, none⟩ (.int .i64 C.lost) := ⟨_, rfl⟩
      rw [← hV]
      have rNV := rN.set 4 (.int .i64 C.lost)
      have bV : Below w.heap.size w V := by subst hV; exact bq.setCell (by dsimp only; omega) _
      have rCV : Row V w5.heap.size 35 [.slice E1 C.stock.length e1, .slice E2 C.cash.length e2, .slice E3 C.purses.length e3, .slice E4 C.boxes.length e4, .int .i64 C.lost] := by subst hV; exact rCq.far (by simp; omega) _
      have rFV : Row V w.heap.size 25 [.int .i64 F.purses, .int .i64 F.boxes, .slice S1 F.stock.length k1, .slice S2 F.cash.length k2, .slice S3 F.bundles.length k3, .int .i64 F.refund, .int .i64 F.band, .int .i64 F.hours] := by subst hV; exact rFq.far (by simp; omega) _
      have rRV : Row V (w.heap.size + 1) 42 [.int .i64 0, .int .i64 0, .int .i64 0, .int .i64 0, .int .i64 0, .int .i64 0] := by subst hV; exact rRq.far (by simp; omega) _
      have RCV : Reads V w5.heap.size 1 E2 C.cash.length (intCells C.cash) := by subst hV; exact RCq.off (fun b o _ e => by have := hf5 b o (.inr (.inl e)); dsimp only; omega) _
      have RFV : Reads V B 1 S2 F.cash.length (intCells F.cash) := by subst hV; exact Fq.s2.setCell (by dsimp only; omega) _
      rw [← hV] at rNV
      have l2 := Fq.l2
      have m2 : C.cash.length ≤ maxLen := by unfold maxLen; omega
      have zR := rRV.lt
      clear hV n0 n1 n2 n3 n4 n5 fn x0 x1 x2 x3 x4
      obtain ⟨fn, n0, n1, n2, n3, n4, n5⟩ := six rNV
      obtain ⟨fr, r0, r1, r2, r3, r4, r5⟩ := six rRV
      obtain ⟨_, x0, x1, x2, x3, x4⟩ := Row.at_5 rCV
      obtain ⟨_, q0, q1, q2, q3, q4, q5, q6, q7⟩ := Row.cells8 rFV
      have ne1 : ¬ w1.heap.size = w.heap.size + 1 := by omega
      have ne2 : ¬ w.heap.size + 1 = w1.heap.size := by omega
      have ne3 : ¬ w1.heap.size = w.heap.size := by omega
      have ne4 : ¬ w.heap.size = w1.heap.size := by omega
      have ne5 : ¬ w1.heap.size = w5.heap.size := by omega
      have ne6 : ¬ w5.heap.size = w1.heap.size := by omega
      go_region_held3 (fun x => x.cell? ⟨w5.heap.size, 1, none⟩ = some (.slice E2 C.cash.length e2) ∧ x.cell? ⟨w.heap.size, 3, none⟩ = some (.slice S2 F.cash.length k2)) (go_keep) (first
        | (go_at_call_of 53 (Value.slice E2 C.cash.length e2); go_must (refine (rsum_any C.cash E2 _ e2 w5.heap.size _ (by first | exact RCV | exact Reads.drew RCV | exact Reads.drewN RCV _) m2).mono ?_; rintro e y ⟨rfl, rfl⟩))
        | (go_at_call_of 53 (Value.slice S2 F.cash.length k2); go_must (refine (rsum_any F.cash S2 _ k2 B _ (by first | exact RFV | exact Reads.drew RFV | exact Reads.drewN RFV _) l2).mono ?_; rintro e y ⟨rfl, rfl⟩)))
      all_goals
        go_wp2_with fail
        refine bodyPost_ret (v := .tuple #[.agg #[.int .i64 a.1, .int .i64 a.2.1, .int .i64 a.2.2, .int .i64 (heldS (C.purses.take j)), .int .i64 C.lost, .int .i64 (wrap64 (sumW C.cash - sumW F.cash))], .int .i64 0]) (by simp [results, Try.results26, go_sem, *]) rfl ?_
        refine ⟨by repeat (first | (with_reducible exact bV) | (with_reducible refine below_drewN ?_ _) | (with_reducible refine Below.drew ?_) | (with_reducible refine Below.setCell ?_ (by dsimp only; omega) _)), ?_⟩
        rw [Hq.out, Hj.out]
        rfl
end Go.Proofs.Ytfcalfccogbgnaa
