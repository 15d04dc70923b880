/- Contracts of sum and Account. Conditions: the arguments read as data. -/
import Derived.Test.YtpcceankhgjjmaaWn
namespace Go.Proofs.Ytpcceankhgjjmaa
open Go.RowKit

theorem sumW_snoc (zs : List Int) (k : Nat) (h : k < zs.length) : sumW (zs.take (k + 1)) = wrap64 (sumW (zs.take k) + zs[k]?.getD 0) := by
  unfold sumW
  rw [List.take_succ_eq_append_getElem h, List.foldl_append, List.getElem?_eq_getElem h]; rfl

set_option maxHeartbeats 400000 in
theorem sum_any (zs : List Int) (A : Option Addr) (n c B : Nat) (w : World) (hr : Reads w B 1 A n (intCells zs)) (hn : n ≤ maxLen) :
    Calls Try.prog 52 #[.slice A n c] w fun e w' => e = .returned (.int .i64 (sumW zs)) ∧ w = w' := by
  unfold maxLen at hn
  go_enter Try.func52, Try.ntmps52
  go_wp2_with fail
  go_loop [3, 8] (fun s i => ∃ k : Nat, k ≤ n ∧ i = .int .i64 k ∧ s = .int .i64 (sumW (zs.take k))) (fun _ i => n - (intOf i).toNat)
  case atStart => exact ⟨0, Nat.zero_le _, rfl, rfl⟩
  case round =>
    obtain ⟨k, hk, rfl, rfl⟩ := hrel
    have hz : zs.length = n := by simpa [intCells] using hr.1
    by_cases hlt : k < n
    · obtain ⟨b, o, rfl, hb, hc⟩ := hr.at1 hlt
      have hck := hc k hlt
      clear hc
      have Hsn := Lib.hid (sumW_snoc zs k (by omega))
      clear hz
      go_wp2
      go_round
      case rel => exact ⟨k + 1, by omega, by go_num, by rw [Hsn.out]⟩
      case measure => simp [intOf]; omega
    · have : k = n := by omega
      subst this
      clear hz
      go_wp2
      go_ret
      refine ⟨ret_int ?_, rfl⟩
      rw [List.take_of_length_le (by have := hr.1; simp [intCells] at this; omega)]

def heldS (l : List Purse) : Int := l.foldl (fun s p => wrap64 (s + p.tokens)) 0
theorem heldS_snoc (l : List Purse) (k : Nat) (h : k < l.length) : heldS (l.take (k + 1)) = wrap64 (heldS (l.take k) + (getp l k).tokens) := by
  unfold heldS
  rw [List.take_succ_eq_append_getElem h, List.foldl_append]; simp [getp, List.getElem?_eq_getElem h]
theorem six {w : World} {g : Nat} {t : TypeId} {v0 v1 v2 v3 v4 v5 : Value} (h : Row w g t [v0, v1, v2, v3, v4, v5]) : (∀ o, w.frozen? ⟨g, o, none⟩ = false) ∧ w.cell? ⟨g, 0, none⟩ = some v0 ∧ w.cell? ⟨g, 1, none⟩ = some v1 ∧ w.cell? ⟨g, 2, none⟩ = some v2 ∧
    w.cell? ⟨g, 3, none⟩ = some v3 ∧ w.cell? ⟨g, 4, none⟩ = some v4 ∧ w.cell? ⟨g, 5, none⟩ = some v5 :=
  ⟨fun o => h.frozen o, h.cell (j := 0) (by simp), h.cell (j := 1) (by simp), h.cell (j := 2) (by simp), h.cell (j := 3) (by simp), h.cell (j := 4) (by simp), h.cell (j := 5) (by simp)⟩
/-- The account of a night, and its error. -/
def accS (F : Fair) (l : List Deal) : List Int × Int :=
  if validB F = false then ([0, 0, 0, 0, 0, 0], 10) else if 200 < l.length then ([0, 0, 0, 0, 0, 0], 2) else
  match goS F l l.length with
  | none => ([0, 0, 0, 0, 0, 0], 11)
  | some (C, _) => ([(nightK F l l.length).1, (nightK F l l.length).2.1, (nightK F l l.length).2.2, heldS C.purses, C.lost, wrap64 (sumW C.cash - sumW F.cash)], 0)
def APost (w : World) (F : Fair) (l : List Deal) (e : Ending) (w' : World) : Prop :=
  Below w.heap.size w w' ∧ e = .returned (.tuple #[.agg (intCells (accS F l).1).toArray, .int .i64 (accS F l).2])

set_option maxHeartbeats 2000000 in
set_option maxRecDepth 100000 in
theorem Account_any (F : Fair) (R : Refs) (l : List Deal) (A : Option Addr) (c B : Nat) (w : World) (hB : B ≤ w.heap.size) (hF : FairIn w B F R) (hl : Reads w B 5 A l.length (dealCells l)) (hn : l.length ≤ maxLen) :
    Calls Try.prog 25 #[fairV F R, .slice A l.length c] w (APost w F l) := by
  obtain ⟨W, hW⟩ : ∃ W, W = ((w.alloc (.cells (fairCells F R) 25)).alloc (.cells #[.int .i64 0, .int .i64 0, .int .i64 0, .int .i64 0, .int .i64 0, .int .i64 0] 42)).alloc (.cells #[.int .i64 0, .int .i64 0, .int .i64 0, .int .i64 0, .int .i64 0, .int .i64 0] 42) := ⟨_, rfl⟩
  have sW : W.heap.size = w.heap.size + 3 := by subst hW; simp
  have bW : Below w.heap.size w W := by subst hW; exact (((Below.refl _ _).alloc (Nat.le_refl _) _).alloc (by simp) _).alloc (by simp; omega) _
  have r1 : Row W (w.heap.size + 1) 42 [.int .i64 0, .int .i64 0, .int .i64 0, .int .i64 0, .int .i64 0, .int .i64 0] := by
    subst hW
    have := Row.new (w.alloc (.cells (fairCells F R) 25)) 42 #[.int .i64 0, .int .i64 0, .int .i64 0, .int .i64 0, .int .i64 0, .int .i64 0]
    simp only [World.size_alloc] at this
    exact this.alloc _
  have r2 : Row W (w.heap.size + 2) 42 [.int .i64 0, .int .i64 0, .int .i64 0, .int .i64 0, .int .i64 0, .int .i64 0] := by
    subst hW
    have := Row.new ((w.alloc (.cells (fairCells F R) 25)).alloc (.cells #[.int .i64 0, .int .i64 0, .int .i64 0, .int .i64 0, .int .i64 0, .int .i64 0] 42)) 42 #[.int .i64 0, .int .i64 0, .int .i64 0, .int .i64 0, .int .i64 0, .int .i64 0]
    simp only [World.size_alloc] at this
    exact this
  have r0 : Row W w.heap.size 25 (fairCells F R).toList := by
    subst hW
    exact ((Row.new w _ _).alloc _).alloc _
  have hFW := hF.below (bW.mono hB)
  have hlW := hl.below (bW.mono hB)
  unfold fairV
  go_enter Try.func25, Try.ntmps25
  go_wp2_with fail
  rw [← hW]
  have HW := Lib.hid hW
  clear hW
  refine (follow_any F R l A c B W 50 #[.pointer (some ⟨w.heap.size + 2, 0, none⟩)] [w.heap.size + 2] (NightP (w.heap.size + 2) F l) (by omega) hFW hlW hn (by simp; omega) ?_ r2 fid_ok50 (tally_ok B _ _ F R l (by omega) (by omega))).mono ?_
  · intro k x x' h hp
    exact Row.keep hp (h _ (by simp)).2
  intro e w1 ⟨hk1, hp⟩
  have b1 : Below w.heap.size w w1 := by
    refine bW.trans (hk1.to_below (by omega) ?_)
    simp
  have s1 := hk1.size
  have q1 := r1.kept hk1 (by simp)
  have q0 := r0.kept hk1 (by simp)
  have F1 := hF.below (b1.mono hB)
  have z0 : w.heap.size < w1.heap.size := by omega
  have z1 : w.heap.size + 1 < w1.heap.size := by omega
  have z2 : w.heap.size + 2 < w1.heap.size := by omega
  have SW := Lib.hid sW
  clear sW
  rcases hp with ⟨hv, rfl⟩ | ⟨hv, h200, rfl⟩ | ⟨hv, h200, hg, rfl⟩ | ⟨hv, h200, C, t, L, hg, hS, hL0, hP, rfl⟩
  · have Hq : Hid (accS F l = ([0, 0, 0, 0, 0, 0], 10)) := by show _ = _; simp [accS, hv]
    obtain ⟨f0, k0, k1, k2, k3, k4, k5⟩ := six q1
    go_wp2_with fail
    refine bodyPost_ret (v := .tuple #[.agg #[.int .i64 0, .int .i64 0, .int .i64 0, .int .i64 0, .int .i64 0, .int .i64 0], .int .i64 10]) (by simp [results, Try.results25, go_sem, *]) rfl ?_
    refine ⟨?_, by rw [Hq.out]; rfl⟩
    repeat (first | (with_reducible exact b1) | (with_reducible refine Below.alloc ?_ (by simp; omega) _) | (with_reducible refine Below.setCell ?_ (by simp) _))
  · have Hq : Hid (accS F l = ([0, 0, 0, 0, 0, 0], 2)) := by show _ = _; simp [accS, hv, h200]
    obtain ⟨f0, k0, k1, k2, k3, k4, k5⟩ := six q1
    go_wp2_with fail
    refine bodyPost_ret (v := .tuple #[.agg #[.int .i64 0, .int .i64 0, .int .i64 0, .int .i64 0, .int .i64 0, .int .i64 0], .int .i64 2]) (by simp [results, Try.results25, go_sem, *]) rfl ?_
    refine ⟨?_, by rw [Hq.out]; rfl⟩
    repeat (first | (with_reducible exact b1) | (with_reducible refine Below.alloc ?_ (by simp; omega) _) | (with_reducible refine Below.setCell ?_ (by simp) _))
  · have Hq : Hid (accS F l = ([0, 0, 0, 0, 0, 0], 11)) := by show _ = _; simp [accS, hv, hg]; omega
    obtain ⟨f0, k0, k1, k2, k3, k4, k5⟩ := six q1
    go_wp2_with fail
    refine bodyPost_ret (v := .tuple #[.agg #[.int .i64 0, .int .i64 0, .int .i64 0, .int .i64 0, .int .i64 0, .int .i64 0], .int .i64 11]) (by simp [results, Try.results25, go_sem, *]) rfl ?_
    refine ⟨?_, by rw [Hq.out]; rfl⟩
    repeat (first | (with_reducible exact b1) | (with_reducible refine Below.alloc ?_ (by simp; omega) _) | (with_reducible refine Below.setCell ?_ (by simp) _))
  · have hbd := bounds_of hv
    have m1 : max F.purses 0 = F.purses := by have := hbd.p1; omega
    have p1 := hbd.p1
    have p2 := hbd.p2
    have hP' : Row w1 (w.heap.size + 1 + 1) 42 [.int .i64 (nightK F l l.length).1, .int .i64 (nightK F l l.length).2.1, .int .i64 (nightK F l l.length).2.2, .int .i64 0, .int .i64 0, .int .i64 0] := hP
    have hS1 := Std.copy hS
    obtain ⟨W1, hW1⟩ : ∃ W1, W1 = w1.alloc (.cells (standCells F R L C).toArray 80) := ⟨_, rfl⟩
    rw [← hW1] at hS1
    have hQ : Row W1 (w.heap.size + 1 + 1) 42 [.int .i64 (nightK F l l.length).1, .int .i64 (nightK F l l.length).2.1, .int .i64 (nightK F l l.length).2.2, .int .i64 0, .int .i64 0, .int .i64 0] := by rw [hW1]; exact hP'.alloc _
    have t1 : Row W1 (w.heap.size + 1) 42 [.int .i64 0, .int .i64 0, .int .i64 0, .int .i64 0, .int .i64 0, .int .i64 0] := by rw [hW1]; exact q1.alloc _
    have t0 : Row W1 w.heap.size 25 (fairCells F R).toList := by rw [hW1]; exact q0.alloc _
    have bW1 : Below w.heap.size w W1 := by rw [hW1]; exact b1.alloc (by omega) _
    have sW1 : W1.heap.size = w1.heap.size + 1 := by rw [hW1]; simp
    have hacc : Hid (accS F l = ([(nightK F l l.length).1, (nightK F l l.length).2.1, (nightK F l l.length).2.2, heldS C.purses, C.lost, wrap64 (sumW C.cash - sumW F.cash)], 0)) := by show _ = _; simp [accS, hv, hg]; omega
    have hgn : w.heap.size + 1 + 1 ∉ L.all := fun hm => by have := hL0 _ hm; have := SW.out; omega
    generalize nightK F l l.length = a at *
    go_wp2_with fail
    have HW1 := Lib.hid hW1
    have SW1 := Lib.hid sW1
    clear hW1 sW1
    go_loopw [28] (fun i wr => ∃ k : Nat, k ≤ F.purses.toNat ∧ i = .int .i64 k ∧ KeptBut [w.heap.size + 1 + 1] W1 wr ∧ Row wr (w.heap.size + 1 + 1) 42 [.int .i64 a.1, .int .i64 a.2.1, .int .i64 a.2.2, .int .i64 (heldS (C.purses.take k)), .int .i64 0, .int .i64 0]) (fun i _ => F.purses.toNat - (intOf i).toNat)
    case atStart => exact ⟨0, Nat.zero_le _, rfl, by rw [HW1.out]; exact KeptBut.refl _ _, by have := hQ; rw [HW1.out] at this; exact this⟩
    case round =>
      obtain ⟨k, hk, rfl, hkr, hr⟩ := hrel
      have hSr : Std wr B F R { L with bs := w1.heap.size } C := StandIn.kept hS1 hkr fun x hx => by
        simp at hx; subst hx
        refine ⟨by omega, fun hm => ?_⟩
        simp only [Locs.all, List.mem_cons, List.not_mem_nil, or_false] at hm hgn
        omega
      obtain ⟨f0, k0, k1, k2, k3, k4, k5⟩ := six hr
      have zr := hkr.size
      have zr' : w.heap.size + 1 + 1 < wr.heap.size := by have := SW1.out; omega
      by_cases hlt : k < F.purses.toNat
      · have hlt1 : (k : Int) < F.purses := by omega
        have hlt2 : (k : Int) < (F.purses.toNat : Int) := by omega
        obtain ⟨pc, pc'⟩ := StandIn.purse hSr k hlt
        have lg3 : L.g3 < wr.heap.size := (StandIn.r3 hSr).lt
        have Hsn := Lib.hid (heldS_snoc C.purses k (by rw [hS.n3]; exact hlt))
        go_wp2_with fail
        go_roundw
        case rel => exact ⟨k + 1, by omega, by go_num, by repeat (first | (with_reducible exact hkr) | (with_reducible refine KeptBut.alloc ?_ _) | (with_reducible refine KeptBut.set ?_ (by simp) _)), by rw [Hsn.out]; first | exact (hr.set 3 _).alloc _ | exact (hr.alloc _).set 3 _⟩
        case measure => simp [intOf]; omega
      · have hge : ¬ (k : Int) < F.purses := by omega
        have ek : k = F.purses.toNat := by omega
        have Hk := Lib.hid ek
        clear ek
        obtain ⟨_, _, _, _, _, _, _, _, _, d9, _, _, d12⟩ := scells hSr
        dsimp only at d9 d12
        have c3' : wr.cell? ⟨w.heap.size, 3, none⟩ = some (.slice R.A2 F.cash.length R.c2) := (t0.kept hkr (by simp; omega)).cell (j := 3) (by simp)
        have RX1 : Reads (wr.setCell ⟨w.heap.size + 1 + 1, 4, none⟩ (.int .i64 C.lost)) wr.heap.size 1 (some ⟨L.g2, 0, none⟩) F.stock.length (intCells C.cash) :=
          ((StandIn.r2 hSr).far (by simp; intro e; apply hgn; simp [Locs.all, ← e]) _).reads (by rw [intCells_length, hS.n2]; omega) (StandIn.r2 hSr).lt
        have RX2 : Reads (wr.setCell ⟨w.heap.size + 1 + 1, 4, none⟩ (.int .i64 C.lost)) B 1 R.A2 F.cash.length (intCells F.cash) :=
          ((StandIn.fair hSr).s2).setCell (by simp; omega) _
        have lc := (StandIn.fair hSr).l2
        have ls := (StandIn.fair hSr).l1
        have nn0 : ¬ w.heap.size = w.heap.size + 1 + 1 := by omega
        obtain ⟨_, m0, m1', m2, m3, m4, m5⟩ := six (t1.kept hkr (by simp))
        have mf := fun o => (t1.kept hkr (by simp)).frozen o
        have nn1 : ¬ w.heap.size + 1 = w.heap.size + 1 + 1 := by omega
        have nn2 : ¬ w.heap.size + 1 + 1 = w.heap.size + 1 := by omega
        go_wp2_with fail
        go_region_with (first | (go_at_call_of 52 (Value.slice (some { block := L.g2, off := 0 }) F.stock.length L.c2); go_must (refine (sum_any C.cash _ _ _ wr.heap.size (World.drew (wr.setCell ⟨w.heap.size + 1 + 1, 4, none⟩ (.int .i64 C.lost))) (RX1.keep fun _ _ => rfl) ls).mono ?_; rintro e y ⟨rfl, rfl⟩)) | (go_at_call 52; go_must (refine (sum_any F.cash _ _ _ B (World.drew (wr.setCell ⟨w.heap.size + 1 + 1, 4, none⟩ (.int .i64 C.lost))) (RX2.keep fun _ _ => rfl) lc).mono ?_; rintro e y ⟨rfl, rfl⟩)))
        all_goals
          go_wp2_with fail
          refine bodyPost_ret (v := .tuple #[.agg #[.int .i64 a.1, .int .i64 a.2.1, .int .i64 a.2.2, .int .i64 (heldS (C.purses.take k)), .int .i64 C.lost, .int .i64 (wrap64 (sumW C.cash - sumW F.cash))], .int .i64 0]) (by simp [results, Try.results25, go_sem, *]) rfl ?_
          have bR : Below w.heap.size w wr := bW1.trans (hkr.to_below (by have := SW1.out; omega) (by simp; omega))
          refine ⟨by repeat (first | (with_reducible exact bR) | (with_reducible refine Below.drew ?_) | (with_reducible refine below_drewN ?_ _) | (with_reducible refine Below.setCell ?_ (by dsimp only; omega) _)), ?_⟩
          rw [hacc.out, List.take_of_length_le (by rw [hS.n3, Hk.out]; exact Nat.le_refl _)]
          rfl
end Go.Proofs.Ytpcceankhgjjmaa
