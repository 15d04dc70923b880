/- Contracts of allPoints, valid (of a path), validMotor, validLimit, checkMotion, checkLimited. Conditions: a path reads as points. -/
import Derived.Test.YtkmiapfkebdpbaaKb
namespace Go.Proofs.Ytkmiapfkebdpbaa
open Go.RowKit

theorem allWithin_new (zs : List Int) (cs : Array Value) (hcs : cs = (nums zs).toArray) (n c : Nat) (hn : n = zs.length) (hz : zs.length ≤ 8) (t : TypeId) (lo hi : Int) (g : Nat) (w : World) (hg : w.heap.size = g) :
    Calls Try.prog 47 #[.int .i64 lo, .int .i64 hi, .slice (some ⟨g, 0, none⟩) n c] (w.alloc (.cells cs t)) fun e w' => e = .returned (.bool (allB zs lo hi)) ∧ w' = w.alloc (.cells cs t) := by
  subst hcs hn hg
  refine (allWithin_any zs _ _ c (w.heap.size + 1) lo hi _ ?_ (by unfold maxLen; omega)).mono (fun e w' ⟨h1, h2⟩ => ⟨h1, h2.symm⟩)
  have h := Row.new w t (nums zs).toArray
  exact h.reads (by simp [nums]) (Nat.lt_succ_self _)

set_option maxHeartbeats 1000000 in
theorem validMotor_any (m : Mot) (w : World) :
    Calls Try.prog 65 #[motV m] w fun e w' => e = .returned (.bool (motB m)) ∧ Below w.heap.size w w' := by
  unfold motV
  go_enter Try.func65, Try.ntmps65
  go_wp2_with (go_at_call 47; refine (allWithin_new [m.top, m.ease, m.jerk] _ (by rfl) _ _ rfl (by simp) _ _ _ _ _ (by simp)).mono ?_; rintro e w' ⟨rfl, rfl⟩)
  all_goals (go_ret; exact ⟨ret_bool (by simp [motB, *]), ((Below.refl _ _).alloc (Nat.le_refl _) _).alloc (by simp) _⟩)

set_option maxRecDepth 100000 in
set_option maxHeartbeats 1000000 in
theorem validLimit_any (x : Lim) (w : World) :
    Calls Try.prog 81 #[limV x] w fun e w' => e = .returned (.bool (limB x)) ∧ Below w.heap.size w w' := by
  unfold limV
  have b0 : Below w.heap.size w (w.alloc (.cells #[.int .i64 x.side, .int .i64 x.low, .int .i64 x.high] 37)) := (Below.refl _ _).alloc (Nat.le_refl _) _
  have b1 := b0.alloc b0.size (.cells #[.int .i64 x.side] 3)
  go_enter Try.func81, Try.ntmps81
  go_wp2_with fail
  refine (allWithin_new [x.side] _ (by rfl) _ _ rfl (by simp) _ _ _ _ _ (by simp)).mono ?_
  rintro e w' ⟨rfl, rfl⟩
  go_wp2_with fail
  · have h1 : allB [x.side] 0 200000 = true := by assumption
    refine (allWithin_new [x.low, x.high] _ (by rfl) _ _ rfl (by simp) _ _ _ _ _ (by simp)).mono ?_
    rintro e w' ⟨rfl, rfl⟩
    go_wp2_with fail
    all_goals
      go_ret
      refine ⟨ret_bool ?_, b1.alloc b1.size _⟩
      have h2 : inB x.side 0 200000 = true := by simpa [allB] using h1
      simp [limB, *]
  · have h1 : ¬ allB [x.side] 0 200000 = true := by assumption
    go_ret
    refine ⟨ret_bool ?_, b1⟩
    have h2 : inB x.side 0 200000 = false := by simpa [allB] using h1
    simp [limB, h2]

theorem all_snoc {α : Type} (p : α → Bool) (d : α) (l : List α) (k : Nat) (h : k < l.length) : (l.take (k + 1)).all p = ((l.take k).all p && p (l[k]?.getD d)) := by
  rw [List.take_succ_eq_append_getElem h, List.all_append]; simp [List.getElem?_eq_getElem h]
theorem all_no {α : Type} (p : α → Bool) (d : α) (l : List α) (k : Nat) (hk : k < l.length) (h : p (l[k]?.getD d) = false) : l.all p = false := by
  rw [List.all_eq_false]
  refine ⟨l[k], List.getElem_mem hk, ?_⟩
  rw [List.getElem?_eq_getElem hk] at h
  simpa using h

set_option maxHeartbeats 1000000 in
theorem allPoints_any (l : List Pt) (A : Option Addr) (n c B : Nat) (w : World) (hB : B ≤ w.heap.size) (hr : Reads w B 3 A n (ptCells l)) (hn : n ≤ maxLen) :
    Calls Try.prog 79 #[.slice A n c] w fun e w' => e = .returned (.bool (l.all spanB)) ∧ Below w.heap.size w w' := by
  unfold maxLen at hn
  go_enter Try.func79, Try.ntmps79
  go_wp2_with fail
  go_loopw [7] (fun i wr => ∃ k : Nat, k ≤ n ∧ i = .int .i64 k ∧ Below w.heap.size w wr ∧ (l.take k).all spanB = true) (fun i _ => n - (intOf i).toNat)
  case atStart => exact ⟨0, Nat.zero_le _, rfl, Below.refl _ _, rfl⟩
  case round =>
    obtain ⟨k, hk, rfl, hbel, hall⟩ := hrel
    have Hall := Lib.hid hall
    clear hall
    have hs := hbel.size
    have hz := Lib.hid hr.len_pt
    by_cases hlt : k < n
    · obtain ⟨b, o, rfl, hb, q0, q1, q2⟩ := (hr.below (hbel.mono hB)).atp hlt
      have Hsn := Lib.hid (all_snoc spanB ⟨0, 0, 0⟩ l k (by have := hz.out; omega))
      have Hno := Lib.hid (all_no spanB ⟨0, 0, 0⟩ l k (by have := hz.out; omega))
      go_wp2_with (go_at_call 47; refine (allWithin_new [(ptAt l k).x, (ptAt l k).y, (ptAt l k).z] _ (by rfl) _ _ rfl (by simp) _ _ _ _ _ (by simp)).mono ?_; rintro e w' ⟨rfl, rfl⟩)
      · go_ret
        refine ⟨ret_bool (Hno.out (show spanB (ptAt l k) = false from ?_)).symm, (hbel.alloc hs _).alloc (by simp; omega) _⟩
        simpa [spanB] using (by assumption : (!allB [(ptAt l k).x, (ptAt l k).y, (ptAt l k).z] (-10000) 10000) = true)
      · go_roundw
        case rel =>
          refine ⟨k + 1, by omega, by go_num, (hbel.alloc hs _).alloc (by simp; omega) _, ?_⟩
          rw [Hsn.out, Hall.out]
          show spanB (ptAt l k) = true
          simpa [spanB] using (by assumption : (!allB [(ptAt l k).x, (ptAt l k).y, (ptAt l k).z] (-10000) 10000) = false)
        case measure => simp [intOf]; omega
    · have : k = n := by omega
      subst this
      go_wp2
      go_ret
      refine ⟨ret_bool ?_, hbel⟩
      have h := Hall.out
      rw [List.take_of_length_le (by have := hz.out; omega)] at h
      exact h.symm

set_option maxHeartbeats 1000000 in
theorem validPath_any (t : List Pt) (A : Option Addr) (c B : Nat) (w : World) (hB : B ≤ w.heap.size) (hr : Reads w B 3 A t.length (ptCells t)) (hn : t.length ≤ maxLen) :
    Calls Try.prog 46 #[.slice A t.length c] w fun e w' => e = .returned (.bool (pathB t)) ∧ Below w.heap.size w w' := by
  have hn' := hn
  unfold maxLen at hn'
  go_enter Try.func46, Try.ntmps46
  go_wp2_with (first
    | (go_at_call 47; refine (allWithin_new [(t.length : Int)] _ (by rfl) _ _ rfl (by simp) _ _ _ _ _ rfl).mono ?_; rintro e w' ⟨rfl, rfl⟩)
    | (go_at_call 79; refine (allPoints_any t _ _ _ B _ (by simp; omega) (hr.alloc hB _) hn).mono ?_; rintro e w1 ⟨rfl, hb1⟩))
  · go_ret
    refine ⟨ret_bool ?_, ((Below.refl _ _).alloc (Nat.le_refl _) _).trans (hb1.mono (by simp))⟩
    simp [pathB, inB, allB, *] at *
    simp [*]
  · go_ret
    refine ⟨ret_bool ?_, (Below.refl _ _).alloc (Nat.le_refl _) _⟩
    simp [pathB, inB, allB] at *
    intro h1 h2
    omega
end Go.Proofs.Ytkmiapfkebdpbaa
