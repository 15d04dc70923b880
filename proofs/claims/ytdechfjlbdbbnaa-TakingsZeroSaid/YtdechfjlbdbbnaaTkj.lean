/- Contracts of cmp.Compare, of split's closure, and of the library's stable sort on at most ten numbers. -/
import Derived.Test.YtdechfjlbdbbnaaTke
import Derived.Test.YtdechfjlbdbbnaaTka
import Derived.Test.YtdechfjlbdbbnaaSt
namespace Go.Proofs.Ytdechfjlbdbbnaa
open Go.RowKit Go.Shelf Go.Lib Go.Sort

theorem isNaN_int (x : Int) (w : World) : Calls Try.prog 82 #[.int .i64 x] w fun e w' => e = .returned (.bool false) ∧ w' = w := by
  go_enter Try.func82, Try.ntmps82
  go_wp2_with fail
  go_ret
  exact ⟨ret_boolT (by simp), rfl⟩
def cmpZ (x y : Int) : Int := if x < y then -1 else if y < x then 1 else 0
theorem compare_int (x y : Int) (w : World) : Calls Try.prog 70 #[.int .i64 x, .int .i64 y] w fun e w' => e = .returned (.int .i64 (cmpZ x y)) ∧ w' = w := by
  have HV : Hid (cmpZ x y = if x < y then -1 else if y < x then 1 else 0) := rfl
  generalize cmpZ x y = v at HV ⊢
  rcases Int.lt_trichotomy x y with h | h | h
  · rw [if_pos h] at HV
    have hv := HV.out
    subst hv
    clear HV
    go_enter Try.func70, Try.ntmps70
    go_wp2_with (go_at_call 82; refine (isNaN_int _ _).mono ?_; rintro e w' ⟨rfl, rfl⟩)
    go_ret
    exact ⟨rfl, rfl⟩
  · subst h
    rw [if_neg (Int.lt_irrefl x), if_neg (Int.lt_irrefl x)] at HV
    have hv := HV.out
    subst hv
    clear HV
    go_enter Try.func70, Try.ntmps70
    go_wp2_with (go_at_call 82; refine (isNaN_int _ _).mono ?_; rintro e w' ⟨rfl, rfl⟩)
    go_ret
    exact ⟨rfl, rfl⟩
  · have h2 : ¬ x < y := by omega
    rw [if_neg h2, if_pos h] at HV
    have hv := HV.out
    subst hv
    clear HV
    go_enter Try.func70, Try.ntmps70
    go_wp2_with (go_at_call 82; refine (isNaN_int _ _).mono ?_; rintro e w' ⟨rfl, rfl⟩)
    go_ret
    exact ⟨rfl, rfl⟩
set_option maxHeartbeats 1000000 in
set_option maxRecDepth 100000 in
theorem splitC_any (C : Nat → Int) (g1 g2 n c x y : Nat) (hx : x < n) (hy : y < n) (_ : n ≤ 10) (w : World) (q : w.cell? ⟨g2, 0, none⟩ = some (.slice (some ⟨g1, 0, none⟩) n c)) (hc : ∀ j, j < n → w.cell? ⟨g1, j, none⟩ = some (.int .i64 (C j))) (_ : g1 < w.heap.size) (_ : g2 < w.heap.size) :
    Calls Try.prog 69 #[.int .i64 (x : Int), .int .i64 (y : Int), .pointer (some ⟨g2, 0, none⟩)] w fun e w' => e = .returned (.int .i64 (cmpZ (C y) (C x))) ∧ ∃ k, w' = w.drewN k := by
  have cx := hc x hx
  have cy := hc y hy
  have x0 : ¬ (x : Int) < 0 := by omega
  have x1 : (x : Int) < (n : Int) := by omega
  have y0 : ¬ (y : Int) < 0 := by omega
  have y1 : (y : Int) < (n : Int) := by omega
  clear hc
  go_enter Try.func69, Try.ntmps69
  go_upto_region 1 with fail
  go_quiet (first | (go_at_call 70; refine Calls.quiet_of_same (compare_int _ _ _)))
  go_wp2_with fail
  go_ret
  exact ⟨rfl, nq, rfl⟩
set_option maxHeartbeats 1000000 in
set_option maxRecDepth 100000 in
theorem SortStable_any (n : Nat) (hn : n ≤ 10) (enc : Nat → Value) (cf : Nat → Nat → Int) (fid : FuncId) (cb : Array Value) (blk cap : Nat) (w : World) (eg : ∀ args w, (callFunc fid args).run Try.prog w = .ok (.enter fid args) w)
    (hO : OneCell enc) (hcmp : CmpLays1 Try.prog fid cb enc cf blk 0 n w) (hH : Holds enc w blk 0 (Array.range n)) (hblk : blk < w.heap.size) :
    Calls Try.prog 68 #[.slice (some ⟨blk, 0, none⟩) n cap, .func (.func fid) #[] cb] w fun e w' => e = .returned (.tuple #[]) ∧ SW enc w blk 0 (Sort.insertionSort (ltOf cf) (Array.range n) 0 n) w' := by
  have HI : Hid (∀ X, SW enc w blk 0 (Array.range n) X → Calls Try.prog 87 #[.slice (some ⟨blk, 0, none⟩) n cap, .int .i64 0, .int .i64 n, .func (.func fid) #[] cb] X fun e w' => e = .returned (.tuple #[]) ∧ SW enc w blk 0 (Sort.insertionSort (ltOf cf) (Array.range n) 0 n) w') := fun X hX => by
    have h := Any.insertionSortCmpFunc_s Try.laysIns enc cf fid cb blk 0 cap 0 n (Array.range n) (Array.range n) w X eg (by simpa using hcmp) ⟨hO, hH, hblk⟩ rfl hX (by omega) (by simp) (by simp; omega)
    simp only [Array.size_range] at h
    exact h
  have HS : Hid (SW enc w blk 0 (Array.range n) w) := SW.start hH
  have HT : Hid (Calls Try.prog 81 #[.slice (some ⟨blk, 0, none⟩) n cap, .int .i64 n, .func (.func fid) #[] cb] w fun e w' => e = .returned (.tuple #[]) ∧ SW enc w blk 0 (Sort.insertionSort (ltOf cf) (Array.range n) 0 n) w') := by
    show Calls _ _ _ _ _
    clear hcmp hH
    have h20 : ¬ (20 : Int) ≤ (n : Int) := by omega
    have h21 : ¬ (20 : Int) < (n : Int) := by omega
    go_enter Try.func81, Try.ntmps81
    go_wp2_with fail
    go_loopw [7, 8] (fun a b wr => a = .int .i64 0 ∧ b = .int .i64 20 ∧ SW enc w blk 0 (Array.range n) wr) (fun _ _ _ => 0)
    case atStart => exact ⟨rfl, rfl, HS.out⟩
    case round =>
      obtain ⟨rfl, rfl, hsw⟩ := hrel
      have HW := Lib.hid hsw
      clear hsw
      go_wp2_with (go_at_call 87; refine (HI.out _ HW.out).mono ?_; rintro e X ⟨rfl, hX⟩; have HX := Lib.hid hX; clear hX HI)
      go_loopw [6, 7, 8] (fun bs _ _ wr => bs = .int .i64 20 ∧ SW enc w blk 0 (Sort.insertionSort (ltOf cf) (Array.range n) 0 n) wr) (fun _ _ _ _ => 0)
      case atStart => exact ⟨rfl, HX.out⟩
      case round =>
        obtain ⟨rfl, hr⟩ := hrel
        have HR := Lib.hid hr
        clear hr
        go_wp2_with fail
        go_end0
        exact ⟨rfl, HR.out⟩
  clear hcmp hH HI HS
  go_enter Try.func68, Try.ntmps68
  go_wp2_with (go_at_call 81; refine HT.out.mono ?_; rintro e X ⟨rfl, hX⟩; have HX := Lib.hid hX; clear hX)
  go_end0
  exact ⟨rfl, HX.out⟩
end Go.Proofs.Ytdechfjlbdbbnaa
