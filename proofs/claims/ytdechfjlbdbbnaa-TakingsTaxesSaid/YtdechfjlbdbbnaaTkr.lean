/- The walk of TakingsTaxes. Conditions: brackets that read as data. -/
import Derived.Test.YtdechfjlbdbbnaaTkq
namespace Go.Proofs.Ytdechfjlbdbbnaa
open Go.RowKit Go.Shelf

set_option maxHeartbeats 4000000 in
set_option maxRecDepth 100000 in
theorem taxes_walk {w : World} (c : Int) (l : List BrZ) (A : Option Addr) (ca : Nat) (hr : Reads w w.heap.size 2 A l.length (brCells l)) (hm : l.length ≤ maxLen) :
    Calls Try.prog 8 #[.int .i64 c, .slice A l.length ca] w (TrueT w) := by
  have HT : Hid (∀ X, Below w.heap.size w X → Calls Try.prog 31 #[.int .i64 c, .slice A l.length ca] X fun e w' => e = .returned (.tuple #[.int .i64 (taxR c l).1, .int .i64 (taxR c l).2]) ∧ Below w.heap.size w w') := fun X hX => (Tax_any l A ca w.heap.size c X hX.size (hr.below hX) hm).mono fun e w' h => ⟨h.1, hX.trans (h.2.mono hX.size)⟩
  have HRT : Hid (∀ X, Below w.heap.size w X → Calls Try.prog 32 #[.int .i64 c, .slice A l.length ca] X fun e w' => e = .returned (.tuple #[.int .i64 (taxR c l).1, .int .i64 (taxR c l).2]) ∧ Below w.heap.size w w') := fun X hX => (rTax_any l A ca w.heap.size c X hX.size (hr.below hX) hm).mono fun e w' h => ⟨h.1, hX.trans (h.2.mono hX.size)⟩
  have HN : Hid (∀ X, Below w.heap.size w X → Calls Try.prog 33 #[.int .i64 c, .slice A l.length ca] X fun e w' => ∃ n e', e = .returned (.tuple #[.int .i64 n, .int .i64 e']) ∧ NetR c l n e' ∧ Below w.heap.size w w') := fun X hX => (Net_any l A ca w.heap.size c X hX.size (hr.below hX) hm).mono fun e w' ⟨n, e', h1, h2, h3⟩ => ⟨n, e', h1, h2, hX.trans (h3.mono hX.size)⟩
  have HRN : Hid (∀ X, Below w.heap.size w X → Calls Try.prog 34 #[.int .i64 c, .slice A l.length ca] X fun e w' => ∃ n e', e = .returned (.tuple #[.int .i64 n, .int .i64 e']) ∧ NetR c l n e' ∧ Below w.heap.size w w') := fun X hX => (rNet_any l A ca w.heap.size c X hX.size (hr.below hX) hm).mono fun e w' ⟨n, e', h1, h2, h3⟩ => ⟨n, e', h1, h2, hX.trans (h3.mono hX.size)⟩
  have HW : Hid (∀ X, Below w.heap.size w X → Calls Try.prog 20 #[] X fun e w' => e = .returned (.bool true) ∧ Below w.heap.size w w') := fun X hX => (works_any X).mono fun e w' h => ⟨h.1, hX.trans (h.2.mono hX.size)⟩
  have B0 := Lib.hid (Below.refl w.heap.size w)
  clear hr hm
  generalize taxR c l = t at HT HRT
  obtain ⟨t1, t2⟩ := t
  go_enter Try.func8, Try.ntmps8
  go_upto_region 2 with (go_at_call 31; refine (HT.out _ B0.out).mono ?_; rintro e w' ⟨rfl, hb⟩; have B1 := Lib.hid hb; clear hb)
  go_upto_region 3 with (go_at_call 32; refine (HRT.out _ B1.out).mono ?_; rintro e w' ⟨rfl, hb⟩; have B2 := Lib.hid hb; clear hb)
  go_upto_region 6 with (go_at_call 33; refine (HN.out _ B2.out).mono ?_; rintro e w' ⟨n, e', rfl, hn, hb⟩; have B3 := Lib.hid hb; have HN1 := Lib.hid hn; clear hb hn)
  go_upto_region 7 with (go_at_call 34; refine (HRN.out _ B3.out).mono ?_; rintro e w' ⟨m, f', rfl, hn, hb⟩; have B4 := Lib.hid hb; have HN2 := Lib.hid hn; clear hb hn)
  obtain ⟨rfl, rfl⟩ := HN1.out.uniq HN2.out
  clear HN1 HN2 HT HRT HN HRN
  go_wp2_with (go_at_call 20; refine (HW.out _ B4.out).mono ?_; rintro e w' ⟨rfl, hb⟩; have BW := Lib.hid hb; clear hb)
  go_ret
  exact ⟨ret_boolT (by simp), BW.out⟩
end Go.Proofs.Ytdechfjlbdbbnaa
