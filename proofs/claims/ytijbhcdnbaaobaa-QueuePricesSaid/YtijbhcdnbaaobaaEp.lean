/- Contract of the law's sameInts at equal lists. Conditions: the lists read as data. -/
import Derived.Test.YtijbhcdnbaaobaaEb
namespace Go.Proofs.Ytijbhcdnbaaobaa
open Go.RowKit

set_option maxHeartbeats 1000000 in
theorem sameInts_eq (xs : List Int) (A A' : Option Addr) (c c' B B' : Nat) (w : World) (hr : Reads w B 1 A xs.length (xs.map (Value.int .i64))) (hs : Reads w B' 1 A' xs.length (xs.map (Value.int .i64))) (hB : B ≤ w.heap.size) (hB' : B' ≤ w.heap.size) (hm : xs.length ≤ 1000) :
    Calls Try.prog 29 #[.slice A xs.length c, .slice A' xs.length c'] w fun e w' => e = .returned (.bool true) ∧ Below w.heap.size w w' := by
  have HR := Lib.hid hr
  have HS := Lib.hid hs
  clear hr hs
  go_enter Try.func29, Try.ntmps29
  go_wp2_with fail
  go_loopw [5] (fun i wr => ∃ k : Nat, k ≤ xs.length ∧ i = .int .i64 k ∧ Below w.heap.size w wr) (fun i _ => xs.length - (intOf i).toNat)
  case atStart => exact ⟨0, Nat.zero_le _, rfl, Below.refl _ _⟩
  case round =>
    obtain ⟨k, hk, rfl, hbel⟩ := hrel
    have HB := Lib.hid hbel
    by_cases hlt : k < xs.length
    · have hlt' : (k : Int) < (xs.length : Int) := by omega
      obtain ⟨b, o, rfl, hb, hc⟩ := HR.out.2 (by omega)
      obtain ⟨b', o', rfl, hb', hc'⟩ := HS.out.2 (by omega)
      have hx : (xs.map (Value.int .i64))[k]? = some (.int .i64 xs[k]) := by rw [List.getElem?_map, List.getElem?_eq_getElem hlt]; rfl
      have hb1 : b < w.heap.size := by omega
      have hb1' : b' < w.heap.size := by omega
      have q1 := (hbel.cell (p := ⟨b, o + k, none⟩) hb1).trans (hc k _ hx)
      have q2 := (hbel.cell (p := ⟨b', o' + k, none⟩) hb1').trans (hc' k _ hx)
      have l1 : b < wr.heap.size := Nat.lt_of_lt_of_le hb1 hbel.size
      have l2 : b' < wr.heap.size := Nat.lt_of_lt_of_le hb1' hbel.size
      have e1 : IntKind.i64.wrap ((k : Int) + 1) = (k : Int) + 1 := IntWalk.i64_in _ (by omega)
      generalize xs[k] = x at q1 q2
      clear hc hc' hx hbel
      go_upto_region 6 with fail
      go_quiet (fail)
      go_wp2_with fail
      go_roundw
      case rel => exact ⟨k + 1, by omega, by go_num, below_drewN HB.out _⟩
      case measure => simp [intOf]; omega
    · have hge : ¬ (k : Int) < (xs.length : Int) := by omega
      go_wp2_with fail
      go_ret
      exact ⟨rfl, HB.out⟩
theorem own_rds {w : World} {base size n c : Nat} {e : TypeId} {A : Option Addr} {xs : List Value} (h : w.ownsRow base e size (.slice A n c) n xs) : Reads w w.heap.size size A n xs := by
  obtain ⟨A', c', e, hr⟩ := nown_reads h
  injection e with e1
  rw [e1]
  exact hr
end Go.Proofs.Ytijbhcdnbaaobaa
