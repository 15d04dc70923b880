/- Contracts of firstImpossible, run and Run. Conditions: the arguments read as data. -/
import Derived.Test.YtkmiapfkebdpbaaLe
import Derived.Test.YtkmiapfkebdpbaaKf
namespace Go.Proofs.Ytkmiapfkebdpbaa
open Go.RowKit

def badI (top ease : Int) (l : List Int) : Int := match badN top ease l 0 with | none => -1 | some k => k
theorem canB_eq (top ease bf s : Int) : canB top ease bf s = (inB s 0 top && inB s (bf - ease) (bf + ease)) := by
  simp only [canB, inB, Bool.and_assoc]
theorem drop_at {l : List Int} {k : Nat} (h : k < l.length) : l.drop k = (l[k]?.getD 0) :: l.drop (k + 1) := by
  rw [List.drop_eq_getElem_cons h, List.getElem?_eq_getElem h]; rfl
theorem badN_step {top ease bf : Int} {l : List Int} {k : Nat} (h : k < l.length) : badN top ease (l.drop k) bf = if canB top ease bf (l[k]?.getD 0) then (badN top ease (l.drop (k + 1)) (l[k]?.getD 0)).map (· + 1) else some 0 := by
  rw [drop_at h]; rfl

set_option maxRecDepth 100000 in
set_option maxHeartbeats 2000000 in
theorem firstImpossible_any (m : Mot) (l : List Int) (A : Option Addr) (c B : Nat) (w : World) (hm : motB m = true) (hB : B ≤ w.heap.size) (hr : Reads w B 1 A l.length (nums l)) (hn : l.length ≤ 400) :
    Calls Try.prog 62 #[motV m, .slice A l.length c] w fun e w' => e = .returned (.int .i64 (badI m.top m.ease l)) ∧ Below w.heap.size w w' := by
  have hmo := (motB_iff m).1 hm
  obtain ⟨W, hW⟩ : ∃ W, W = w.alloc (.cells #[.int .i64 m.top, .int .i64 m.ease, .int .i64 m.jerk] 35) := ⟨_, rfl⟩
  have bW : Below w.heap.size w W := by subst hW; exact (Below.refl _ _).alloc (Nat.le_refl _) _
  have rW : Row W w.heap.size 35 [.int .i64 m.top, .int .i64 m.ease, .int .i64 m.jerk] := by subst hW; exact Row.new w _ _
  obtain ⟨n, hnl⟩ : ∃ n, n = l.length := ⟨_, rfl⟩
  rw [← hnl] at hr hn ⊢
  have Hnl := Lib.hid hnl
  clear hnl
  unfold motV
  go_enter Try.func62, Try.ntmps62
  go_wp2_with fail
  rw [← hW]
  clear hW
  go_loopw [5, 10] (fun b i wr => ∃ (k : Nat) (bf : Int), k ≤ n ∧ i = .int .i64 k ∧ b = .int .i64 bf ∧ (0 ≤ bf ∧ bf ≤ 10) ∧ Below w.heap.size w wr ∧ Row wr w.heap.size 35 [.int .i64 m.top, .int .i64 m.ease, .int .i64 m.jerk] ∧ badN m.top m.ease l 0 = (badN m.top m.ease (l.drop k) bf).map (· + k)) (fun _ i _ => n - (intOf i).toNat)
  case atStart => exact ⟨0, 0, Nat.zero_le _, rfl, rfl, ⟨by omega, by omega⟩, bW, rW, by simp⟩
  case round =>
    obtain ⟨k, bf, hk, rfl, rfl, hbf, hbel, rr, hbad⟩ := hrel
    have Hbad := Lib.hid hbad
    clear hbad
    obtain ⟨_, q0, q1, q2⟩ := Row.at_3 rr
    have zr := rr.lt
    by_cases hlt : k < n
    · obtain ⟨b, o, rfl, hb, c0⟩ := (hr.below (hbel.mono hB)).at1n hlt
      have Hst := Lib.hid (badN_step (top := m.top) (ease := m.ease) (bf := bf) (l := l) (k := k) (by have := Hnl.out; omega))
      have Hcb := Lib.hid (canB_eq m.top m.ease bf (l[k]?.getD 0))
      obtain ⟨s, hs⟩ : ∃ s, s = l[k]?.getD 0 := ⟨_, rfl⟩
      rw [← hs] at c0
      have Hs := Lib.hid hs
      clear hs
      have e1 : IntKind.i64.wrap (bf - m.ease) = bf - m.ease := IntWalk.i64_in _ (by omega)
      have e2 : IntKind.i64.wrap (bf + m.ease) = bf + m.ease := IntWalk.i64_in _ (by omega)
      have e3 : IntKind.i64.wrap ((k : Int) + 1) = (k : Int) + 1 := IntWalk.i64_in _ (by omega)
      have hkl : (k : Int) < (n : Int) := by omega
      have zb : b < wr.heap.size := by have := hbel.size; omega
      go_wp2_with fail
      refine (allWithin_new [s] _ (by rfl) _ _ rfl (by simp) _ _ _ _ _ (by simp)).mono ?_
      rintro e w' ⟨rfl, rfl⟩
      have b2 := hbel.alloc hbel.size (.cells #[.int .i64 s] 3)
      have r2 := rr.alloc (.cells #[.int .i64 s] 3)
      generalize wr.alloc (.cells #[.int .i64 s] 3) = X at *
      rw [show allB [s] 0 m.top = inB s 0 m.top from by simp [allB]]
      obtain ⟨_, q0, q1, q2⟩ := Row.at_3 r2
      have zr := r2.lt
      cases h1 : inB s 0 m.top with
      | false =>
        go_wp2_with fail
        go_ret
        refine ⟨ret_int ?_, b2⟩
        unfold badI
        rw [Hbad.out, Hst.out, if_neg (by rw [Hcb.out, ← Hs.out, h1]; simp)]
        simp
      | true =>
        go_wp2_with fail
        refine (allWithin_new [s] _ (by rfl) _ _ rfl (by simp) _ _ _ _ _ (by simp)).mono ?_
        rintro e w' ⟨rfl, rfl⟩
        have b3 := b2.alloc b2.size (.cells #[.int .i64 s] 3)
        have r3 := r2.alloc (.cells #[.int .i64 s] 3)
        generalize X.alloc (.cells #[.int .i64 s] 3) = Y at *
        rw [show allB [s] (bf - m.ease) (bf + m.ease) = inB s (bf - m.ease) (bf + m.ease) from by simp [allB]]
        cases h2 : inB s (bf - m.ease) (bf + m.ease) with
        | false =>
          go_wp2_with fail
          go_ret
          refine ⟨ret_int ?_, b3⟩
          unfold badI
          rw [Hbad.out, Hst.out, if_neg (by rw [Hcb.out, ← Hs.out, h1, h2]; simp)]
          simp
        | true =>
          have i1 := inB_iff.1 h1
          have Hb2 : Hid (badN m.top m.ease l 0 = (badN m.top m.ease (l.drop (k + 1)) s).map (· + (k + 1))) := by
            show _ = _
            rw [Hbad.out, Hst.out, if_pos (by rw [Hcb.out, ← Hs.out, h1, h2]; rfl), ← Hs.out, Option.map_map]
            congr 1
            funext j
            simp only [Function.comp]
            omega
          have i2 : 0 ≤ s ∧ s ≤ 10 := by omega
          clear i1 h1 h2
          go_wp2_with fail
          go_roundw
          case rel => exact ⟨k + 1, s, by omega, by go_num, rfl, i2, b3, r3, Hb2.out⟩
          case measure => simp [intOf]; omega
    · obtain rfl : k = n := by omega
      have hkl : ¬ (k : Int) < (k : Int) := by omega
      go_wp2_with fail
      go_ret
      refine ⟨ret_int ?_, hbel⟩
      unfold badI
      rw [Hbad.out, List.drop_of_length_le (by have := Hnl.out; omega)]
      rfl
end Go.Proofs.Ytkmiapfkebdpbaa
