/- Contract of validSeats. Conditions: the argument reads as a list of lists of points. -/
import Derived.Test.YtkmiapfkebdpbaaKp
namespace Go.Proofs.Ytkmiapfkebdpbaa
open Go.RowKit

def refAt (rs : List (Option Addr × Nat)) (i : Nat) : Option Addr × Nat := rs[i]?.getD (none, 0)
def pathAt (ss : List (List Pt)) (i : Nat) : List Pt := ss[i]?.getD []
/-- The slice at A reads as the paths ss. -/
structure SeatsIn (w : World) (B : Nat) (A : Option Addr) (rs : List (Option Addr × Nat)) (ss : List (List Pt)) : Prop where
  len : ss.length ≤ maxLen
  outer : 0 < ss.length → ∃ b o, A = some ⟨b, o, none⟩ ∧ b < B ∧ ∀ i, i < ss.length → w.cell? ⟨b, o + i, none⟩ = some (.slice (refAt rs i).1 (pathAt ss i).length (refAt rs i).2)
  inner : ∀ i, i < ss.length → Reads w B 3 (refAt rs i).1 (pathAt ss i).length (ptCells (pathAt ss i))
  lens : ∀ i, i < ss.length → (pathAt ss i).length ≤ maxLen
theorem SeatsIn.keep {w w' : World} {B : Nat} {A : Option Addr} {rs : List (Option Addr × Nat)} {ss : List (List Pt)} (h : SeatsIn w B A rs ss) (hk : ∀ p : Addr, p.block < B → w'.cell? p = w.cell? p) : SeatsIn w' B A rs ss :=
  ⟨h.len, fun h0 => by
    obtain ⟨b, o, e, hb, hc⟩ := h.outer h0
    exact ⟨b, o, e, hb, fun i hi => (hk ⟨b, o + i, none⟩ hb).trans (hc i hi)⟩, fun i hi => (h.inner i hi).keep hk, h.lens⟩
theorem SeatsIn.below {w w' : World} {B : Nat} {A : Option Addr} {rs : List (Option Addr × Nat)} {ss : List (List Pt)} (h : SeatsIn w B A rs ss) (hb : Below B w w') : SeatsIn w' B A rs ss := h.keep fun _ hp => hb.cell hp
def seatB (ss : List (List Pt)) (s : List Pt) : Bool := pathB s && decide (s.length = (pathAt ss 0).length)
def seatsB (ss : List (List Pt)) : Bool := ss.all (seatB ss)

set_option maxRecDepth 100000 in
set_option maxHeartbeats 2000000 in
theorem validSeats_any (ss : List (List Pt)) (rs : List (Option Addr × Nat)) (A : Option Addr) (c B : Nat) (w : World) (hB : B ≤ w.heap.size) (hS : SeatsIn w B A rs ss) :
    Calls Try.prog 92 #[.slice A ss.length c] w fun e w' => e = .returned (.bool (seatsB ss)) ∧ Below w.heap.size w w' := by
  have hn := hS.len
  unfold maxLen at hn
  go_enter Try.func92, Try.ntmps92
  go_wp2_with fail
  go_loopw [7] (fun i wr => ∃ k : Nat, k ≤ ss.length ∧ i = .int .i64 k ∧ Below w.heap.size w wr ∧ (ss.take k).all (seatB ss) = true) (fun i _ => ss.length - (intOf i).toNat)
  case atStart => exact ⟨0, Nat.zero_le _, rfl, Below.refl _ _, rfl⟩
  case round =>
    obtain ⟨k, hk, rfl, hbel, hall⟩ := hrel
    have Hall := Lib.hid hall
    clear hall
    have hs := hbel.size
    by_cases hlt : k < ss.length
    · have hSx := hS.below (hbel.mono hB)
      obtain ⟨b, o, hA, hb, hc⟩ := hSx.outer (by omega)
      have ck := hc k hlt
      have c0 := hc 0 (by omega)
      simp only [Nat.add_zero] at c0
      subst hA
      have hrk := hSx.inner k hlt
      have hlk := hSx.lens k hlt
      have Hsn := Lib.hid (all_snoc (seatB ss) [] ss k hlt)
      have Hno := Lib.hid (all_no (seatB ss) [] ss k hlt)
      have H0 : Hid (seatB ss (ss[k]?.getD []) = (pathB (pathAt ss k) && decide ((pathAt ss k).length = (pathAt ss 0).length))) := rfl
      obtain ⟨p, hp⟩ : ∃ p, p = pathAt ss k := ⟨_, rfl⟩
      rw [← hp] at ck hrk hlk H0
      have Hp := Lib.hid hp
      clear hp
      obtain ⟨m0, hm0⟩ : ∃ m0, m0 = (pathAt ss 0).length := ⟨_, rfl⟩
      rw [← hm0] at c0 H0
      have hnil : ¬ ss = [] := by intro e; subst e; simp at hlt
      have hpos : (0 : Int) < (ss.length : Int) := by omega
      clear hm0 hc hSx
      go_wp2_with fail
      refine (validPath_any p (refAt rs k).1 (refAt rs k).2 B wr (by omega) hrk hlk).mono ?_
      rintro e w1 ⟨rfl, hb1⟩
      have b1 := hbel.trans (hb1.mono hs)
      have c0' := (hb1.cell (p := ⟨b, o, none⟩) (show b < wr.heap.size by omega)).trans c0
      have yes : p.length = m0 → pathB p = true → seatB ss (ss[k]?.getD []) = true := fun h1 h2 => by rw [H0.out, h2]; simpa using h1
      have no1 : ¬ p.length = m0 → seatB ss (ss[k]?.getD []) = false := fun h1 => by rw [H0.out]; simp [h1]
      have no2 : pathB p = false → seatB ss (ss[k]?.getD []) = false := fun h1 => by rw [H0.out, h1]; rfl
      have Yes := Lib.hid yes
      have No1 := Lib.hid no1
      have No2 := Lib.hid no2
      clear yes no1 no2
      obtain ⟨N, hN⟩ : ∃ N, N = p.length := ⟨_, rfl⟩
      rw [← hN] at ck Yes No1 ⊢
      have Hpb : Hid (pathB p = pathB p) := rfl
      cases hpb : pathB p with
      | false =>
        have Hy := Lib.hid (Hno.out (No2.out hpb))
        clear Yes No1 No2
        go_wp2_with fail
        go_ret
        exact ⟨ret_bool Hy.out.symm, b1⟩
      | true =>
        clear hN
        by_cases hm : N = m0
        · subst hm
          have Hy := Lib.hid (Yes.out rfl hpb)
          clear Yes No1 No2
          go_wp2_with fail
          go_roundw
          case rel => exact ⟨k + 1, by omega, by go_num, b1, by rw [Hsn.out, Hall.out, Hy.out]; rfl⟩
          case measure => simp [intOf]; omega
        · have hm' : ((N : Int) != (m0 : Int)) = true := by simp; omega
          have Hy := Lib.hid (Hno.out (No1.out hm))
          clear Yes No1 No2
          go_wp2_with fail
          go_ret
          exact ⟨ret_bool Hy.out.symm, b1⟩
    · obtain rfl : k = ss.length := by omega
      go_wp2_with fail
      go_ret
      refine ⟨ret_bool ?_, hbel⟩
      have h := Hall.out
      rw [List.take_length] at h
      exact h.symm
end Go.Proofs.Ytkmiapfkebdpbaa
