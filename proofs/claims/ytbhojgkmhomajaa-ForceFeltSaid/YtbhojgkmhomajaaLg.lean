/- Contracts of Felt and of the specification's Felt. Conditions: a path reads as points. -/
import Derived.Test.YtbhojgkmhomajaaLd
import Derived.Test.YtbhojgkmhomajaaLe
import Derived.Test.YtbhojgkmhomajaaKg
namespace Go.Proofs.Ytbhojgkmhomajaa
open Go.RowKit

def argB (t : List Pt) (ph bf af : Int) : Bool := inB ph 0 ((t.length : Int) - 1) && (inB bf 0 10 && inB af 0 10)
def feltS (t : List Pt) (ph bf af : Int) : Pt × Int := if pathB t = false then (⟨0, 0, 0⟩, 30) else if argB t ph bf af = false then (⟨0, 0, 0⟩, 1) else (feltI t ph bf af, 0)
def FePost (w : World) (t : List Pt) (ph bf af : Int) (e : Ending) (w' : World) : Prop := Below w.heap.size w w' ∧ e = .returned (.tuple #[ptV (feltS t ph bf af).1, .int .i64 (feltS t ph bf af).2])
theorem feltS_1 {t : List Pt} {ph bf af : Int} (h : pathB t = false) : feltS t ph bf af = (⟨0, 0, 0⟩, 30) := by unfold feltS; rw [if_pos h]
theorem feltS_2 {t : List Pt} {ph bf af : Int} (h : pathB t = true) (h2 : argB t ph bf af = false) : feltS t ph bf af = (⟨0, 0, 0⟩, 1) := by unfold feltS; rw [if_neg (by simp [h]), if_pos h2]
theorem feltS_3 {t : List Pt} {ph bf af : Int} (h : pathB t = true) (h2 : argB t ph bf af = true) : feltS t ph bf af = (feltI t ph bf af, 0) := by unfold feltS; rw [if_neg (by simp [h]), if_neg (by simp [h2])]

set_option maxRecDepth 100000 in
set_option maxHeartbeats 2000000 in
theorem Felt_any (t : List Pt) (ph bf af : Int) (A : Option Addr) (c B : Nat) (w : World) (hB : B ≤ w.heap.size) (hr : Reads w B 3 A t.length (ptCells t)) (hn : t.length ≤ maxLen) :
    Calls Try.prog 17 #[.slice A t.length c, chgV ph bf af] w (FePost w t ph bf af) := by
  obtain ⟨W, hW⟩ : ∃ W, W = (w.alloc (.cells #[.int .i64 ph, .int .i64 bf, .int .i64 af] 24)).alloc (.cells #[.int .i64 0, .int .i64 0, .int .i64 0] 28) := ⟨_, rfl⟩
  have bW : Below w.heap.size w W := by subst hW; exact ((Below.refl _ _).alloc (Nat.le_refl _) _).alloc (by simp) _
  have rC : Row W w.heap.size 24 [.int .i64 ph, .int .i64 bf, .int .i64 af] := by subst hW; exact (Row.new w _ _).alloc _
  have rR : Row W (w.heap.size + 1) 28 [.int .i64 0, .int .i64 0, .int .i64 0] := by
    subst hW
    have h := Row.new (w.alloc (.cells #[.int .i64 ph, .int .i64 bf, .int .i64 af] 24)) 28 #[.int .i64 0, .int .i64 0, .int .i64 0]
    simpa using h
  have hrW := hr.below (bW.mono hB)
  unfold chgV
  go_enter Try.func17, Try.ntmps17
  go_wp2_with fail
  rw [← hW]
  clear hW
  refine (validPath_any t A c B W (Nat.le_trans hB bW.size) hrW hn).mono ?_
  rintro e w1 ⟨rfl, hb1⟩
  have b1 := bW.trans (hb1.mono bW.size)
  have r1 := rC.below hb1 rC.lt
  have s1 := rR.below hb1 rR.lt
  obtain ⟨_, q0, q1, q2⟩ := Row.at_3 r1
  obtain ⟨fR, t0, t1, t2⟩ := Row.at_3 s1
  have z1 := r1.lt
  have z2 := s1.lt
  cases hp : pathB t with
  | false =>
    go_wp2_with fail
    refine bodyPost_ret (v := .tuple #[.agg #[.int .i64 0, .int .i64 0, .int .i64 0], .int .i64 30]) (by simp [results, Try.results17, go_sem, *]) rfl ?_
    exact ⟨below_set3 b1 (by omega) _ _ _, by rw [feltS_1 hp]; rfl⟩
  | true =>
    obtain ⟨n1, n2, hsp⟩ := (pathB_iff t).1 hp
    have e0 : IntKind.i64.wrap ((t.length : Int) - 1) = (t.length : Int) - 1 := IntWalk.i64_in _ (by omega)
    have HA : Hid (argB t ph bf af = (inB ph 0 ((t.length : Int) - 1) && (inB bf 0 10 && inB af 0 10))) := rfl
    have Hn := Lib.hid n2
    have Hn1 := Lib.hid n1
    clear n1 n2
    go_wp2_with fail
    refine (allWithin_new [ph] _ (by rfl) _ _ rfl (by simp) _ _ _ _ _ (by simp)).mono ?_
    rintro e w' ⟨rfl, rfl⟩
    have b2 := b1.alloc b1.size (.cells #[.int .i64 ph] 3)
    have r2 := r1.alloc (.cells #[.int .i64 ph] 3)
    have s2 := s1.alloc (.cells #[.int .i64 ph] 3)
    rw [show allB [ph] 0 ((t.length : Int) - 1) = inB ph 0 ((t.length : Int) - 1) from by simp [allB]]
    generalize w1.alloc (.cells #[.int .i64 ph] 3) = X at *
    obtain ⟨_, q0, q1, q2⟩ := Row.at_3 r2
    obtain ⟨fR, t0, t1, t2⟩ := Row.at_3 s2
    have z1 := r2.lt
    have z2 := s2.lt
    cases h1 : inB ph 0 ((t.length : Int) - 1) with
    | false =>
      go_wp2_with fail
      refine bodyPost_ret (v := .tuple #[.agg #[.int .i64 0, .int .i64 0, .int .i64 0], .int .i64 1]) (by simp [results, Try.results17, go_sem, *]) rfl ?_
      exact ⟨below_set3 b2 (by omega) _ _ _, by rw [feltS_2 hp (by rw [HA.out, h1]; rfl)]; rfl⟩
    | true =>
      go_wp2_with fail
      refine (allWithin_new [bf, af] _ (by rfl) _ _ rfl (by simp) _ _ _ _ _ (by simp)).mono ?_
      rintro e w' ⟨rfl, rfl⟩
      have b3 := b2.alloc b2.size (.cells #[.int .i64 bf, .int .i64 af] 3)
      have r3 := r2.alloc (.cells #[.int .i64 bf, .int .i64 af] 3)
      have s3 := s2.alloc (.cells #[.int .i64 bf, .int .i64 af] 3)
      rw [show allB [bf, af] 0 10 = (inB bf 0 10 && inB af 0 10) from by simp [allB]]
      generalize X.alloc (.cells #[.int .i64 bf, .int .i64 af] 3) = Y at *
      obtain ⟨_, q0, q1, q2⟩ := Row.at_3 r3
      obtain ⟨fR, t0, t1, t2⟩ := Row.at_3 s3
      have z1 := r3.lt
      have z2 := s3.lt
      cases h2 : (inB bf 0 10 && inB af 0 10) with
      | false =>
        go_wp2_with fail
        refine bodyPost_ret (v := .tuple #[.agg #[.int .i64 0, .int .i64 0, .int .i64 0], .int .i64 1]) (by simp [results, Try.results17, go_sem, *]) rfl ?_
        exact ⟨below_set3 b3 (by omega) _ _ _, by rw [feltS_2 hp (by rw [HA.out, h1, h2]; rfl)]; rfl⟩
      | true =>
        have i1 := inB_iff.1 h1
        have i2 : inB bf 0 10 = true ∧ inB af 0 10 = true := by simpa using h2
        have i3 := inB_iff.1 i2.1
        have i4 := inB_iff.1 i2.2
        have HF := Lib.hid (feltS_3 hp (show argB t ph bf af = true by rw [HA.out, h1, h2]; rfl))
        have hfe := felt_in t ph bf af A c B Y (by have := b3.size; omega) (hr.below (b3.mono hB)) hp (by have := Hn.out; omega) (by omega) (by omega)
        unfold chgV at hfe
        clear i1 i3 i4 h1 h2 i2
        go_wp2_with fail
        refine hfe.mono ?_
        rintro e w4 ⟨rfl, hb4⟩
        have b4 := b3.trans (hb4.mono b3.size)
        have s4 := s3.below hb4 s3.lt
        obtain ⟨fR, t0, t1, t2⟩ := Row.at_3 s4
        unfold ptV
        obtain ⟨P, hP⟩ : ∃ P, P = feltI t ph bf af := ⟨_, rfl⟩
        rw [← hP]
        have HP := Lib.hid hP
        clear hP
        go_wp2_with fail
        refine bodyPost_ret (v := .tuple #[ptV P, .int .i64 0]) (by simp [results, Try.results17, go_sem, ptV, *]) rfl ?_
        exact ⟨below_set3 b4 (by omega) _ _ _, by rw [HF.out, ← HP.out]⟩

set_option maxRecDepth 100000 in
set_option maxHeartbeats 2000000 in
theorem rFelt_any (t : List Pt) (ph bf af : Int) (A : Option Addr) (c B : Nat) (w : World) (hB : B ≤ w.heap.size) (hr : Reads w B 3 A t.length (ptCells t)) (hn : t.length ≤ maxLen) :
    Calls Try.prog 18 #[.slice A t.length c, chgV ph bf af] w (FePost w t ph bf af) := by
  obtain ⟨W, hW⟩ : ∃ W, W = (w.alloc (.cells #[.int .i64 ph, .int .i64 bf, .int .i64 af] 24)).alloc (.cells #[.int .i64 0, .int .i64 0, .int .i64 0] 28) := ⟨_, rfl⟩
  have bW : Below w.heap.size w W := by subst hW; exact ((Below.refl _ _).alloc (Nat.le_refl _) _).alloc (by simp) _
  have rC : Row W w.heap.size 24 [.int .i64 ph, .int .i64 bf, .int .i64 af] := by subst hW; exact (Row.new w _ _).alloc _
  have rR : Row W (w.heap.size + 1) 28 [.int .i64 0, .int .i64 0, .int .i64 0] := by
    subst hW
    have h := Row.new (w.alloc (.cells #[.int .i64 ph, .int .i64 bf, .int .i64 af] 24)) 28 #[.int .i64 0, .int .i64 0, .int .i64 0]
    simpa using h
  have hrW := hr.below (bW.mono hB)
  unfold chgV
  go_enter Try.func18, Try.ntmps18
  go_wp2_with fail
  rw [← hW]
  clear hW
  refine (CheckPath_any t A _ c B W (Nat.le_trans hB bW.size) hrW hn).mono ?_
  rintro e w1 ⟨rfl, hb1⟩
  have b1 := bW.trans (hb1.mono bW.size)
  have r1 := rC.below hb1 rC.lt
  have s1 := rR.below hb1 rR.lt
  obtain ⟨_, q0, q1, q2⟩ := Row.at_3 r1
  obtain ⟨fR, t0, t1, t2⟩ := Row.at_3 s1
  have z1 := r1.lt
  have z2 := s1.lt
  cases hp : pathB t with
  | false =>
    rw [show pathE t = 30 from by unfold pathE; rw [hp]; rfl]
    go_wp2_with fail
    refine bodyPost_ret (v := .tuple #[.agg #[.int .i64 0, .int .i64 0, .int .i64 0], .int .i64 30]) (by simp [results, Try.results18, go_sem, *]) rfl ?_
    exact ⟨below_set3 b1 (by omega) _ _ _, by rw [feltS_1 hp]; rfl⟩
  | true =>
    rw [show pathE t = 0 from by unfold pathE; rw [hp]; rfl]
    obtain ⟨n1, n2, hsp⟩ := (pathB_iff t).1 hp
    have e0 : IntKind.i64.wrap ((t.length : Int) - 1) = (t.length : Int) - 1 := IntWalk.i64_in _ (by omega)
    have HA : Hid (argB t ph bf af = (inB ph 0 ((t.length : Int) - 1) && (inB bf 0 10 && inB af 0 10))) := rfl
    have Hn := Lib.hid n2
    clear n1 n2
    go_wp2_with fail
    refine (from_any _ _ _ _).mono ?_
    rintro e w' ⟨rfl, rfl⟩
    cases h1 : inB ph 0 ((t.length : Int) - 1) with
    | false =>
      go_wp2_with fail
      refine bodyPost_ret (v := .tuple #[.agg #[.int .i64 0, .int .i64 0, .int .i64 0], .int .i64 1]) (by simp [results, Try.results18, go_sem, *]) rfl ?_
      exact ⟨below_set3 b1 (by omega) _ _ _, by rw [feltS_2 hp (by rw [HA.out, h1]; rfl)]; rfl⟩
    | true =>
      go_wp2_with fail
      refine (from_any _ _ _ _).mono ?_
      rintro e w' ⟨rfl, rfl⟩
      cases h2 : inB bf 0 10 with
      | false =>
        go_wp2_with fail
        refine bodyPost_ret (v := .tuple #[.agg #[.int .i64 0, .int .i64 0, .int .i64 0], .int .i64 1]) (by simp [results, Try.results18, go_sem, *]) rfl ?_
        exact ⟨below_set3 b1 (by omega) _ _ _, by rw [feltS_2 hp (by rw [HA.out, h1, h2]; rfl)]; rfl⟩
      | true =>
        go_wp2_with fail
        refine (from_any _ _ _ _).mono ?_
        rintro e w' ⟨rfl, rfl⟩
        cases h3 : inB af 0 10 with
        | false =>
          go_wp2_with fail
          refine bodyPost_ret (v := .tuple #[.agg #[.int .i64 0, .int .i64 0, .int .i64 0], .int .i64 1]) (by simp [results, Try.results18, go_sem, *]) rfl ?_
          exact ⟨below_set3 b1 (by omega) _ _ _, by rw [feltS_2 hp (by rw [HA.out, h1, h2, h3]; rfl)]; rfl⟩
        | true =>
          have i1 := inB_iff.1 h1
          have i3 := inB_iff.1 h2
          have i4 := inB_iff.1 h3
          have HF := Lib.hid (feltS_3 hp (show argB t ph bf af = true by rw [HA.out, h1, h2, h3]; rfl))
          obtain ⟨phn, hph⟩ := Int.eq_ofNat_of_zero_le (show 0 ≤ ph by omega)
          obtain ⟨bfn, hbf⟩ := Int.eq_ofNat_of_zero_le (show 0 ≤ bf by omega)
          obtain ⟨afn, haf⟩ := Int.eq_ofNat_of_zero_le (show 0 ≤ af by omega)
          subst hph hbf haf
          have hfe := rfelt_any t ⟨phn, bfn, afn⟩ A c B w1 (by have := b1.size; omega) (hr.below (b1.mono hB)) hp (by dsimp only; omega) (by dsimp only; omega) (by dsimp only; omega)
          have hz := feltI_nat t ⟨phn, bfn, afn⟩ (by dsimp only; omega)
          rw [← hz] at hfe
          unfold chgV at hfe
          dsimp only at hfe
          clear i1 i3 i4 h1 h2 h3 hz
          go_wp2_with fail
          refine hfe.mono ?_
          rintro e w4 ⟨rfl, hb4⟩
          have b4 := b1.trans (hb4.mono b1.size)
          have s4 := s1.below hb4 s1.lt
          obtain ⟨fR, t0, t1, t2⟩ := Row.at_3 s4
          unfold ptV
          obtain ⟨P, hP⟩ : ∃ P, P = feltI t phn bfn afn := ⟨_, rfl⟩
          rw [← hP]
          have HP := Lib.hid hP
          clear hP
          go_wp2_with fail
          refine bodyPost_ret (v := .tuple #[ptV P, .int .i64 0]) (by simp [results, Try.results18, go_sem, ptV, *]) rfl ?_
          exact ⟨below_set3 b4 (by omega) _ _ _, by rw [HF.out, ← HP.out]⟩
end Go.Proofs.Ytbhojgkmhomajaa
