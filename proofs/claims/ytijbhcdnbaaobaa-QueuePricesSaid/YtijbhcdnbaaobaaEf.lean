/- Contracts of the law's Example and works. No conditions. -/
import Derived.Test.YtijbhcdnbaaobaaEe
namespace Go.Proofs.Ytijbhcdnbaaobaa
open Go.RowKit

def exQ : EveZ := ⟨[⟨4, 2, 3, 1, false⟩, ⟨2, 5, 2, 0, false⟩], 1⟩
def exG : List GrpZ := [⟨0, 3, 20, 100, [0, 1]⟩, ⟨0, 2, 30, 100, [0, 1]⟩]
theorem ex_held : checkQ exQ exG = 0 ∧ (eveS exQ exG).groups.map (·.tok) = [14, 16] := by decide +kernel
theorem ex_heldZ : heldZ exQ exG = [14, 16] := (if_pos ex_held.1).trans ex_held.2
def ExTo (w : World) (e : Ending) (w' : World) : Prop := ∃ A c A2 c2 rs, e = .returned (.tuple #[eveV exQ A c, .slice A2 2 c2]) ∧ Below w.heap.size w w' ∧ Reads w' w'.heap.size 5 A 2 (bthCells exQ.rides) ∧ GrpsIn w' w'.heap.size A2 rs exG
set_option maxHeartbeats 1000000 in
theorem Example_any (w : World) : Calls Try.prog 41 #[] w (ExTo w) := by
  go_enter Try.func41, Try.ntmps41
  go_wp2_with fail
  refine bodyPost_ret (v := .tuple #[.agg #[.slice (some ⟨w.heap.size + 1, 0, none⟩) 2 2, .int .i64 1], .slice (some ⟨w.heap.size + 1 + 1 + 1 + 1 + 1, 0, none⟩) 2 2]) (by simp [results, Try.results41, go_sem, *]) rfl ?_
  obtain ⟨V0, hV0⟩ : ∃ V, V = w.alloc (.cells #[.slice (some ⟨w.heap.size + 1, 0, none⟩) 2 2, .int .i64 1] 24) := ⟨_, rfl⟩
  have s0 : V0.heap.size = w.heap.size + 1 := by rw [hV0, World.size_alloc]
  rw [← hV0]
  obtain ⟨V1, hV1⟩ : ∃ V, V = V0.alloc (.cells #[.int .i64 4, .int .i64 2, .int .i64 3, .int .i64 1, .bool false, .int .i64 2, .int .i64 5, .int .i64 2, .int .i64 0, .bool false] 47) := ⟨_, rfl⟩
  have s1 : V1.heap.size = w.heap.size + 1 + 1 := by rw [hV1, World.size_alloc, s0]
  rw [← hV1]
  obtain ⟨V2, hV2⟩ : ∃ V, V = V1.alloc (.cells #[.slice (some ⟨w.heap.size + 1, 0, none⟩) 2 2, .int .i64 1] 24) := ⟨_, rfl⟩
  have s2 : V2.heap.size = w.heap.size + 1 + 1 + 1 := by rw [hV2, World.size_alloc, s1]
  rw [← hV2]
  obtain ⟨V3, hV3⟩ : ∃ V, V = V2.alloc (.cells #[.int .i64 0, .int .i64 1] 3) := ⟨_, rfl⟩
  have s3 : V3.heap.size = w.heap.size + 1 + 1 + 1 + 1 := by rw [hV3, World.size_alloc, s2]
  rw [← hV3]
  obtain ⟨V4, hV4⟩ : ∃ V, V = V3.alloc (.cells #[.int .i64 0, .int .i64 1] 3) := ⟨_, rfl⟩
  have s4 : V4.heap.size = w.heap.size + 1 + 1 + 1 + 1 + 1 := by rw [hV4, World.size_alloc, s3]
  rw [← hV4]
  obtain ⟨V5, hV5⟩ : ∃ V, V = V4.alloc (.cells #[.int .i64 0, .int .i64 3, .int .i64 20, .slice (some ⟨w.heap.size + 1 + 1 + 1, 0, none⟩) 2 2, .int .i64 100, .int .i64 0, .int .i64 2, .int .i64 30, .slice (some ⟨w.heap.size + 1 + 1 + 1 + 1, 0, none⟩) 2 2, .int .i64 100] 55) := ⟨_, rfl⟩
  have s5 : V5.heap.size = w.heap.size + 1 + 1 + 1 + 1 + 1 + 1 := by rw [hV5, World.size_alloc, s4]
  rw [← hV5]
  have b : Below w.heap.size w V5 := by
    rw [hV5, hV4, hV3, hV2, hV1, hV0]
    exact ((((((Below.refl _ _).alloc (Nat.le_refl _) _).alloc (by simp) _).alloc (by simp; omega) _).alloc (by simp; omega) _).alloc (by simp; omega) _).alloc (by simp; omega) _
  have r1 : Row V1 V0.heap.size 47 [.int .i64 4, .int .i64 2, .int .i64 3, .int .i64 1, .bool false, .int .i64 2, .int .i64 5, .int .i64 2, .int .i64 0, .bool false] := by rw [hV1]; exact Row.new V0 _ _
  have r3 : Row V3 V2.heap.size 3 [.int .i64 0, .int .i64 1] := by rw [hV3]; exact Row.new V2 _ _
  have r4 : Row V4 V3.heap.size 3 [.int .i64 0, .int .i64 1] := by rw [hV4]; exact Row.new V3 _ _
  have r5 : Row V5 V4.heap.size 55 [.int .i64 0, .int .i64 3, .int .i64 20, .slice (some ⟨w.heap.size + 1 + 1 + 1, 0, none⟩) 2 2, .int .i64 100, .int .i64 0, .int .i64 2, .int .i64 30, .slice (some ⟨w.heap.size + 1 + 1 + 1 + 1, 0, none⟩) 2 2, .int .i64 100] := by rw [hV5]; exact Row.new V4 _ _
  have r1' : Row V5 V0.heap.size 47 [.int .i64 4, .int .i64 2, .int .i64 3, .int .i64 1, .bool false, .int .i64 2, .int .i64 5, .int .i64 2, .int .i64 0, .bool false] := by rw [hV5, hV4, hV3, hV2]; exact (((r1.alloc _).alloc _).alloc _).alloc _
  have r3' : Row V5 V2.heap.size 3 [.int .i64 0, .int .i64 1] := by rw [hV5, hV4]; exact (r3.alloc _).alloc _
  have r4' : Row V5 V3.heap.size 3 [.int .i64 0, .int .i64 1] := by rw [hV5]; exact r4.alloc _
  rw [s0] at r1'
  rw [s2] at r3'
  rw [s3] at r4'
  rw [s4] at r5
  clear hV0 hV1 hV2 hV3 hV4 hV5 r1 r3 r4
  refine ⟨_, 2, _, 2, [(some ⟨w.heap.size + 1 + 1 + 1, 0, none⟩, 2), (some ⟨w.heap.size + 1 + 1 + 1 + 1, 0, none⟩, 2)], rfl, b, r1'.reads rfl r1'.lt, ⟨by decide, fun _ => ⟨_, 0, rfl, r5.lt, fun i hi => ?_⟩, fun i hi => ?_, fun i hi => ?_⟩⟩
  · rcases (by simp [exG] at hi; omega : i = 0 ∨ i = 1) with rfl | rfl
    · exact ⟨r5.cell (j := 0) (by simp), r5.cell (j := 1) (by simp), r5.cell (j := 2) (by simp), r5.cell (j := 3) (by simp), r5.cell (j := 4) (by simp)⟩
    · exact ⟨r5.cell (j := 5) (by simp), r5.cell (j := 6) (by simp), r5.cell (j := 7) (by simp), r5.cell (j := 8) (by simp), r5.cell (j := 9) (by simp)⟩
  · rcases (by simp [exG] at hi; omega : i = 0 ∨ i = 1) with rfl | rfl
    · exact r3'.reads rfl r3'.lt
    · exact r4'.reads rfl r4'.lt
  · rcases (by simp [exG] at hi; omega : i = 0 ∨ i = 1) with rfl | rfl <;> decide
set_option maxHeartbeats 1000000 in
theorem works_any (w : World) : Calls Try.prog 16 #[] w fun e w' => e = .returned (.bool true) ∧ Below w.heap.size w w' := by
  have HX := Lib.hid (Example_any w)
  have e0 : exG.length = 2 := rfl
  go_enter Try.func16, Try.ntmps16
  go_upto_region 1 with (fail)
  go_upto_region 2 with (go_at_call 41; refine HX.out.mono ?_; rintro e w1 ⟨A, c, A2, c2, rs, rfl, hb1, hr1, hg1⟩; unfold eveV)
  have bW := hb1.alloc hb1.size (.cells #[.slice A exQ.rides.length c, .int .i64 exQ.walk] 24)
  have bW1 := (Below.refl w1.heap.size w1).alloc (Nat.le_refl _) (.cells #[.slice A exQ.rides.length c, .int .i64 exQ.walk] 24)
  have rW := Row.new w1 24 #[.slice A exQ.rides.length c, .int .i64 exQ.walk]
  obtain ⟨W, hW⟩ : ∃ W, W = w1.alloc (.cells #[.slice A exQ.rides.length c, .int .i64 exQ.walk] 24) := ⟨_, rfl⟩
  rw [← hW] at bW bW1 rW ⊢
  clear hW
  have hH : Calls Try.prog 27 #[.agg #[.slice A exQ.rides.length c, .int .i64 exQ.walk], .slice A2 2 c2] W (ListTo W [14, 16] 0) := by
    have h := Held_any exQ exG A A2 c c2 w1.heap.size rs W bW1.size (hr1.below bW1) (by decide) (hg1.below bW1)
    rw [ex_heldZ, ex_held.1] at h
    exact h
  have q0 : W.cell? ⟨w1.heap.size, 0, none⟩ = some (.slice A exQ.rides.length c) := rW.cell (j := 0) (by simp)
  have q1 : W.cell? ⟨w1.heap.size, 1, none⟩ = some (.int .i64 exQ.walk) := rW.cell (j := 1) (by simp)
  have lW := rW.lt
  have HB := Lib.hid bW
  have HH := Lib.hid hH
  clear hH bW bW1 rW hr1 hg1 hb1 HX
  go_upto_region 3 with (go_at_call 27; refine HH.out.mono ?_; rintro e w2 ⟨hb2, A3, c3, rfl, hr3⟩; simp only [List.length_cons, List.length_nil, Nat.zero_add, Nat.reduceAdd] at hr3 ⊢)
  obtain ⟨b, o, rfl, hlt, hc⟩ := hr3.2 (by omega)
  have k0 : w2.cell? ⟨b, o, none⟩ = some (.int .i64 14) := hc 0 _ rfl
  have k1 : w2.cell? ⟨b, o + 1, none⟩ = some (.int .i64 16) := hc 1 _ rfl
  have HB2 := Lib.hid hb2
  clear hb2 hc hr3
  go_wp2_with fail
  go_ret
  exact ⟨rfl, HB.out.trans (HB2.out.mono HB.out.size)⟩
end Go.Proofs.Ytijbhcdnbaaobaa
