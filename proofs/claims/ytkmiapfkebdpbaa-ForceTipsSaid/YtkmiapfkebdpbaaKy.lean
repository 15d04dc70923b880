/- Contracts of ExamplePath, ExampleRig and works. No conditions. -/
import Derived.Test.YtkmiapfkebdpbaaKx
import Derived.Test.YtkmiapfkebdpbaaKl
namespace Go.Proofs.Ytkmiapfkebdpbaa
open Go.RowKit

def exP : List Pt := [⟨100, 0, 0⟩, ⟨0, 100, 0⟩, ⟨-100, 0, 0⟩, ⟨0, -100, 0⟩]
def exF : List Pt := [⟨-50, -50, 0⟩, ⟨50, -50, 0⟩, ⟨50, 50, 0⟩, ⟨-50, 50, 0⟩]
def exRig : RigZ := { seats := [exP], feet := exF, center := ⟨0, 0, 0⟩, frame := 10, empty := 1, full := 3 }
def exMot : Mot := ⟨2, 1, 2⟩
def exLim : Lim := ⟨300, 0, 2000⟩
theorem ex_least : rigB exRig = true ∧ leastS exRig = (35000, 0, 1) := by decide +kernel
theorem ex_fast : fastS exP exMot exLim false = (1, 0) := by decide +kernel

theorem ExamplePath_any (w : World) : Calls Try.prog 45 #[] w fun e w' => e = .returned (.slice (some ⟨w.heap.size, 0, none⟩) 4 4) ∧ w' = w.alloc (.cells (ptCells exP).toArray 28) := by
  go_enter Try.func45, Try.ntmps45
  go_wp2_with fail
  go_ret
  exact ⟨rfl, rfl⟩
def ERPost (w : World) (e : Ending) (w' : World) : Prop := ∃ R, e = .returned (rigV exRig R) ∧ RigIn w' w'.heap.size exRig R ∧ Below w.heap.size w w'
set_option maxHeartbeats 1000000 in
theorem ExampleRig_any (w : World) : Calls Try.prog 44 #[] w (ERPost w) := by
  go_enter Try.func44, Try.ntmps44
  go_wp2_with fail
  refine (ExamplePath_any _).mono ?_
  rintro e w1 ⟨rfl, rfl⟩
  go_wp2_with fail
  refine bodyPost_ret (v := rigV exRig ⟨some ⟨w.heap.size + 1 + 1, 0, none⟩, 1, [(some ⟨w.heap.size + 1, 0, none⟩, 4)], some ⟨w.heap.size + 1 + 1 + 1, 0, none⟩, 4⟩) (by simp [results, Try.results44, go_sem, rigV, exRig, exF, *]) rfl ?_
  refine ⟨_, rfl, ?_, (((((Below.refl _ _).alloc (Nat.le_refl _) _).alloc (by simp) _).alloc (by simp; omega) _).alloc (by simp; omega) _)⟩
  obtain ⟨V0, hV0⟩ : ∃ V0, V0 = w.alloc (.cells #[.slice (some ⟨w.heap.size + 1 + 1, 0, none⟩) 1 1, .slice (some ⟨w.heap.size + 1 + 1 + 1, 0, none⟩) 4 4, .int .i64 10, .int .i64 0, .int .i64 0, .int .i64 0, .int .i64 1, .int .i64 3] 57) := ⟨_, rfl⟩
  have s0 : V0.heap.size = w.heap.size + 1 := by subst hV0; simp
  rw [← hV0, ← s0]
  clear hV0 s0
  have r1 := Row.new V0 28 (ptCells exP).toArray
  have s1 : (V0.alloc (.cells (ptCells exP).toArray 28)).heap.size = V0.heap.size + 1 := by simp
  generalize V0.alloc (.cells (ptCells exP).toArray 28) = V1 at *
  rw [← s1]
  have r2 := Row.new V1 22 #[.slice (some ⟨V0.heap.size, 0, none⟩) 4 4]
  have r1' := r1.alloc (.cells #[.slice (some ⟨V0.heap.size, 0, none⟩) 4 4] 22)
  have s2 : (V1.alloc (.cells #[.slice (some ⟨V0.heap.size, 0, none⟩) 4 4] 22)).heap.size = V1.heap.size + 1 := by simp
  generalize V1.alloc (.cells #[.slice (some ⟨V0.heap.size, 0, none⟩) 4 4] 22) = V2 at *
  rw [← s2]
  have r3 := Row.new V2 28 (ptCells exF).toArray
  have r2' := r2.alloc (.cells (ptCells exF).toArray 28)
  have r1'' := r1'.alloc (.cells (ptCells exF).toArray 28)
  have hX : V2.alloc (.cells (ptCells exF).toArray 28) = V2.alloc (.cells #[.int .i64 (-50), .int .i64 (-50), .int .i64 0, .int .i64 50, .int .i64 (-50), .int .i64 0, .int .i64 50, .int .i64 50, .int .i64 0, .int .i64 (-50), .int .i64 50, .int .i64 0] 28) := rfl
  rw [← hX]
  clear hX
  generalize V2.alloc (.cells (ptCells exF).toArray 28) = V3 at *
  refine ⟨⟨by decide, fun _ => ⟨V1.heap.size, 0, rfl, r2'.lt, fun i hi => ?_⟩, fun i hi => ?_, fun i hi => ?_⟩, r3.reads rfl r3.lt, by decide⟩
  · obtain rfl : i = 0 := by simp [exRig] at hi; omega
    exact r2'.cell (j := 0) (by simp)
  · obtain rfl : i = 0 := by simp [exRig] at hi; omega
    exact r1''.reads rfl r1''.lt
  · obtain rfl : i = 0 := by simp [exRig] at hi; omega
    decide
set_option maxHeartbeats 1000000 in
theorem works_any (w : World) : Calls Try.prog 15 #[] w fun e w' => e = .returned (.bool true) ∧ Below w.heap.size w w' := by
  go_enter Try.func15, Try.ntmps15
  go_wp2_with fail
  refine (ExampleRig_any w).mono ?_
  rintro e w1 ⟨R, rfl, hR, hb1⟩
  go_wp2_with fail
  refine (Least_any exRig R w1.heap.size w1 (Nat.le_refl _) hR).mono ?_
  rintro e w2 ⟨hb2, ⟨h1, _⟩ | ⟨_, rfl⟩⟩
  · rw [ex_least.1] at h1; cases h1
  rw [ex_least.2]
  have b2 := hb1.trans (hb2.mono hb1.size)
  go_wp2_with fail
  refine (ExamplePath_any w2).mono ?_
  rintro e w3 ⟨rfl, rfl⟩
  have b3 := b2.alloc b2.size (.cells (ptCells exP).toArray 28)
  have hr := Row.new w2 28 (ptCells exP).toArray
  generalize w2.alloc (.cells (ptCells exP).toArray 28) = X at *
  have hrr : Reads X X.heap.size 3 (some ⟨w2.heap.size, 0, none⟩) exP.length (ptCells exP) := hr.reads rfl hr.lt
  go_wp2_with fail
  refine (Fastest_any exP exMot exLim false _ 4 X.heap.size X (Nat.le_refl _) hrr (by decide)).mono ?_
  rintro e w4 ⟨hb4, rfl⟩
  rw [ex_fast]
  have b4 := b3.trans (hb4.mono b3.size)
  go_wp2_with fail
  go_ret
  exact ⟨rfl, b4⟩
end Go.Proofs.Ytkmiapfkebdpbaa
