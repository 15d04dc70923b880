/- A slice literal that is built: laws for the kernel's sake. No conditions. -/
import Derived.Test.YtkmiapfkebdpbaaKb
import Derived.Great.BuildSlice
namespace Go.Proofs.Ytkmiapfkebdpbaa
open Go.RowKit

theorem Try.info_int : (Try.prog.info? 3).map (fun i => (i.zero, i.size, i.bytes)) = some (some (.int .i64 0), 1, 8) := by kernel_rfl
theorem Try.info_pt : (Try.prog.info? 28).map (fun i => (i.zero, i.size, i.bytes)) = some (some (.agg #[.int .i64 0, .int .i64 0, .int .i64 0]), 3, 24) := by kernel_rfl
theorem range0 : Array.range 0 = #[] := rfl
theorem run_bs1 (w : World) (x : Int) : (Instr.buildSlice 47 1 #[(0, .int .i64 x)]).run Try.prog w = .ok (.slice (some ⟨w.heap.size, 0, none⟩) 1 1) (w.alloc (.cells #[.int .i64 x] 3)) := by
  obtain ⟨i0, hi, hz0, hz1, hz2⟩ := info_parts Try.info_int
  refine run_buildSlice w _ _ 1 _ _ i0 _ Try.underlying47 hi hz0 ?_ ?_ ?_
  · rw [hz1]; decide
  · rw [hz1]; decide
  · rw [hz1]; simp [Instr.fill, Value.cells, Array.range_succ, range0]
theorem step_bs1 {ops : Array Oper} {o : Oper} {a : Act} {w : World} {K : Act → World → Prop} {Q : Exit → Act → World → Prop} {E : Prop} (hw : Region.wanted o (yielded ops a.tmps) = true) (s : Operand)
    (ho : o.op = .buildSlice 47 1 #[(0, s)]) (x : Int) (hs : a.eval s = .int .i64 x) (g : Nat) (hg : w.heap.size = g) (h : K (a.put o.dst (.slice (some ⟨g, 0, none⟩) 1 1)) (w.alloc (.cells #[.int .i64 x] 3))) :
    if Region.wanted o (yielded ops a.tmps) = true then Oper.wp Try.prog o a w K Q else E := by
  subst hg
  rw [if_pos hw]
  unfold Oper.wp execOp
  simp only [ho, Sem.run_bind, List.map_toArray, List.map_cons, List.map_nil, hs, run_bs1, Result.andThen_ok]
  exact h
end Go.Proofs.Ytkmiapfkebdpbaa
