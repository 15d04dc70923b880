/- An operation of a drawn region with a guard: it is run, or skipped. No program. -/
import Derived.Test.YtaocgkmobfocjaaYr
namespace Go.Proofs.Ytaocgkmobfocjaa
open Go Go.RowKit

section
variable {P : Program} {ops : Array Oper} {Q : Exit → Act → World → Prop} {i j c : Nat} {a : Act} {w : World} {o : Oper} {K : Act → World → Prop} {b : Bool}
theorem wpOp_run (ho : ops[i]? = some o) (hg : o.guard = some (j, b)) (hd : (ops[j]?).bind (·.dst) = some c) (hx : a.tmps[c]? = some (.bool b)) (h : o.wp P a w K Q) : wpOp P ops Q i K a w := by
  unfold wpOp
  rw [ho]
  show if Region.wanted o (yielded ops a.tmps) = true then _ else _
  rw [if_pos (by simp [Region.wanted, hg, yielded, hd, hx])]
  exact .inl h
theorem wpOp_skip {v : Value} (ho : ops[i]? = some o) (hg : o.guard = some (j, b)) (hd : (ops[j]?).bind (·.dst) = some c) (hx : a.tmps[c]? = some v) (hv : v ≠ .bool b) (h : K (a.put o.dst undef) w) : wpOp P ops Q i K a w := by
  unfold wpOp
  rw [ho]
  show if Region.wanted o (yielded ops a.tmps) = true then _ else _
  rw [if_neg]
  · exact h
  · have hy : yielded ops a.tmps j ≠ some b := by
      unfold yielded
      rw [hd]
      simp only [Option.bind_some, hx]
      cases v <;> simp_all
    simpa [Region.wanted, hg] using hy
end
end Go.Proofs.Ytaocgkmobfocjaa
