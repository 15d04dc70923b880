/- How a group opens that is a law's argument. Plain facts on readings. -/
import Derived.Test.YtphhabknlcfelaaEg
namespace Go.Proofs.Ytphhabknlcfelaa
open Go.Joins Go.ChangeShapes Go.WideShapes Go.ChangeAt Go.RowKit Go.Deep

/-- A group as a value. -/
def grpV (m : GrpZ) (A : Option Addr) (c : Nat) : Value := .agg #[.int .i64 m.at_, .int .i64 m.size, .int .i64 m.tokens, .slice A m.wants.length c, .int .i64 m.patience]
set_option maxRecDepth 100000 in
/-- A group that came in. -/
theorem open_grp {H : Type} {enc : TypeId × Value → H} {w : World} {r : Reach} {b0 : Nat} {v : Value} {d : DataW H} {p : List MemPlace} (hv : Value.okWide Try.prog w r b0 55 v)
    (h : DataW.Trod enc Try.prog w 0 (fun _ => true) true 55 v d p) : ∃ m A c, v = grpV m A c ∧ Reads w w.heap.size 1 A m.wants.length (m.wants.map (Value.int .i64)) ∧ m.wants.length ≤ maxLen := by
  obtain ⟨cs, rfl, hsz⟩ := okWide_struct Try.underlying55 hv
  have hC : Try.prog.cellsOf 55 = 5 := by kernel_rfl
  have hS : Try.prog.cellsOf 37 = 1 := by kernel_rfl
  have hI : Try.prog.cellsOf 3 = 1 := by kernel_rfl
  obtain ⟨l⟩ := cs
  match l, hsz.trans hC with
  | [c0, c1, c2, c3, c4], _ =>
    obtain ⟨fuel, hf⟩ := h
    obtain ⟨xs, n, _, hx, _, hlen, hg⟩ := DataW.trod_struct Try.underlying55 hf
    match xs, hlen with
    | [y0, y1, y2, y3, y4], _ =>
      have g0 : DataW.trod enc Try.prog w 0 (fun _ => true) true n 3 [c0] = some y0 := by simpa [Value.cells, hI] using hg 0 _ rfl
      have g1 : DataW.trod enc Try.prog w 0 (fun _ => true) true n 3 [c1] = some y1 := by simpa [Value.cells, hI] using hg 1 _ rfl
      have g2 : DataW.trod enc Try.prog w 0 (fun _ => true) true n 3 [c2] = some y2 := by simpa [Value.cells, hI] using hg 2 _ rfl
      have g3 : DataW.trod enc Try.prog w 0 (fun _ => true) true n 37 [c3] = some y3 := by simpa [Value.cells, hS] using hg 3 _ rfl
      have g4 : DataW.trod enc Try.prog w 0 (fun _ => true) true n 3 [c4] = some y4 := by simpa [Value.cells, hI] using hg 4 _ rfl
      obtain ⟨k0, e0, _, _⟩ := DataW.trod_int Try.underlying3 g0
      obtain ⟨k1, e1, _, _⟩ := DataW.trod_int Try.underlying3 g1
      obtain ⟨k2, e2, _, _⟩ := DataW.trod_int Try.underlying3 g2
      obtain ⟨A3, c3', zs, rfl, hr, hzl⟩ := open_ints_row Try.underlying37 Try.underlying3 (by kernel_rfl) (fun _ => rfl) g3
      obtain ⟨k4, e4, _, _⟩ := DataW.trod_int Try.underlying3 g4
      injection e0 with e0 _
      injection e1 with e1 _
      injection e2 with e2 _
      injection e4 with e4 _
      subst e0; subst e1; subst e2; subst e4
      exact ⟨⟨k0, k1, k2, k4, zs⟩, A3, c3', rfl, hr, hzl⟩
end Go.Proofs.Ytphhabknlcfelaa
