/- How a ride that came in opens: a motor, a limit, and whether a brake fails. Plain facts on readings. -/
import Derived.Test.YtkmiapfkebdpbaaLf
namespace Go.Proofs.Ytkmiapfkebdpbaa
open Go.Joins Go.ChangeShapes Go.WideShapes Go.ChangeAt Go.RowKit Go.Deep

section
variable {H : Type} {enc : TypeId × Value → H} {P : Program} {w : World} {base : Nat} {spare : Nat → Bool} {held : Bool}
theorem trod_ints3 {t : TypeId} {f0 f1 f2 : Field} {fuel : Nat} {c0 c1 c2 : Value} {x : DataW H × List MemPlace} (hs : P.underlying t = some (.struct #[f0, f1, f2])) (hone : oneCellFields P #[f0, f1, f2] = true)
    (h0 : P.underlying f0.type = some (.int .i64)) (h1 : P.underlying f1.type = some (.int .i64)) (h2 : P.underlying f2.type = some (.int .i64)) (h : DataW.trod enc P w base spare held fuel t [c0, c1, c2] = some x) :
    ∃ k0 k1 k2 : Int, c0 = .int .i64 k0 ∧ c1 = .int .i64 k1 ∧ c2 = .int .i64 k2 := by
  obtain ⟨xs, n, _, hx, _, hlen, hg⟩ := DataW.trod_struct hs h
  obtain ⟨o0, j0⟩ := hone_of hone 0 f0 rfl
  obtain ⟨o1, j1⟩ := hone_of hone 1 f1 rfl
  obtain ⟨o2, j2⟩ := hone_of hone 2 f2 rfl
  match xs, hlen with
  | [y0, y1, y2], _ =>
    have g0 : DataW.trod enc P w base spare held n f0.type [c0] = some y0 := by simpa [o0, j0] using hg 0 f0 rfl
    have g1 : DataW.trod enc P w base spare held n f1.type [c1] = some y1 := by simpa [o1, j1] using hg 1 f1 rfl
    have g2 : DataW.trod enc P w base spare held n f2.type [c2] = some y2 := by simpa [o2, j2] using hg 2 f2 rfl
    obtain ⟨k0, e0, _, _⟩ := DataW.trod_int h0 g0
    obtain ⟨k1, e1, _, _⟩ := DataW.trod_int h1 g1
    obtain ⟨k2, e2, _, _⟩ := DataW.trod_int h2 g2
    injection e0 with e0 _
    injection e1 with e1 _
    injection e2 with e2 _
    exact ⟨k0, k1, k2, e0, e1, e2⟩
end
def rideV (m : Mot) (x : Lim) (fails : Bool) : Value := .agg #[.int .i64 m.top, .int .i64 m.ease, .int .i64 m.jerk, .int .i64 x.side, .int .i64 x.low, .int .i64 x.high, .bool fails]
set_option maxRecDepth 100000 in
theorem open_ride {H : Type} {enc : TypeId × Value → H} {w : World} {r : Reach} {b0 : Nat} {v : Value} {d : DataW H} {p : List MemPlace} (hv : Value.okWide Try.prog w r b0 39 v)
    (h : DataW.Trod enc Try.prog w 0 (fun _ => true) true 39 v d p) : ∃ m x fails, v = rideV m x fails := by
  obtain ⟨cs, rfl, hsz⟩ := okWide_struct Try.underlying39 hv
  have hC : Try.prog.cellsOf 39 = 7 := by kernel_rfl
  have hM : Try.prog.cellsOf 35 = 3 := by kernel_rfl
  have hL : Try.prog.cellsOf 37 = 3 := by kernel_rfl
  have hB : Try.prog.cellsOf 4 = 1 := by kernel_rfl
  obtain ⟨l⟩ := cs
  match l, hsz.trans hC with
  | [c0, c1, c2, c3, c4, c5, c6], _ =>
    obtain ⟨fuel, hf⟩ := h
    obtain ⟨xs, n, _, hx, _, hlen, hg⟩ := DataW.trod_struct Try.underlying39 hf
    match xs, hlen with
    | [y0, y1, y2], _ =>
      have g0 : DataW.trod enc Try.prog w 0 (fun _ => true) true n 35 [c0, c1, c2] = some y0 := by simpa [Value.cells, hM] using hg 0 _ rfl
      have g1 : DataW.trod enc Try.prog w 0 (fun _ => true) true n 37 [c3, c4, c5] = some y1 := by simpa [Value.cells, hL] using hg 1 _ rfl
      have g2 : DataW.trod enc Try.prog w 0 (fun _ => true) true n 4 [c6] = some y2 := by simpa [Value.cells, hB] using hg 2 _ rfl
      obtain ⟨k0, k1, k2, rfl, rfl, rfl⟩ := trod_ints3 Try.underlying35 (by kernel_rfl) Try.underlying3 Try.underlying3 Try.underlying3 g0
      obtain ⟨k3, k4, k5, rfl, rfl, rfl⟩ := trod_ints3 Try.underlying37 (by kernel_rfl) Try.underlying3 Try.underlying3 Try.underlying3 g1
      obtain ⟨fb, e, _⟩ := DataW.trod_bool Try.underlying4 g2
      injection e with e _
      subst e
      exact ⟨⟨k0, k1, k2⟩, ⟨k3, k4, k5⟩, fb, rfl⟩
end Go.Proofs.Ytkmiapfkebdpbaa
