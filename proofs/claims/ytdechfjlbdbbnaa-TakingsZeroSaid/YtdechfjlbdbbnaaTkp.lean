/- Words for payments as rows. No program. -/
import Derived.Test.YtdechfjlbdbbnaaTkd
namespace Go.Proofs.Ytdechfjlbdbbnaa
open Go.RowKit

structure PyZ where
  frm : Int
  dst : Int
  cents : Int
deriving Inhabited, DecidableEq
def pyL (p : PyZ) : List Value := [.int .i64 p.frm, .int .i64 p.dst, .int .i64 p.cents]
def pyCells (l : List PyZ) : List Value := l.flatMap pyL
theorem pyCells_at (l : List PyZ) : ∀ k (h : k < l.length), ∀ j, j < 3 → (pyCells l)[k * 3 + j]? = (pyL l[k])[j]? := by
  induction l with
  | nil => intro k hk; simp at hk
  | cons e l ih =>
    intro k hk j hj
    rw [show pyCells (e :: l) = pyL e ++ pyCells l from rfl]
    cases k with
    | zero =>
      rw [Nat.zero_mul, Nat.zero_add, List.getElem?_append_left (by simpa [pyL] using hj)]
      rfl
    | succ k =>
      rw [List.getElem?_append_right (by simp [pyL]; omega), show (k + 1) * 3 + j - (pyL e).length = k * 3 + j by simp [pyL]; omega]
      exact ih k (by simpa using hk) j hj
def rentV (R : Int × Int × Int) : Value := .agg #[.int .i64 R.1, .int .i64 R.2.1, .int .i64 R.2.2]
theorem flat_lenT {α : Type} (f : α → List Value) (k : Nat) (hk : ∀ x, (f x).length = k) (l : List α) : (l.flatMap f).length = l.length * k := by
  induction l with
  | nil => simp
  | cons x l ih => rw [List.flatMap_cons, List.length_append, ih, hk, List.length_cons, Nat.succ_mul]; omega
theorem brCells_len (l : List BrZ) : (brCells l).length = l.length * 2 := flat_lenT brL 2 (fun _ => rfl) l
theorem pyCells_len (l : List PyZ) : (pyCells l).length = l.length * 3 := flat_lenT pyL 3 (fun _ => rfl) l
end Go.Proofs.Ytdechfjlbdbbnaa
