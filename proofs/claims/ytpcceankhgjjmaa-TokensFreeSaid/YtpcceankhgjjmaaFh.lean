/- Words for the walk of TokensFree: one more deal at the end of a list. Conditions: the arguments read as data. -/
import Derived.Test.YtpcceankhgjjmaaUa
import Derived.Test.YtpcceankhgjjmaaAp
import Derived.Test.YtpcceankhgjjmaaRc
namespace Go.Proofs.Ytpcceankhgjjmaa
open Go.RowKit

theorem Try.info_deal : (Try.prog.info? 65).map (fun i => (i.zero, i.size, i.bytes)) = some (some (.agg #[.int .i64 0, .int .i64 0, .int .i64 0, .int .i64 0, .int .i64 0]), 5, 40) := by kernel_rfl
theorem deal_one (l : List Deal) : ∀ u ∈ dealCells l, u.oneCell' = true := by
  intro u hu
  simp only [dealCells, List.mem_flatMap] at hu
  obtain ⟨d, _, hu⟩ := hu
  simp only [List.mem_cons, List.not_mem_nil, or_false] at hu
  rcases hu with rfl | rfl | rfl | rfl | rfl <;> rfl
theorem dealCells_append (l m : List Deal) : dealCells (l ++ m) = dealCells l ++ dealCells m := by simp [dealCells]
theorem Play_more (F : Fair) (R : Refs) (l : List Deal) (r : Deal) (A : Option Addr) (c B B' : Nat) (Y X : World) (hF : FairIn Y B F R) (hB : B ≤ Y.heap.size) (hX : Below Y.heap.size Y X) (hr : Reads X B' 5 A (l.length + 1) (dealCells l ++ dealCells [r])) (hB' : B' ≤ X.heap.size) (h200 : l.length < 200) :
    Calls Try.prog 20 #[fairV F R, .slice A (l.length + 1) c] X fun e w' => PlNew X F (l ++ [r]) e w' ∧ Below Y.heap.size Y w' := by
  have e : (l ++ [r]).length = l.length + 1 := by simp
  rw [← e] at hr ⊢
  rw [← dealCells_append] at hr
  exact (Play_new F R (l ++ [r]) A c X.heap.size X (Nat.le_refl _) ((hF.below (hX.mono hB)).more (by have := hX.size; omega)) (hr.more hB') (by rw [e]; unfold maxLen; omega)).mono fun _ _ h => ⟨h, below_step hX h.1⟩
/-- What the second Play has left. -/
def FreeMid (Y : World) (F : Fair) (l : List Deal) (s8 s10 : Value) (wx : World) : Prop :=
  ∃ g K, s8 = .int .i64 (errS F l) ∧ s10 = .pointer (some ⟨g, 0, none⟩) ∧ Y.heap.size ≤ g ∧ Below Y.heap.size Y wx ∧ CountIn wx wx.heap.size (playS F l) K ∧
    Row wx g 35 [.slice K.A1 (playS F l).stock.length K.c1, .slice K.A2 (playS F l).cash.length K.c2, .slice K.A3 (playS F l).purses.length K.c3, .slice K.A4 (playS F l).boxes.length K.c4, .int .i64 (playS F l).lost]
end Go.Proofs.Ytpcceankhgjjmaa
