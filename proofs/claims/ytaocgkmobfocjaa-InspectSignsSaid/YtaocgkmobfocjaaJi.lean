/- A drawn region with one append ahead of its last operations: what holds of it. No program. -/
import Derived.Test.YtaocgkmobfocjaaRi
import Derived.Test.YtaocgkmobfocjaaRow
import Derived.Deep.AppendLies
namespace Go.Proofs.Ytaocgkmobfocjaa
open Go Go.RowKit

/-- Before the append nothing that was there has turned; behind it M holds. -/
def appI (ia : Nat) (U : World) (M : World → Prop) : (Nat → Bool) → World → Prop := fun done y => (done ia = false → Below U.heap.size U y) ∧ (done ia = true → M y)
theorem app_same {ia i : Nat} {U y : World} {M : World → Prop} {done : Nat → Bool} (h : appI ia U M done y) (h1 : i ≠ ia) : appI ia U M (setD done i) y := by
  have e1 : setD done i ia = done ia := if_neg (Ne.symm h1)
  exact ⟨by rw [e1]; exact h.1, by rw [e1]; exact h.2⟩
theorem app_below {ia i : Nat} {U y z : World} {M : World → Prop} {done : Nat → Bool} (h : appI ia U M done y) (h1 : i ≠ ia) (hd : done ia = false) (hz : Below y.heap.size y z) : appI ia U M (setD done i) z := by
  have e1 : setD done i ia = done ia := if_neg (Ne.symm h1)
  have hy := h.1 hd
  exact ⟨fun _ => hy.trans (hz.mono hy.size), fun h2 => (by rw [e1, hd] at h2; cases h2)⟩
theorem app_here {ia : Nat} {U z : World} {M : World → Prop} {done : Nat → Bool} (h : M z) : appI ia U M (setD done ia) z := by
  have e1 : setD done ia ia = true := if_pos rfl
  exact ⟨fun h2 => (by rw [e1] at h2; cases h2), fun _ => h⟩
theorem app_start {ia : Nat} {U y : World} {M : World → Prop} (h : Below U.heap.size U y) : appI ia U M (fun _ => false) y := ⟨fun _ => h, fun h2 => Bool.noConfusion h2⟩
/-- What a new row holds. -/
def newRow (B : Nat) (t : TypeId) (n : Nat) (xs : List Value) : Value → World → Prop := fun u y => ∃ g, u = .slice (some ⟨g, 0, none⟩) n n ∧ B ≤ g ∧ Row y g t xs
theorem row_news {w : World} {g : Nat} {t : TypeId} {xs : List Value} (h : Row w g t xs) : ∀ j u, xs[j]? = some u → w.cell? ((⟨g, 0, none⟩ : Addr).add j) = some u := fun j u hu => by
  have hj : j < xs.length := (List.getElem?_eq_some_iff.1 hu).1
  rw [Addr.add_lit, Nat.zero_add, h.cell hj, hu]
theorem newRow_kept {B : Nat} {t : TypeId} {n : Nat} {xs : List Value} {v u : Value} {y z : World} (h : newRow B t n xs u y) (hg : y.grownBy z v.ownBlock) (hv : ∀ k, v.ownBlock = some k → k < B) : newRow B t n xs u z := by
  obtain ⟨g, h1, h2, h3⟩ := h
  exact ⟨g, h1, h2, h3.keep (hg.block g h3.lt fun e => by have := hv g e.symm; omega)⟩
theorem opsE_nil {E : Nat → (Act → World → Prop) → Act → World → Prop} {Q0 : Act → World → Prop} {a : Act} {w : World} (h : Q0 a w) : opsE E Q0 [] a w := h
theorem wp_region_part {P : Program} {ops : Array Oper} {Q : Exit → Act → World → Prop} {id : Nat} {a : Act} {w : World} {ord : List Nat} {ds : List (Nat × Tmp)} {I : (Nat → Bool) → World → Prop} {V : Nat → Value → World → Prop} (m : Nat) (hmx : P.follows .mixedOrders = true) (hok : rgB ops ord m ds = true) (hm : decide (m ≤ ops.size) = true) (hI : I (fun _ => false) w.drew)
    (hs : StepsE (wpOp P ops Q) ops a ds m I V 0 m)
    (hend : ∀ xs done y, I done y → (∀ j, j < m → done j = true) → (∀ j, j < m → V j (xs j) y) → opsE (wpOp P ops Q) (Q .normal) (List.range' m (ops.size - m)) (putsF a ds xs) y) : (Code.region id ops true).wp P Q a w :=
  wp_region_any hmx (anyE_wp _ _ _ _ (rg_start (E := wpOp P ops Q) (w := w.drew) (fun _ _ _ _ _ h => wpOp_mono h) hok (of_decide_eq_true hm) hI (fun i o hi ho => StepsE.at m 0 hs i o (Nat.zero_le _) (by omega) ho) fun xs done y hy hd _ hV => hend xs done y hy hd hV))
end Go.Proofs.Ytaocgkmobfocjaa
