/- Plain facts for the walk of TokensFree: rows that an append keeps, a zeroed block that is written. No program. -/
import Derived.Test.YtpcceankhgjjmaaFh
import Derived.Deep.AppendLies
namespace Go.Proofs.Ytpcceankhgjjmaa
open Go.RowKit

theorem row_ne {w : World} {g g' : Nat} {t t' : TypeId} {xs xs' : List Value} (h : Row w g t xs) (h' : Row w g' t' xs') (hne : t ≠ t') : ¬ g = g' := by
  rintro rfl
  obtain ⟨cs, h1, _⟩ := h
  obtain ⟨cs', h2, _⟩ := h'
  rw [h1] at h2
  injection h2 with h2
  injection h2 with _ h2
  exact hne h2
theorem row_grown {w w' : World} {base : Nat} {e t : TypeId} {size n g : Nat} {v : Value} {xs ys : List Value} (own : w.ownsRow base e size v n xs) (hg : w.grownBy w' v.ownBlock) (hr : Row w g t ys) (hne : e ≠ t) : Row w' g t ys := by
  refine hr.keep (hg.block g hr.lt fun e2 => ?_)
  rcases own.2 with ⟨rfl, _⟩ | ⟨g', cap, cur, rfl, _, hh, _⟩
  · simp [Value.ownBlock] at e2
  · simp [Value.ownBlock] at e2
    subst e2
    obtain ⟨cs, h1, _⟩ := hr
    rw [hh] at h1
    injection h1 with h1
    injection h1 with _ h1
    exact hne h1
theorem row_news {w : World} {g : Nat} {t : TypeId} {xs : List Value} (h : Row w g t xs) : ∀ j u, xs[j]? = some u → w.cell? ((⟨g, 0, none⟩ : Addr).add j) = some u := fun j u hu => by
  rw [Addr.add_lit, Nat.zero_add, h.cell (List.getElem?_eq_some_iff.1 hu).1, hu]
theorem sz1 (w : World) (o : Obj) : w.heap.size + 1 = (w.alloc o).heap.size := by simp
theorem lt2 (w : World) (o o' : Obj) : w.heap.size + 1 < ((w.alloc o).alloc o').drew.heap.size := by
  show w.heap.size + 1 < ((w.alloc o).alloc o').heap.size
  simp
theorem lt3 (w : World) (o o' : Obj) : w.heap.size < ((w.alloc o).alloc o').drew.heap.size := by
  show w.heap.size < ((w.alloc o).alloc o').heap.size
  simp; omega
theorem k_alloc_lt (w : World) (o : Obj) : w.heap.size < (w.alloc o).heap.size := by simp
theorem k_alloc_lt' (w : World) (o : Obj) : w.heap.size < (w.alloc o).drew.heap.size := k_alloc_lt w o
abbrev k_zeroC : Array Value := #[.slice none 0 0, .slice none 0 0, .slice none 0 0, .slice none 0 0, .int .i64 0]
section
variable {x : World} {g N : Nat} {t : TypeId} {C : Count} {K : CRefs} {z0 z1 z2 z3 z4 v0 v1 v2 v3 v4 : Value}
theorem k_row5 : Row (x.alloc (.cells #[v0, v1, v2, v3, v4] t)) x.heap.size t [v0, v1, v2, v3, v4] := row_new _ _ _ _ rfl
theorem k_set5 (h : Row x g t [z0, z1, z2, z3, z4]) : Row (((((x.setCell ⟨g, 0, none⟩ v0).setCell ⟨g, 1, none⟩ v1).setCell ⟨g, 2, none⟩ v2).setCell ⟨g, 3, none⟩ v3).setCell ⟨g, 4, none⟩ v4) g t [v0, v1, v2, v3, v4] := by
  have := ((((h.set 0 v0).set 1 v1).set 2 v2).set 3 v3).set 4 v4
  exact this
theorem k_count5 (h : CountIn x x.heap.size C K) (hf : CFresh N K) (hg : g < N) : CountIn (((((x.setCell ⟨g, 0, none⟩ v0).setCell ⟨g, 1, none⟩ v1).setCell ⟨g, 2, none⟩ v2).setCell ⟨g, 3, none⟩ v3).setCell ⟨g, 4, none⟩ v4) (((((x.setCell ⟨g, 0, none⟩ v0).setCell ⟨g, 1, none⟩ v1).setCell ⟨g, 2, none⟩ v2).setCell ⟨g, 3, none⟩ v3).setCell ⟨g, 4, none⟩ v4).heap.size C K :=
  (((((h.far hf (p := ⟨g, 0, none⟩) hg v0).far hf (p := ⟨g, 1, none⟩) hg v1).far hf (p := ⟨g, 2, none⟩) hg v2).far hf (p := ⟨g, 3, none⟩) hg v3).far hf (p := ⟨g, 4, none⟩) hg v4).more (by simp [World.setCell])
theorem k_countA (h : CountIn x x.heap.size C K) (o : Obj) : CountIn (x.alloc o) (x.alloc o).heap.size C K := (h.keep fun p hp => World.cell?_alloc_lt x _ p hp).more (Nat.le_of_lt (k_alloc_lt _ _))
theorem k_below5 {B : Nat} {a : World} (h : Below B a x) (hg : B ≤ g) : Below B a (((((x.setCell ⟨g, 0, none⟩ v0).setCell ⟨g, 1, none⟩ v1).setCell ⟨g, 2, none⟩ v2).setCell ⟨g, 3, none⟩ v3).setCell ⟨g, 4, none⟩ v4) :=
  ((((h.setCell hg _).setCell hg _).setCell hg _).setCell hg _).setCell hg _
end
end Go.Proofs.Ytpcceankhgjjmaa
