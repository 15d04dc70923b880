/- slices.SortFunc at queue's visits. Conditions: the visits' numbers are small. -/
import Derived.Test.YtphhabknlcfelaaEj
namespace Go.Proofs
open Go.Shelf Go.RowKit Go.Lib Go.Sort
namespace Ytphhabknlcfelaa

abbrev VisB := { v : VisZ // SmallV v }
instance : Inhabited VisB := ⟨⟨⟨0, 0, 0, false, 0, 0⟩, by unfold SmallV; simp⟩⟩
def encB (x : VisB) : List Value := visL x.1
def cfB (x y : VisB) : Int := cfV x.1 y.1
theorem cfV_lt (x y : VisZ) : cfV x y < 0 ↔ (x.left < y.left ∨ x.left = y.left ∧ (x.group < y.group ∨ x.group = y.group ∧ x.want < y.want)) := by
  unfold cfV
  simp only [orZ, ne_eq]
  by_cases h1 : x.left - y.left = 0
  · by_cases h2 : (x.group : Int) - (y.group : Int) = 0
    · by_cases h3 : x.want - y.want = 0
      · simp [h1, h2, h3]; omega
      · simp [h1, h2, h3]; omega
    · simp [h1, h2]; omega
  · simp [h1]; omega
theorem ltB (x y : VisB) : ltOf cfB x y = decide (x.1.left < y.1.left ∨ x.1.left = y.1.left ∧ (x.1.group < y.1.group ∨ x.1.group = y.1.group ∧ x.1.want < y.1.want)) := by
  unfold ltOf cfB
  exact decide_eq_decide.2 (cfV_lt _ _)
theorem swoB : SWO (ltOf cfB) where
  irrefl x := by rw [ltB]; simp
  trans x y z h1 h2 := by rw [ltB] at *; simp only [decide_eq_true_eq] at *; omega
  ntrans x y z h1 h2 := by rw [ltB] at *; simp only [decide_eq_false_iff_not] at *; omega
theorem flat_at' {α : Type} (f : α → List Value) (k : Nat) (hk : ∀ x, (f x).length = k) (d : α) : ∀ (l : List α) (i : Nat), i < l.length → ∀ j, j < k → (l.flatMap f)[i * k + j]? = (f (l.getD i d))[j]? := by
  intro l
  induction l with
  | nil => intro i hi; simp at hi
  | cons x l ih =>
    intro i hi j hj
    cases i with
    | zero =>
      rw [Nat.zero_mul, Nat.zero_add, List.flatMap_cons, List.getElem?_append_left (by rw [hk]; exact hj)]
      rfl
    | succ i =>
      have h := ih i (by simpa using hi) j hj
      rw [List.flatMap_cons, List.getElem?_append_right (by rw [hk, Nat.succ_mul]; omega), hk, show (i + 1) * k + j - k = i * k + j by rw [Nat.succ_mul]; omega]
      exact h
theorem flat_len' {α : Type} (f : α → List Value) (k : Nat) (hk : ∀ x, (f x).length = k) (l : List α) : (l.flatMap f).length = l.length * k := by
  induction l with
  | nil => simp
  | cons x l ih => rw [List.flatMap_cons, List.length_append, ih, hk, List.length_cons, Nat.succ_mul]; omega
section
variable {w : World} {blk n k : Nat} {d : Array VisB} {os : Array Obj}
theorem sort_size (w : World) (blk n : Nat) (d : Array VisB) (os : Array Obj) : w.heap.size ≤ (sortWorldK encB 6 w blk 0 n d os).heap.size := by
  simp [sortWorldK, Sort.grow, putRowK, putRow, mapBlock]
theorem sort_block (h1 : k ≠ blk) (h2 : k < w.heap.size) : (sortWorldK encB 6 w blk 0 n d os).heap[k]? = w.heap[k]? := by
  have h3 : ¬ blk = k := fun e => h1 e.symm
  have h4 : k < (w.heap.modify blk (onCells (putCells id 0 (flatK encB 6 d)))).size := by simpa using h2
  show ((w.heap.modify blk (onCells (putCells id 0 (flatK encB 6 d)))) ++ os)[k]? = _
  rw [Array.getElem?_append_left h4, Array.getElem?_modify, if_neg h3]
theorem sort_below {B : Nat} (hb : B ≤ blk) (hB : B ≤ w.heap.size) : Below B w (sortWorldK encB 6 w blk 0 n d os) :=
  ⟨rfl, rfl, rfl, sort_size w blk n d os, fun i hi => sort_block (by omega) (by omega)⟩
theorem flatB (d : Array VisB) (j : Nat) (hj : j < d.size * 6) : ((d.toList.map (·.1)).flatMap visL)[j]? = some (flatK encB 6 d)[j]! := by
  have hi : j / 6 < d.size := by omega
  have hm : j % 6 < 6 := by omega
  have e1 : j / 6 * 6 + j % 6 = j := by omega
  have hl : (d.toList.map (·.1)).length = d.size := by simp
  have h := flat_at' visL 6 (fun _ => rfl) (⟨0, 0, 0, false, 0, 0⟩ : VisZ) (d.toList.map (·.1)) (j / 6) (by omega) (j % 6) hm
  rw [e1] at h
  rw [h, get_flatK _ _ _ _ hj]
  have hd : (d.toList.map (·.1)).getD (j / 6) ⟨0, 0, 0, false, 0, 0⟩ = (d[j / 6]!).1 := by
    rw [List.getD_eq_getElem?_getD, List.getElem?_map, getElem!_pos d _ hi]
    simp [hi]
  rw [hd]
  unfold encB
  have h6 : (visL (d[j / 6]!).1).length = 6 := rfl
  rw [List.getElem?_eq_getElem (by rw [h6]; exact hm), getElem!_pos (visL (d[j / 6]!).1) _ (by rw [h6]; exact hm)]
end
/-- Visits in a row: what a sorted row holds. -/
def SortTo (B : Nat) (w : World) (blk : Nat) (l : List VisZ) (e : Ending) (w' : World) : Prop :=
  e = .returned (.tuple #[]) ∧ ∃ L : List VisZ, L.Perm l ∧ L.Pairwise leV ∧ Below B w w' ∧ (∀ k, k ≠ blk → k < w.heap.size → w'.heap[k]? = w.heap[k]?) ∧ Reads w' w'.heap.size 6 (some ⟨blk, 0, none⟩) l.length (L.flatMap visL)
theorem sort_any (l : List VisZ) (hs : ∀ v ∈ l, SmallV v) (hl : l.length ≤ 100000) (B blk cap : Nat) (w : World) (hB : B ≤ blk) (hBw : B ≤ w.heap.size) (hr : Row w blk 57 (l.flatMap visL)) :
    Calls Try.prog 64 #[.slice (some ⟨blk, 0, none⟩) l.length cap, .func (.func 65) #[] #[]] w (SortTo B w blk l) := by
  have eg : ∀ args w, (callFunc 65 args).run Try.prog w = .ok (.enter 65 args) w := enters_of Try.func65 (by kernel_rfl) rfl
  obtain ⟨d, hd⟩ : ∃ d : Array VisB, d = (l.attachWith SmallV hs).toArray := ⟨_, rfl⟩
  have hdl : d.toList.map (·.1) = l := by rw [hd]; simp
  have hds : d.size = l.length := by rw [← hdl]; simp
  have hcl : (l.flatMap visL).length = l.length * 6 := flat_len' visL 6 (fun _ => rfl) l
  have hH : HoldsK encB 6 w blk 0 d := fun j hj => by
    rw [size_flatK] at hj
    have h1 := flatB d j hj
    rw [hdl] at h1
    have hj2 : j < (l.flatMap visL).length := by rw [hcl]; omega
    refine ⟨?_, hr.frozen _⟩
    rw [Nat.zero_add, hr.cell hj2, h1]
    rfl
  have hcon := AnyQ.slices_SortFunc Ytphhabknlcfelaa.laysSort 6 Try.isAgg57 Try.sizeOf57 encB (fun _ => rfl) (fun x v hv => by
    simp only [encB, visL, List.mem_cons, List.not_mem_nil, or_false] at hv
    rcases hv with rfl | rfl | rfl | rfl | rfl | rfl <;> rfl) cfB swoB 65 #[] blk 0 cap d w eg (fun _ _ _ _ x y => before_any x.1 y.1 x.2 y.2 _) hH hr.lt (by rw [hds]; omega)
  rw [hds] at hcon
  change Calls Try.prog 64 _ _ _ at hcon
  refine hcon.mono ?_
  rintro e w' ⟨rfl, d', n, os, hp, hso, rfl⟩
  obtain ⟨p1, _, p3⟩ := hp
  have hx : ∀ c : Array VisB, c.size = l.length → c.extract 0 l.length = c := fun c hc => by rw [← hc]; simp
  rw [hx d' (by rw [p1, hds]), hx d hds] at p3
  have hds' : d'.size = l.length := by rw [p1, hds]
  have hrd : HoldsK encB 6 (sortWorldK encB 6 w blk 0 n d' os) blk 0 d' := holdsK_grow encB 6 _ os blk 0 d' (by simpa [putRowK, putRow, mapBlock, ahead] using hr.lt) (holdsK_putRowK encB 6 _ blk 0 d d' (holdsK_ahead encB 6 w n blk 0 d hH) p1)
  refine ⟨rfl, d'.toList.map (·.1), by rw [← hdl]; exact p3.map _, ?_, sort_below hB hBw, fun k h1 h2 => sort_block h1 h2, ?_⟩
  · refine List.pairwise_map.2 (List.pairwise_iff_getElem.2 fun i j hi hj hij => ?_)
    have hj' : j < d'.size := by simpa using hj
    have hi' : i < d'.size := by simpa using hi
    have := hso i j (Nat.zero_le _) hij (by omega)
    rw [ltB, getElem!_pos d' j hj', getElem!_pos d' i hi'] at this
    simp only [decide_eq_false_iff_not] at this
    simp only [Array.getElem_toList]
    unfold leV
    omega
  · have hcl' : ((d'.toList.map (·.1)).flatMap visL).length = l.length * 6 := by
      rw [flat_len' visL 6 (fun _ => rfl)]
      simp [hds']
    refine ⟨hcl', fun _ => ⟨blk, 0, rfl, Nat.lt_of_lt_of_le hr.lt (sort_size w blk n d' os), fun j u hu => ?_⟩⟩
    have hj : j < d'.size * 6 := by
      have := (List.getElem?_eq_some_iff.1 hu).1
      rw [hcl'] at this
      omega
    have h1 := flatB d' j hj
    rw [hu] at h1
    injection h1 with h1
    rw [(hrd j (by rw [size_flatK]; exact hj)).1, ← h1]
    rfl
end Ytphhabknlcfelaa
end Go.Proofs
