/- slices.DeleteFunc at a queue, with the closure of leaveQueue. Conditions: the queue's row is the evening's own. -/
import Derived.Test.YtijbhcdnbaaobaaSd
import Derived.Test.YtijbhcdnbaaobaaJf
namespace Go.Proofs
open Go.Shelf Go.RowKit Go.Lib Go.Sort
namespace Ytijbhcdnbaaobaa

theorem leave1_gives (i x : Nat) (B : Nat) (W : World) (hc : W.cell? ⟨B, 0, none⟩ = some (.int .i64 (i : Int))) :
    FnGives Try.prog 127 #[.pointer (some ⟨B, 0, none⟩)] #[.int .i64 (x : Int)] (.bool (decide (x = i))) W := by
  show Calls Try.prog 127 #[.int .i64 (x : Int), .pointer (some ⟨B, 0, none⟩)] W _
  go_enter Try.func127, Try.ntmps127
  go_wp2_with fail
  go_ret
  refine ⟨ret_bool ?_, 0, rfl⟩
  by_cases h : x = i
  · subst h; simp
  · rw [decide_eq_false h]
    simp only [beq_eq_false_iff_ne]
    omega
theorem heap_putRow {α : Type} [Inhabited α] (enc : α → Value) (w : World) (blk off : Nat) (d : Array α) (cs : Array Value) (t : TypeId) (h : w.heap[blk]? = some (.cells cs t (0, 0))) :
    (putRow enc w blk off d).heap[blk]? = some (.cells (putCells enc off d cs) t (0, 0)) := by
  unfold putRow mapBlock
  simp [Array.getElem?_modify, h, onCells]
theorem del_any {w : World} {base g c i : Nat} {l : List Nat} {u : Value} (hu : u = .slice (some ⟨g, 0, none⟩) l.length c) (ho : w.ownsRow base 3 1 u l.length (qL l)) (B : Nat) (hB : B < w.heap.size) (hne : B ≠ g) (hc : w.cell? ⟨B, 0, none⟩ = some (.int .i64 (i : Int))) (hl : l.length ≤ 1000) :
    Calls Try.prog 126 #[u, .func (.func 127) #[] #[.pointer (some ⟨B, 0, none⟩)]] w fun e w' =>
      e = .returned (.slice (some ⟨g, 0, none⟩) (l.filter (· ≠ i)).length c) ∧ w.grownBy w' u.ownBlock ∧ w'.ownsRow base 3 1 (.slice (some ⟨g, 0, none⟩) (l.filter (· ≠ i)).length c) (l.filter (· ≠ i)).length (qL (l.filter (· ≠ i))) := by
  subst hu
  rcases ho.2 with ⟨h1, _⟩ | ⟨g', cap, cur, h1, hbg, hg, hnc, hcm, hcs, htk⟩
  · cases h1
  injection h1 with h1 h2 h3
  injection h1 with h1
  injection h1 with h1
  subst h1 h3
  have hlen : l.length ≤ cur.size := by rw [hcs]; omega
  have hcur : ∀ j, j < l.length → cur[j]? = some (.int .i64 ((l[j]! : Nat) : Int)) := fun j hj => by
    have h4 : (cur.toList.take (l.length * 1))[j]? = (qL l)[j]? := by rw [htk]
    rw [List.getElem?_take, if_pos (by omega)] at h4
    rw [← Array.getElem?_toList, h4]
    unfold qL
    rw [List.getElem?_map, List.getElem?_eq_getElem hj, getElem!_pos l j hj]
    rfl
  have hH : Holds (fun (x : Nat) => Value.int .i64 (x : Int)) w g 0 l.toArray := fun j hj => by
    have hj' : j < l.length := by simpa using hj
    refine ⟨?_, frozen_of_row w g _ cur 3 hg⟩
    rw [Nat.zero_add, cell_of_row w g j cur 3 (0, 0) hg, hcur j hj']
    congr 3
    rw [getElem!_pos l j hj', getElem!_pos l.toArray j hj]
    simp
  have eg : ∀ args w, (callFunc 127 args).run Try.prog w = .ok (.enter 127 args) w := enters_of Try.func127 (by kernel_rfl) rfl
  have hp : PredAt Try.prog 127 #[.pointer (some ⟨B, 0, none⟩)] (fun (x : Nat) => Value.int .i64 (x : Int)) (fun x => decide (x = i)) w :=
    fun W x hb => leave1_gives i x B W ((hb.cell (p := ⟨B, 0, none⟩) hB).trans hc)
  have hpo : PredOver Try.prog 127 #[.pointer (some ⟨B, 0, none⟩)] (fun (x : Nat) => Value.int .i64 (x : Int)) (fun x => decide (x = i)) g 0 l.toArray.size w :=
    fun n os dk x _ => leave1_gives i x B _ (by
      unfold sortWorld
      rw [cell?_grow _ _ _ (by show B < (putRow _ _ _ _ _).heap.size; rw [size_putRow]; exact hB), cell?_putRow_other _ _ g 0 _ _ (Or.inl hne)]
      exact hc)
  have hcon := AnyE.slices_DeleteFunc Ytijbhcdnbaaobaa.laysDel (fun (x : Nat) => Value.int .i64 (x : Int)) (fun _ => rfl) (fun x => decide (x = i)) 127 #[.pointer (some ⟨B, 0, none⟩)] eg 0 Try.zeroValue3 g 0 c l.toArray w hp hpo hH (by simp; omega) (by simpa using hnc)
  change Calls Try.prog 126 #[  .slice (some ⟨g, 0, none⟩) l.length c, _] _ _ at hcon
  refine hcon.mono ?_
  rintro e w' ⟨rfl, q, rfl⟩
  have hfe : (l.toArray.toList.filter fun x => !decide (x = i)) = l.filter (· ≠ i) := by
    show l.filter _ = l.filter _
    refine List.filter_congr fun x _ => ?_
    by_cases h : x = i <;> simp [h]
  rw [hfe]
  generalize hk : l.filter (· ≠ i) = k
  have hkl : k.length ≤ l.length := by rw [← hk]; exact List.length_filter_le _ _
  have hg2 : (Sort.ahead w q).heap[g]? = some (.cells cur 3 (0, 0)) := hg
  have hrow := heap_putRow (fun (x : Nat) => Value.int .i64 (x : Int)) (Sort.ahead w q) g 0 (k ++ List.replicate (l.toArray.size - k.length) 0).toArray cur _ hg2
  refine ⟨rfl, ⟨rfl, rfl, rfl, by rw [size_putRow]; exact Nat.le_refl _, fun j hj hn => ?_⟩, ?_,   .inr ⟨g, c, _, rfl, hbg, hrow, by omega, hcm, ?_, ?_⟩⟩
  · have : j ≠ g := fun e => hn (by rw [e]; rfl)
    unfold putRow mapBlock
    simp [Array.getElem?_modify, Ne.symm this, Sort.ahead]
  · simp [qL]
  · unfold putCells
    rw [Array.size_mapIdx, hcs]
  · refine List.ext_getElem? fun j => ?_
    rw [List.getElem?_take]
    by_cases hj : j < k.length
    · rw [if_pos (by omega)]
      have hjc : j < cur.size := by omega
      rw [Array.getElem?_toList]
      unfold putCells qL
      rw [Array.getElem?_mapIdx, Array.getElem?_eq_getElem hjc, Option.map_some, if_pos ⟨by omega, by simp; omega⟩, List.getElem?_map, List.getElem?_eq_getElem hj, Option.map_some]
      congr 3
      rw [Nat.sub_zero, getElem!_pos _ j (by simp; omega)]
      simp [hj]
    · rw [if_neg (by omega), List.getElem?_eq_none (by simp [qL]; omega)]
/-- A queue without one. -/
def dropQ (i : Nat) (l : List Nat) : List Nat := l.filter (· ≠ i)
theorem drop_any {w : World} {base g c i : Nat} {l : List Nat} {u : Value} (hu : u = .slice (some ⟨g, 0, none⟩) l.length c) (ho : w.ownsRow base 3 1 u l.length (qL l)) (B : Nat) (hB : B < w.heap.size) (hne : B ≠ g) (hc : w.cell? ⟨B, 0, none⟩ = some (.int .i64 (i : Int))) (hl : l.length ≤ 1000) :
    Calls Try.prog 126 #[u, .func (.func 127) #[] #[.pointer (some ⟨B, 0, none⟩)]] w fun e w' =>
      e = .returned (.slice (some ⟨g, 0, none⟩) (dropQ i l).length c) ∧ w.grownBy w' u.ownBlock ∧ w'.ownsRow base 3 1 (.slice (some ⟨g, 0, none⟩) (dropQ i l).length c) (dropQ i l).length (qL (dropQ i l)) := del_any hu ho B hB hne hc hl
end Ytijbhcdnbaaobaa
end Go.Proofs
