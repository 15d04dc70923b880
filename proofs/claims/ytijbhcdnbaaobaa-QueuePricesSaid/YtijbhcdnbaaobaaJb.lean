/- An evening of layer 7 in memory, and what a store leaves of it. No program beyond the types' numbers. -/
import Derived.Test.YtijbhcdnbaaobaaHf
import Derived.Test.YtijbhcdnbaaobaaRow
import Derived.Test.YtijbhcdnbaaobaaAp
/- An evening of layer 7, plainly: its numbers stay small. No program, no memory. -/
namespace Go.Proofs.Ytijbhcdnbaaobaa

theorem count_split (l : List VisZ) (m : Nat) : (l.filter fun v => decide (v.group < m + 1)).length = (l.filter fun v => decide (v.group < m)).length + (l.filter fun v => decide (v.group = m)).length := by
  induction l with
  | nil => rfl
  | cons x l ih =>
    simp only [List.filter_cons]
    by_cases h1 : x.group < m
    · have h2 : x.group < m + 1 := by omega
      have h3 : ¬ x.group = m := by omega
      simp only [h1, h2, h3, decide_true, decide_false, if_true, List.length_cons]
      simp
      omega
    · by_cases h3 : x.group = m
      · have h2 : x.group < m + 1 := by omega
        simp only [h3, decide_true, if_true, List.length_cons]
        simp
        omega
      · have h2 : ¬ x.group < m + 1 := by omega
        simp only [h1, h2, h3, decide_false]
        simpa using ih
theorem count_le (l : List VisZ) (c m : Nat) (h : ∀ i, i < m → (l.filter fun v => decide (v.group = i)).length ≤ c) : ∀ k, k ≤ m → (l.filter fun v => decide (v.group < k)).length ≤ c * k := by
  intro k
  induction k with
  | zero => intro _; simp
  | succ k ih =>
    intro hk
    have h1 := ih (by omega)
    have h2 := h k (by omega)
    rw [count_split, Nat.mul_add, Nat.mul_one]
    omega
theorem vis_bd {a s : EvS} (h : BothS a s) (hw : ∀ i, i < a.groups.length → (a.grp i).g.wants.length ≤ 10) : s.visits.length ≤ 10 * s.groups.length := by
  obtain ⟨hwf, hhis⟩ := h
  have hl := (fix_len hwf.fix).1
  have h1 : s.visits.filter (fun v => decide (v.group < s.groups.length)) = s.visits := List.filter_eq_self.2 fun v hv => by simpa using (hwf.vis v hv).1
  have h2 := count_le s.visits 10 s.groups.length (fun i hi => by
    have hG := hhis i (by omega)
    have hW := hw i (by omega)
    have hg := fix_grp hwf.fix i
    have hf := hG.few
    show (visOf s i).length ≤ 10
    rcases Nat.lt_or_ge 0 (s.grp i).place with hp | hp
    · rcases Nat.lt_or_ge (s.grp i).place 4 with hq | hq
      · have ha := hwf.at_ i hi (by simp) (by omega)
        rw [hg] at ha
        have hc : (s.grp i).place = 1 ∨ (s.grp i).place = 2 ∨ (s.grp i).place = 3 := by omega
        rcases hc with hc | hc | hc
        · have := (hG.walk rfl hc).1; omega
        · have := (hG.stand rfl hc).1; omega
        · have := (hG.ride rfl hc).1; omega
      · have := (hG.gone rfl (by omega)).1; omega
    · have := (hG.out rfl (by omega)).1
      rw [this]; simp) s.groups.length (Nat.le_refl _)
  rw [h1] at h2
  exact h2
theorem nodup_bd : ∀ (m : Nat) (l : List Nat), l.Nodup → (∀ x ∈ l, x < m) → l.length ≤ m := by
  intro m
  induction m with
  | zero =>
    intro l _ h
    cases l with
    | nil => simp
    | cons x l => exact absurd (h x (by simp)) (by omega)
  | succ m ih =>
    intro l hn h
    have h1 := ih (l.erase m) (hn.erase m) (fun x hx => by
      have hx1 := h x (List.mem_of_mem_erase hx)
      have hx2 : x ≠ m := ((List.Nodup.mem_erase_iff hn).1 hx).1
      omega)
    have h2 := List.length_erase (a := m) (l := l)
    split at h2 <;> omega
theorem que_bd {a s : EvS} {x : Option Nat} (h : WfS a s x) (r : Nat) : (s.rd r).q.length ≤ s.groups.length := nodup_bd _ _ (h.nod r) fun i hi => (h.que r i hi).1
theorem sumG_ge : ∀ (l : List GpS), (∀ x ∈ l, 0 ≤ x.tok) → 0 ≤ sumG l ∧ ∀ x ∈ l, x.tok ≤ sumG l := by
  intro l
  induction l with
  | nil => intro _; exact ⟨by simp [sumG], fun x hx => by cases hx⟩
  | cons y l ih =>
    intro h
    obtain ⟨h1, h2⟩ := ih fun x hx => h x (List.mem_cons_of_mem _ hx)
    have hy := h y (by simp)
    have e : sumG (y :: l) = y.tok + sumG l := rfl
    refine ⟨by omega, fun x hx => ?_⟩
    rcases List.mem_cons.1 hx with rfl | hx
    · omega
    · have := h2 x hx; omega
theorem sumR_ge : ∀ (l : List RdS), (∀ x ∈ l, 0 ≤ x.taken) → 0 ≤ sumR l ∧ ∀ x ∈ l, x.taken ≤ sumR l := by
  intro l
  induction l with
  | nil => intro _; exact ⟨by simp [sumR], fun x hx => by cases hx⟩
  | cons y l ih =>
    intro h
    obtain ⟨h1, h2⟩ := ih fun x hx => h x (List.mem_cons_of_mem _ hx)
    have hy := h y (by simp)
    have e : sumR (y :: l) = y.taken + sumR l := rfl
    refine ⟨by omega, fun x hx => ?_⟩
    rcases List.mem_cons.1 hx with rfl | hx
    · omega
    · have := h2 x hx; omega
/-- A valid evening before its first tick. -/
structure BigS (a : EvS) : Prop where
  nr : a.rides.length ≤ 8
  ng : a.groups.length ≤ 60
  walk : 0 ≤ a.walk ∧ a.walk ≤ 100
  gp : ∀ i, i < a.groups.length → (0 ≤ (a.grp i).g.patience ∧ (a.grp i).g.patience ≤ 2000) ∧ (1 ≤ (a.grp i).g.size ∧ (a.grp i).g.size ≤ 40) ∧ (a.grp i).g.wants.length ≤ 10
  wish : ValS a
  rd : ∀ r, r < a.rides.length → (1 ≤ (a.rd r).b.seats ∧ (a.rd r).b.seats ≤ 40) ∧ (0 ≤ (a.rd r).b.price ∧ (a.rd r).b.price ≤ 100) ∧ (1 ≤ (a.rd r).b.cycle ∧ (a.rd r).b.cycle ≤ 100) ∧ (0 ≤ (a.rd r).b.pause ∧ (a.rd r).b.pause ≤ 100)
  tot : totS a ≤ 600000
/-- What the numbers of an evening are in every moment. -/
structure FitS (s : EvS) : Prop where
  nr : s.rides.length ≤ 8
  ng : s.groups.length ≤ 60
  walk : 0 ≤ s.walk ∧ s.walk ≤ 100
  gp : ∀ i, i < s.groups.length → (0 ≤ (s.grp i).g.patience ∧ (s.grp i).g.patience ≤ 2000) ∧ (1 ≤ (s.grp i).g.size ∧ (s.grp i).g.size ≤ 40) ∧ (s.grp i).g.wants.length ≤ 10
  tok : ∀ i, i < s.groups.length → 0 ≤ (s.grp i).tok ∧ (s.grp i).tok ≤ 600000
  wish : ValS s
  rd : ∀ r, r < s.rides.length → (1 ≤ (s.rd r).b.seats ∧ (s.rd r).b.seats ≤ 40) ∧ (0 ≤ (s.rd r).b.price ∧ (s.rd r).b.price ≤ 100) ∧ (1 ≤ (s.rd r).b.cycle ∧ (s.rd r).b.cycle ≤ 100) ∧ (0 ≤ (s.rd r).b.pause ∧ (s.rd r).b.pause ≤ 100)
  taken : ∀ r, r < s.rides.length → 0 ≤ (s.rd r).taken ∧ (s.rd r).taken ≤ 600000
  que : ∀ r, (s.rd r).q.length ≤ 60 ∧ ∀ i ∈ (s.rd r).q, i < s.groups.length
  vis : s.visits.length ≤ 1000
theorem paidL_ge (c : Nat → Nat → Int) (r : Nat) : ∀ l : List VisZ, (∀ v ∈ l, 0 ≤ c v.group r) → 0 ≤ paidL c r l := by
  intro l
  induction l with
  | nil => intro _; exact Int.le_refl _
  | cons x l ih =>
    intro h
    have h1 := ih fun v hv => h v (List.mem_cons_of_mem _ hv)
    have h2 := h x (by simp)
    simp only [paidL]
    split <;> omega
theorem grp_mem {s : EvS} {i : Nat} (hi : i < s.groups.length) : s.grp i ∈ s.groups := by
  unfold EvS.grp
  rw [List.getD_eq_getElem?_getD, List.getElem?_eq_getElem hi]
  exact List.getElem_mem hi
theorem mem_grp {s : EvS} {x : GpS} (hx : x ∈ s.groups) : ∃ i, i < s.groups.length ∧ s.grp i = x := by
  obtain ⟨i, hi, e⟩ := List.getElem_of_mem hx
  exact ⟨i, hi, by unfold EvS.grp; rw [List.getD_eq_getElem?_getD, List.getElem?_eq_getElem hi]; exact e⟩
theorem rd_mem {s : EvS} {i : Nat} (hi : i < s.rides.length) : s.rd i ∈ s.rides := by
  unfold EvS.rd
  rw [List.getD_eq_getElem?_getD, List.getElem?_eq_getElem hi]
  exact List.getElem_mem hi
theorem mem_rd {s : EvS} {x : RdS} (hx : x ∈ s.rides) : ∃ i, i < s.rides.length ∧ s.rd i = x := by
  obtain ⟨i, hi, e⟩ := List.getElem_of_mem hx
  exact ⟨i, hi, by unfold EvS.rd; rw [List.getD_eq_getElem?_getD, List.getElem?_eq_getElem hi]; exact e⟩
theorem fit_of {a s : EvS} (hb : BigS a) (h : BothS a s) : FitS s := by
  obtain ⟨l1, l2⟩ := fix_len h.1.fix
  have hg := fix_grp h.1.fix
  have hr := fix_rd h.1.fix
  have hng := hb.ng
  have hcost : ∀ i r, i < s.groups.length → r < s.rides.length → 0 ≤ costS s i r := fun i r hi hrr => by
    unfold costS
    rw [hg, hr]
    have h1 := (hb.rd r (by omega)).2.1.1
    have h2 := (hb.gp i (by omega)).2.1.1
    exact Int.mul_nonneg h1 (by omega)
  have htk : ∀ x ∈ s.groups, 0 ≤ x.tok := fun x hx => by
    obtain ⟨i, hi, rfl⟩ := mem_grp hx
    exact h.1.owe i hi
  have htr : ∀ x ∈ s.rides, 0 ≤ x.taken := fun x hx => by
    obtain ⟨r, hrr, rfl⟩ := mem_rd hx
    rw [h.1.pay r hrr]
    exact paidL_ge _ _ _ fun v hv => hcost _ _ (h.1.vis v hv).1 hrr
  obtain ⟨g1, g2⟩ := sumG_ge s.groups htk
  obtain ⟨r1, r2⟩ := sumR_ge s.rides htr
  have ht : sumG s.groups + sumR s.rides ≤ 600000 := by have := h.1.tot; have := hb.tot; unfold totS at *; omega
  refine ⟨by rw [l2]; exact hb.nr, by rw [l1]; exact hb.ng, by rw [h.1.fix.walk]; exact hb.walk, fun i hi => by rw [hg]; exact hb.gp i (by omega), fun i hi => ⟨h.1.owe i hi, ?_⟩, fun i hi w hw => ?_, fun r hrr => by rw [hr]; exact hb.rd r (by omega), fun r hrr => ⟨htr _ (rd_mem hrr), ?_⟩, fun r => ⟨?_, fun i hi => (h.1.que r i hi).1⟩, ?_⟩
  · have := g2 _ (grp_mem hi); omega
  · rw [hg] at hw
    have := hb.wish i (by omega) w hw
    omega
  · have := r2 _ (rd_mem hrr); omega
  · have := que_bd h.1 r; omega
  · have := vis_bd h fun i hi => (hb.gp i hi).2.2
    omega
theorem vis_600 {a s : EvS} (hb : BigS a) (h : BothS a s) : s.visits.length ≤ 600 := by
  have := vis_bd h fun i hi => (hb.gp i hi).2.2
  have := hb.ng
  have := (fix_len h.1.fix).1
  omega
theorem modify_congr {α : Type} (l : List α) (i : Nat) (f g : α → α) (d : α) (h : f (l.getD i d) = g (l.getD i d)) : l.modify i f = l.modify i g := by
  refine List.ext_getElem? fun j => ?_
  simp only [List.getElem?_modify]
  by_cases e : i = j
  · subst e
    simp only [if_true]
    cases hx : l[i]? with
    | none => rfl
    | some x =>
      rw [List.getD_eq_getElem?_getD, hx] at h
      simpa using h
  · simp [e]
theorem modify_twice {α : Type} (l : List α) (i : Nat) (f g : α → α) : (l.modify i f).modify i g = l.modify i (fun x => g (f x)) := by
  refine List.ext_getElem? fun j => ?_
  simp only [List.getElem?_modify]
  by_cases e : i = j
  · subst e
    cases l[i]? <;> simp
  · simp [e]
theorem modG_congr (s : EvS) (i : Nat) (f g : GpS → GpS) (h : f (s.grp i) = g (s.grp i)) : s.modG i f = s.modG i g := by
  unfold EvS.modG
  rw [modify_congr s.groups i f g default h]
theorem modR_congr (s : EvS) (i : Nat) (f g : RdS → RdS) (h : f (s.rd i) = g (s.rd i)) : s.modR i f = s.modR i g := by
  unfold EvS.modR
  rw [modify_congr s.rides i f g default h]
theorem modG_twice (s : EvS) (i : Nat) (f g : GpS → GpS) : (s.modG i f).modG i g = s.modG i fun x => g (f x) := by
  unfold EvS.modG
  rw [modify_twice]
theorem modR_twice (s : EvS) (i : Nat) (f g : RdS → RdS) : (s.modR i f).modR i g = s.modR i fun x => g (f x) := by
  unfold EvS.modR
  rw [modify_twice]
theorem fit_leave {s : EvS} (h : FitS s) (hv : s.visits.length ≤ 900) (i : Nat) (on : Bool) : FitS (leaveS s i on) := by
  have hl : (leaveS s i on).rides.length = s.rides.length := leave_rlen s i on
  have hrd : ∀ r, ((leaveS s i on).rd r).b = (s.rd r).b ∧ ((leaveS s i on).rd r).taken = (s.rd r).taken ∧ ((leaveS s i on).rd r).q.length ≤ (s.rd r).q.length ∧ ∀ j ∈ ((leaveS s i on).rd r).q, j ∈ (s.rd r).q := fun r => by
    by_cases hr : (s.grp i).goal < s.rides.length
    · rw [leave_rd s i r on hr]
      split
      · exact ⟨rfl, rfl, List.length_filter_le _ _, fun j hj => (List.mem_filter.1 hj).1⟩
      · exact ⟨rfl, rfl, Nat.le_refl _, fun j hj => hj⟩
    · have e : ((leaveS s i on).rd r) = s.rd r := by
        unfold leaveS EvS.modR EvS.rd
        rw [List.modify_eq_self (by omega)]
      rw [e]
      exact ⟨rfl, rfl, Nat.le_refl _, fun j hj => hj⟩
  refine ⟨by rw [hl]; exact h.nr, h.ng, h.walk, h.gp, h.tok, fun k hk w hw => by rw [hl]; exact h.wish k hk w hw, fun r hr => by rw [hl] at hr; rw [(hrd r).1]; exact h.rd r hr, fun r hr => by rw [hl] at hr; rw [(hrd r).2.1]; exact h.taken r hr, fun r => ⟨Nat.le_trans (hrd r).2.2.1 (h.que r).1, fun j hj => (h.que r).2 j ((hrd r).2.2.2 j hj)⟩, ?_⟩
  show (s.visits ++ [_]).length ≤ 1000
  simp
  omega
end Go.Proofs.Ytijbhcdnbaaobaa
/- Words for memory: a block of rows of equal size, whose cells a function tells. No program. -/
namespace Go.Proofs.Ytijbhcdnbaaobaa
open Go.RowKit

/-- Block g has cells of type t, none frozen; the cell j of its row i is f i j (i below n, j below k). -/
def Blk (w : World) (g : Nat) (t : TypeId) (n k : Nat) (f : Nat → Nat → Value) : Prop :=
  ∃ cs : Array Value, w.heap[g]? = some (.cells cs t (0, 0)) ∧ n * k ≤ cs.size ∧ ∀ i, i < n → ∀ j, j < k → cs[i * k + j]? = some (f i j)

section
variable {w w' : World} {g : Nat} {t : TypeId} {n k : Nat} {f : Nat → Nat → Value}
theorem Blk.lt (h : Blk w g t n k f) : g < w.heap.size := by
  obtain ⟨cs, h, _⟩ := h
  exact (Array.getElem?_eq_some_iff.1 h).1
theorem Blk.cell (h : Blk w g t n k f) {i j : Nat} (hi : i < n) (hj : j < k) : w.cell? ⟨g, i * k + j, none⟩ = some (f i j) := by
  obtain ⟨cs, h, _, hc⟩ := h
  rw [cell_of_row w g _ cs t (0, 0) h, hc i hi j hj]
theorem Blk.cell0 (h : Blk w g t n k f) {i : Nat} (hi : i < n) (hk : 0 < k) : w.cell? ⟨g, i * k, none⟩ = some (f i 0) := h.cell hi hk
theorem Blk.frozen (h : Blk w g t n k f) (j : Nat) : w.frozen? ⟨g, j, none⟩ = false := by
  obtain ⟨cs, h, _⟩ := h
  exact frozen_of_row w g j cs t h
theorem Blk.keep (h : Blk w g t n k f) (hk : w'.heap[g]? = w.heap[g]?) : Blk w' g t n k f := by
  obtain ⟨cs, h, r⟩ := h
  exact ⟨cs, hk.trans h, r⟩
theorem Blk.alloc (h : Blk w g t n k f) (o : Obj) : Blk (w.alloc o) g t n k f := h.keep (Below.heap_alloc w o g h.lt)
theorem Blk.below {B : Nat} (h : Blk w g t n k f) (hb : Below B w w') (hg : g < B) : Blk w' g t n k f := h.keep (hb.block g hg)
theorem Blk.grown (h : Blk w g t n k f) {b : Option Nat} (hb : w.grownBy w' b) (hg : some g ≠ b) : Blk w' g t n k f := h.keep (hb.block g h.lt hg)
theorem Blk.far (h : Blk w g t n k f) {p : Addr} (hp : g ≠ p.block) (u : Value) : Blk (w.setCell p u) g t n k f := h.keep (Below.heap_setCell w p u g hp)
theorem Blk.to (h : Blk w g t n k f) {f' : Nat → Nat → Value} (hf : ∀ i, i < n → ∀ j, j < k → f' i j = f i j) : Blk w g t n k f' := by
  obtain ⟨cs, h, hl, hc⟩ := h
  exact ⟨cs, h, hl, fun i hi j hj => by rw [hc i hi j hj, hf i hi j hj]⟩
theorem place_inj {k i j i' j' : Nat} (hj : j < k) (hj' : j' < k) (h : i * k + j = i' * k + j') : i = i' ∧ j = j' := by
  have h1 : (i * k + j) / k = i := by rw [Nat.mul_comm, Nat.mul_add_div (by omega), Nat.div_eq_of_lt hj, Nat.add_zero]
  have h2 : (i' * k + j') / k = i' := by rw [Nat.mul_comm, Nat.mul_add_div (by omega), Nat.div_eq_of_lt hj', Nat.add_zero]
  have h3 : i = i' := by rw [← h1, h, h2]
  subst h3
  exact ⟨rfl, by omega⟩
theorem Blk.set (h : Blk w g t n k f) {i j : Nat} (hj : j < k) (u : Value) {f' : Nat → Nat → Value}
    (hf : ∀ a, a < n → ∀ b, b < k → f' a b = if a = i ∧ b = j then u else f a b) : Blk (w.setCell ⟨g, i * k + j, none⟩ u) g t n k f' := by
  obtain ⟨cs, h, hl, hc⟩ := h
  refine ⟨cs.setIfInBounds (i * k + j) u, heap_setCell_same w g _ cs t u h, by simpa using hl, fun a ha b hb => ?_⟩
  have hlt : a * k + b < cs.size := by
    have : a * k + b < n * k := by
      have h1 : (a + 1) * k ≤ n * k := Nat.mul_le_mul_right k ha
      have h2 : (a + 1) * k = a * k + k := by rw [Nat.add_mul, Nat.one_mul]
      omega
    omega
  rw [Array.getElem?_setIfInBounds, hf a ha b hb]
  by_cases e : i * k + j = a * k + b
  · obtain ⟨e1, e2⟩ := place_inj hj hb e
    subst e1 e2
    rw [if_pos rfl, if_pos hlt, if_pos ⟨rfl, rfl⟩]
  · rw [if_neg e, hc a ha b hb, if_neg]
    rintro ⟨rfl, rfl⟩
    exact e rfl
/-- A row of the call's own, in the words of Blk. -/
theorem Blk.of_own {base c m : Nat} {xs : List Value} (h : w.ownsRow base t k (.slice (some ⟨g, 0, none⟩) m c) m xs)
    (hl : xs.length = n * k) (hx : ∀ i, i < n → ∀ j, j < k → xs[i * k + j]? = some (f i j)) : Blk w g t n k f ∧ base ≤ g := by
  obtain ⟨⟨cs, h1, h2, h3⟩, hb⟩ := Row.of_own h
  refine ⟨⟨cs, h1, by omega, fun i hi j hj => ?_⟩, hb⟩
  have h4 := hx i hi j hj
  rw [h3 _ (List.getElem?_eq_some_iff.1 h4).1, h4]
end
end Go.Proofs.Ytijbhcdnbaaobaa
namespace Go.Proofs.Ytijbhcdnbaaobaa
open Go.RowKit

/-- Block g has cells of type t. -/
def TyAt (w : World) (g : Nat) (t : TypeId) : Prop := ∃ cs : Array Value, w.heap[g]? = some (.cells cs t (0, 0))
theorem TyAt.ne {w : World} {g g' : Nat} {t t' : TypeId} (h : TyAt w g t) (h' : TyAt w g' t') (ht : t ≠ t') : g ≠ g' := by
  rintro rfl
  obtain ⟨cs, h⟩ := h
  obtain ⟨cs', h'⟩ := h'
  rw [h] at h'
  injection h' with h'
  injection h' with _ h'
  exact ht h'
theorem Row.ty {w : World} {g : Nat} {t : TypeId} {xs : List Value} (h : Row w g t xs) : TyAt w g t := by obtain ⟨cs, h, _⟩ := h; exact ⟨cs, h⟩
theorem Blk.ty {w : World} {g : Nat} {t : TypeId} {n k : Nat} {f : Nat → Nat → Value} (h : Blk w g t n k f) : TyAt w g t := by obtain ⟨cs, h, _⟩ := h; exact ⟨cs, h⟩
theorem own_ty {w : World} {base size n : Nat} {e : TypeId} {v : Value} {xs : List Value} (h : w.ownsRow base e size v n xs) {g : Nat} (hg : v.ownBlock = some g) : TyAt w g e := by
  rcases h.2 with ⟨rfl, _⟩ | ⟨g', cap, cur, rfl, _, hc, _⟩
  · cases hg
  · simp only [Value.ownBlock, Option.some.injEq] at hg
    subst hg
    exact ⟨cur, hc⟩
theorem own_off {w : World} {base size n g : Nat} {e t : TypeId} {v : Value} {xs : List Value} (h : w.ownsRow base e size v n xs) (hg : TyAt w g t) (ht : e ≠ t) : v.ownBlock = none ∨ v.ownBlock ≠ some g := by
  cases hv : v.ownBlock with
  | none => exact .inl rfl
  | some g' =>
    refine .inr fun e => ?_
    injection e with e
    exact (own_ty h hv).ne hg ht e
theorem grown_set (w : World) (p : Addr) (u : Value) : w.grownBy (w.setCell p u) (some p.block) :=
  ⟨rfl, rfl, rfl, by simp [World.setCell], fun k _ hn => Below.heap_setCell w p u k fun e => hn (by rw [e])⟩

theorem own_slice {w : World} {base size n : Nat} {e : TypeId} {v : Value} {xs : List Value} (h : w.ownsRow base e size v n xs) : ∃ A c, v = .slice A n c := by
  rcases h.2 with ⟨rfl, rfl⟩ | ⟨g, cap, cur, rfl, _⟩
  · exact ⟨_, _, rfl⟩
  · exact ⟨_, _, rfl⟩
theorem lt_ten {P : Nat → Prop} (h0 : P 0) (h1 : P 1) (h2 : P 2) (h3 : P 3) (h4 : P 4) (h5 : P 5) (h6 : P 6) (h7 : P 7) (h8 : P 8) (h9 : P 9) (b : Nat) (hb : b < 10) : P b := by
  rcases (by omega : b = 0 ∨ b = 1 ∨ b = 2 ∨ b = 3 ∨ b = 4 ∨ b = 5 ∨ b = 6 ∨ b = 7 ∨ b = 8 ∨ b = 9) with rfl | rfl | rfl | rfl | rfl | rfl | rfl | rfl | rfl | rfl <;> assumption
theorem lt_nine {P : Nat → Prop} (h0 : P 0) (h1 : P 1) (h2 : P 2) (h3 : P 3) (h4 : P 4) (h5 : P 5) (h6 : P 6) (h7 : P 7) (h8 : P 8) (b : Nat) (hb : b < 9) : P b := by
  rcases (by omega : b = 0 ∨ b = 1 ∨ b = 2 ∨ b = 3 ∨ b = 4 ∨ b = 5 ∨ b = 6 ∨ b = 7 ∨ b = 8) with rfl | rfl | rfl | rfl | rfl | rfl | rfl | rfl | rfl <;> assumption
structure EvE where
  base : Nat
  v : Nat
  R : Nat
  G : Nat
  cR : Nat
  cG : Nat
  rs : List (Option Addr × Nat)
  pr : List (Nat × Array Value)
def EvE.ref (E : EvE) (i : Nat) : Option Addr × Nat := E.rs.getD i default
def slA (g n : Nat) : Option Addr := if n = 0 then none else some ⟨g, 0, none⟩
theorem slA_pos {g n : Nat} (h : 0 < n) : slA g n = some ⟨g, 0, none⟩ := if_neg (by omega)
def gpV (p : Option Addr × Nat) (x : GpS) : Nat → Value
  | 0 => .int .i64 x.g.at_
  | 1 => .int .i64 x.g.size
  | 2 => .int .i64 x.tok
  | 3 => .slice p.1 x.g.wants.length p.2
  | 4 => .int .i64 x.g.patience
  | 5 => .int .i64 x.place
  | 6 => .int .i64 x.til
  | 7 => .int .i64 x.want
  | 8 => .int .i64 x.came
  | _ => .int .i64 x.home
def rdV (q : Value) (x : RdS) : Nat → Value
  | 0 => .int .i64 x.b.seats
  | 1 => .int .i64 x.b.price
  | 2 => .int .i64 x.b.cycle
  | 3 => .int .i64 x.b.pause
  | 4 => .bool x.b.fill
  | 5 => q
  | 6 => .int .i64 x.ready
  | 7 => .int .i64 x.taken
  | _ => .int .i64 x.longest
def visL (v : VisZ) : List Value := [.int .i64 v.group, .int .i64 v.want, .int .i64 v.ride, .bool v.on, .int .i64 v.came, .int .i64 v.left]
def qL (q : List Nat) : List Value := q.map fun (i : Nat) => .int .i64 (i : Int)
def evL (E : EvE) (s : EvS) (uv : Value) : List Value := [.int .i64 s.walk, .int .i64 s.now, .slice (slA E.R s.rides.length) s.rides.length E.cR, .slice (slA E.G s.groups.length) s.groups.length E.cG, uv]
/-- The evening s lies in w: the evening at v, its rides at R, its groups at G, each queue and the visits in rows of their own. -/
structure EvIn (E : EvE) (w : World) (s : EvS) (qs : Nat → Value) (uv : Value) : Prop where
  bas : E.base ≤ E.v ∧ E.base ≤ E.R ∧ E.base ≤ E.G ∧ E.base ≤ w.heap.size
  ev : Row w E.v 83 (evL E s uv)
  rd : 0 < s.rides.length → Blk w E.R 89 s.rides.length 9 (fun r => rdV (qs r) (s.rd r))
  gp : 0 < s.groups.length → Blk w E.G 79 s.groups.length 10 (fun i => gpV (E.ref i) (s.grp i))
  q : ∀ r, r < s.rides.length → w.ownsRow E.base 3 1 (qs r) (s.rd r).q.length (qL (s.rd r).q)
  qd : ∀ r r', r < s.rides.length → r' < s.rides.length → r ≠ r' → (qs r).ownBlock = none ∨ (qs r).ownBlock ≠ (qs r').ownBlock
  vis : w.ownsRow E.base 57 6 uv s.visits.length (s.visits.flatMap visL)
  wants : ∀ i, i < s.groups.length → Reads w E.base 1 (E.ref i).1 (s.grp i).g.wants.length ((s.grp i).g.wants.map (Value.int .i64))
  pr : ∀ p, p ∈ E.pr → w.heap[p.1]? = some (.cells p.2 3 (0, 0))
  prq : ∀ p, p ∈ E.pr → ∀ r, r < s.rides.length → (qs r).ownBlock ≠ some p.1
def EvAt (E : EvE) (w : World) (s : EvS) : Prop := ∃ qs uv, EvIn E w s qs uv

section
variable {E : EvE} {w w' : World} {s : EvS} {qs : Nat → Value} {uv : Value}
theorem EvIn.at_ (h : EvIn E w s qs uv) : EvAt E w s := ⟨qs, uv, h⟩
theorem own_keep {b size n : Nat} {e : TypeId} {v : Value} {xs : List Value} (h : w.ownsRow b e size v n xs) (hb : Below w.heap.size w w') : w'.ownsRow b e size v n xs := by
  refine ⟨h.1, ?_⟩
  rcases h.2 with hn | ⟨g, cap, cur, hv, hg, hc, rest⟩
  · exact .inl hn
  · exact .inr ⟨g, cap, cur, hv, hg, (hb.block g (Array.getElem?_eq_some_iff.1 hc).1).trans hc, rest⟩
theorem EvIn.grow (h : EvIn E w s qs uv) (hb : Below w.heap.size w w') : EvIn E w' s qs uv :=
  ⟨⟨h.bas.1, h.bas.2.1, h.bas.2.2.1, Nat.le_trans h.bas.2.2.2 hb.size⟩, h.ev.below hb h.ev.lt, fun h0 => (h.rd h0).below hb (h.rd h0).lt, fun h0 => (h.gp h0).below hb (h.gp h0).lt,
    fun r hr => own_keep (h.q r hr) hb, h.qd, own_keep h.vis hb, fun i hi => (h.wants i hi).below (hb.mono h.bas.2.2.2),
    fun p hp => (hb.block p.1 (Array.getElem?_eq_some_iff.1 (h.pr p hp)).1).trans (h.pr p hp), h.prq⟩
theorem pr_far {k : Nat} {cs : Array Value} {p : Addr} {t : TypeId} (hk : w.heap[k]? = some (.cells cs 3 (0, 0))) (hp : TyAt w p.block t) (ht : 3 ≠ t) (u : Value) : (w.setCell p u).heap[k]? = some (.cells cs 3 (0, 0)) :=
  (Below.heap_setCell w p u k (TyAt.ne ⟨cs, hk⟩ hp ht)).trans hk
theorem EvIn.setG (h : EvIn E w s qs uv) {i j : Nat} {u : Value} (hi : i < s.groups.length) (hj : j < 10) (f : GpS → GpS) (hg : ∀ x, (f x).g = x.g)
    (hv : ∀ x b, b < 10 → gpV (E.ref i) (f x) b = if b = j then u else gpV (E.ref i) x b) : EvIn E (w.setCell ⟨E.G, i * 10 + j, none⟩ u) (s.modG i f) qs uv := by
  have hgr := grown_set w ⟨E.G, i * 10 + j, none⟩ u
  have hG := (h.gp (by omega)).ty
  have hlen : (s.modG i f).groups.length = s.groups.length := len_modG s i f
  have hgg : ∀ k, ((s.modG i f).grp k).g = (s.grp k).g := fun k => by
    rw [grp_modG s i k f hi]
    split
    · rename_i e; rw [hg, e]
    · rfl
  refine ⟨⟨h.bas.1, h.bas.2.1, h.bas.2.2.1, Nat.le_trans h.bas.2.2.2 hgr.size⟩, ?_, fun h0 => ?_, fun _ => ?_, fun r hr => ?_, h.qd, ?_, fun k hk => ?_, fun p hp => pr_far (h.pr p hp) hG (by decide) u, h.prq⟩
  · have := h.ev.far (p := ⟨E.G, i * 10 + j, none⟩) (h.ev.ty.ne hG (by decide)) u
    unfold evL at this ⊢
    rw [hlen]
    exact this
  · exact (h.rd h0).far (p := ⟨E.G, i * 10 + j, none⟩) ((h.rd h0).ty.ne hG (by decide)) u
  · rw [hlen]
    refine (h.gp (by omega)).set hj u fun a ha b hb => ?_
    rw [grp_modG s i a f hi]
    by_cases e : a = i
    · subst e
      rw [if_pos rfl, hv _ b hb]
      by_cases e2 : b = j
      · rw [if_pos e2, if_pos ⟨rfl, e2⟩]
      · rw [if_neg e2, if_neg (fun h => e2 h.2)]
    · rw [if_neg e, if_neg (fun h => e h.1)]
  · exact (h.q r hr).kept hgr (own_off (h.q r hr) hG (by decide))
  · exact h.vis.kept hgr (own_off h.vis hG (by decide))
  · rw [hgg]
    exact (h.wants k (by omega)).setCell h.bas.2.2.1 u
theorem EvIn.setR (h : EvIn E w s qs uv) {r j : Nat} {u : Value} (hr : r < s.rides.length) (hj : j < 9) (f : RdS → RdS) (hq : ∀ x, (f x).q = x.q)
    (hv : ∀ x b, b < 9 → rdV (qs r) (f x) b = if b = j then u else rdV (qs r) x b) : EvIn E (w.setCell ⟨E.R, r * 9 + j, none⟩ u) (s.modR r f) qs uv := by
  have hgr := grown_set w ⟨E.R, r * 9 + j, none⟩ u
  have hR := (h.rd (by omega)).ty
  have hlen : (s.modR r f).rides.length = s.rides.length := len_modR s r f
  have hqq : ∀ k, ((s.modR r f).rd k).q = (s.rd k).q := fun k => by
    rw [rd_modR s r k f hr]
    split
    · rename_i e; rw [hq, e]
    · rfl
  refine ⟨⟨h.bas.1, h.bas.2.1, h.bas.2.2.1, Nat.le_trans h.bas.2.2.2 hgr.size⟩, ?_, fun _ => ?_, fun h0 => ?_, fun k hk => ?_, fun k k' hk hk' => h.qd k k' (by omega) (by omega), ?_, fun k hk => ?_, fun p hp => pr_far (h.pr p hp) hR (by decide) u, fun p hp k hk => h.prq p hp k (by omega)⟩
  · have := h.ev.far (p := ⟨E.R, r * 9 + j, none⟩) (h.ev.ty.ne hR (by decide)) u
    unfold evL at this ⊢
    rw [hlen]
    exact this
  · rw [hlen]
    refine (h.rd (by omega)).set hj u fun a ha b hb => ?_
    rw [rd_modR s r a f hr]
    by_cases e : a = r
    · subst e
      rw [if_pos rfl, hv _ b hb]
      by_cases e2 : b = j
      · rw [if_pos e2, if_pos ⟨rfl, e2⟩]
      · rw [if_neg e2, if_neg (fun h => e2 h.2)]
    · rw [if_neg e, if_neg (fun h => e h.1)]
  · exact (h.gp h0).far (p := ⟨E.R, r * 9 + j, none⟩) ((h.gp h0).ty.ne hR (by decide)) u
  · rw [hqq]
    exact (h.q k (by omega)).kept hgr (own_off (h.q k (by omega)) hR (by decide))
  · exact h.vis.kept hgr (own_off h.vis hR (by decide))
  · exact (h.wants k hk).setCell h.bas.2.1 u
theorem own_grown {base size n : Nat} {e : TypeId} {v : Value} {xs : List Value} (h : w.ownsRow base e size v n xs) {b : Option Nat} (hg : w.grownBy w' b) (hb : ∀ g, b = some g → TyAt w g e → v.ownBlock = none ∨ v.ownBlock ≠ some g) : w'.ownsRow base e size v n xs := by
  refine h.kept hg ?_
  cases hv : v.ownBlock with
  | none => exact .inl rfl
  | some g =>
    refine .inr fun e => ?_
    rcases hb g e.symm (own_ty h hv) with h1 | h1
    · rw [hv] at h1; cases h1
    · exact h1 hv
/-- A queue's slice has been made anew, or turned in its own row; then it is stored. -/
theorem EvIn.setQ {X : World} (h : EvIn E w s qs uv) {r : Nat} {u : Value} {l : List Nat} (hr : r < s.rides.length) (hX : w.grownBy X (qs r).ownBlock)
    (ho : X.ownsRow E.base 3 1 u l.length (qL l)) (hu : u.ownBlock = none ∨ u.ownBlock = (qs r).ownBlock ∨ ∃ g, u.ownBlock = some g ∧ w.heap.size ≤ g) :
    EvIn E (X.setCell ⟨E.R, r * 9 + 5, none⟩ u) (s.modR r fun x => { x with q := l }) (fun k => if k = r then u else qs k) uv := by
  have hoff : ∀ {g : Nat} {t : TypeId}, TyAt w g t → 3 ≠ t → some g ≠ (qs r).ownBlock := fun {g t} hg ht e => by
    rcases own_off (h.q r hr) hg ht with h1 | h1
    · rw [h1] at e; cases e
    · exact h1 e.symm
  have hR0 := (h.rd (by omega)).ty
  have hRX := (h.rd (by omega)).grown hX (hoff hR0 (by decide))
  have hR := hRX.ty
  have hgr := grown_set X ⟨E.R, r * 9 + 5, none⟩ u
  have hlen : (s.modR r fun x => { x with q := l }).rides.length = s.rides.length := len_modR s r _
  have hbl : Below E.base w X := (Below.refl _ _).grown hX h.bas.2.2.2 fun k hk => ((h.q r hr).lt k hk).1
  refine ⟨⟨h.bas.1, h.bas.2.1, h.bas.2.2.1, Nat.le_trans h.bas.2.2.2 (Nat.le_trans hX.size hgr.size)⟩, ?_, fun _ => ?_, fun h0 => ?_, fun k hk => ?_, fun k k' hk hk' hne => ?_, ?_, fun k hk => ?_, fun p hp => pr_far ((hX.block p.1 (Array.getElem?_eq_some_iff.1 (h.pr p hp)).1 (fun e => h.prq p hp r hr e.symm)).trans (h.pr p hp)) hR (by decide) u, fun p hp k hk => ?_⟩
  · have h1 := h.ev.keep (hX.block _ h.ev.lt (hoff h.ev.ty (by decide)))
    have := h1.far (p := ⟨E.R, r * 9 + 5, none⟩) (h1.ty.ne hR (by decide)) u
    unfold evL at this ⊢
    rw [hlen]
    exact this
  · rw [hlen]
    refine hRX.set (by omega) u fun a ha b hb => ?_
    rw [rd_modR s r a _ hr]
    by_cases e : a = r
    · subst e
      rw [if_pos rfl, if_pos rfl]
      by_cases e2 : b = 5
      · subst e2
        rw [if_pos ⟨rfl, rfl⟩]
        rfl
      · rw [if_neg (fun h => e2 h.2)]
        rcases (by omega : b = 0 ∨ b = 1 ∨ b = 2 ∨ b = 3 ∨ b = 4 ∨ b = 6 ∨ b = 7 ∨ b = 8) with rfl | rfl | rfl | rfl | rfl | rfl | rfl | rfl <;> rfl
    · rw [if_neg e, if_neg e, if_neg (fun h => e h.1)]
  · have h1 := (h.gp h0).grown hX (hoff (h.gp h0).ty (by decide))
    exact h1.far (p := ⟨E.R, r * 9 + 5, none⟩) (h1.ty.ne hR (by decide)) u
  · rw [rd_modR s r k _ hr]
    by_cases e : k = r
    · subst e
      rw [if_pos rfl, if_pos rfl]
      exact ho.kept hgr (own_off ho hR (by decide))
    · rw [if_neg e, if_neg e]
      have hk' : k < s.rides.length := by omega
      have h1 := (h.q k hk').kept hX (h.qd k r hk' hr e)
      exact h1.kept hgr (own_off h1 hR (by decide))
  · rw [hlen] at hk hk'
    have hold : ∀ k, k < s.rides.length → k ≠ r → u.ownBlock = none ∨ ((qs k).ownBlock = none ∨ (qs k).ownBlock ≠ u.ownBlock) := fun k hk hkr => by
      rcases hu with h1 | h1 | ⟨g, h1, h2⟩
      · exact .inl h1
      · rw [h1]; exact .inr (h.qd k r hk hr hkr)
      · refine .inr ?_
        cases hq : (qs k).ownBlock with
        | none => exact .inl rfl
        | some g' =>
          refine .inr fun e => ?_
          rw [h1] at e
          injection e with e
          have := ((h.q k hk).lt g' hq).2
          omega
    by_cases e : k = r
    · subst e
      rw [if_pos rfl, if_neg (Ne.symm hne)]
      rcases hold k' hk' (Ne.symm hne) with h1 | h1 | h1
      · exact .inl h1
      · cases hu2 : u.ownBlock with
        | none => exact .inl rfl
        | some g => exact .inr (by rw [h1]; exact fun e => by cases e)
      · exact .inr (Ne.symm h1)
    · rw [if_neg e]
      by_cases e' : k' = r
      · subst e'
        rw [if_pos rfl]
        rcases hold k hk e with h1 | h1 | h1
        · cases hq : (qs k).ownBlock with
          | none => exact .inl rfl
          | some g => exact .inr (by rw [h1]; exact fun e => by cases e)
        · exact .inl h1
        · exact .inr h1
      · rw [if_neg e']
        exact h.qd k k' hk hk' hne
  · have h1 : X.ownsRow E.base 57 6 uv s.visits.length (s.visits.flatMap visL) := h.vis.kept hX (by
      cases hv : uv.ownBlock with
      | none => exact .inl rfl
      | some g => exact .inr (hoff (own_ty h.vis hv) (by decide)))
    exact h1.kept hgr (own_off h1 hR (by decide))
  · exact ((h.wants k hk).below hbl).setCell h.bas.2.1 u
  · rw [hlen] at hk
    by_cases e : k = r
    · rw [if_pos e]
      rcases hu with h1 | h1 | ⟨g, h1, h2⟩
      · rw [h1]; exact fun e => by cases e
      · rw [h1]; exact h.prq p hp r hr
      · rw [h1]
        intro e
        injection e with e
        have := (Array.getElem?_eq_some_iff.1 (h.pr p hp)).1
        omega
    · rw [if_neg e]; exact h.prq p hp k hk
/-- A visit has been added to the row of the visits; then the slice is stored. -/
theorem EvIn.setV {X : World} (h : EvIn E w s qs uv) {u : Value} {x : VisZ} (hX : w.grownBy X uv.ownBlock)
    (ho : X.ownsRow E.base 57 6 u (s.visits.length + 1) (s.visits.flatMap visL ++ visL x)) :
    EvIn E (X.setCell ⟨E.v, 4, none⟩ u) { s with visits := s.visits ++ [x] } qs u := by
  have hoff : ∀ {g : Nat} {t : TypeId}, TyAt w g t → 57 ≠ t → some g ≠ uv.ownBlock := fun {g t} hg ht e => by
    rcases own_off h.vis hg ht with h1 | h1
    · rw [h1] at e; cases e
    · exact h1 e.symm
  have hv1 := h.ev.keep (hX.block _ h.ev.lt (hoff h.ev.ty (by decide)))
  have hV := hv1.ty
  have hgr := grown_set X ⟨E.v, 4, none⟩ u
  have hbl : Below E.base w X := (Below.refl _ _).grown hX h.bas.2.2.2 fun k hk => (h.vis.lt k hk).1
  refine ⟨⟨h.bas.1, h.bas.2.1, h.bas.2.2.1, Nat.le_trans h.bas.2.2.2 (Nat.le_trans hX.size hgr.size)⟩, ?_, fun h0 => ?_, fun h0 => ?_, fun k hk => ?_, h.qd, ?_, fun k hk => ?_, fun p hp => pr_far ((hX.block p.1 (Array.getElem?_eq_some_iff.1 (h.pr p hp)).1 (hoff ⟨_, h.pr p hp⟩ (by decide))).trans (h.pr p hp)) hV (by decide) u, h.prq⟩
  · exact hv1.set 4 u
  · have h1 := (h.rd h0).grown hX (hoff (h.rd h0).ty (by decide))
    exact h1.far (p := ⟨E.v, 4, none⟩) (h1.ty.ne hV (by decide)) u
  · have h1 := (h.gp h0).grown hX (hoff (h.gp h0).ty (by decide))
    exact h1.far (p := ⟨E.v, 4, none⟩) (h1.ty.ne hV (by decide)) u
  · have h1 : X.ownsRow E.base 3 1 (qs k) (s.rd k).q.length (qL (s.rd k).q) := (h.q k hk).kept hX (by
      cases hv : (qs k).ownBlock with
      | none => exact .inl rfl
      | some g => exact .inr (hoff (own_ty (h.q k hk) hv) (by decide)))
    exact h1.kept hgr (own_off h1 hV (by decide))
  · have h1 : (s.visits ++ [x]).length = s.visits.length + 1 := by simp
    have h2 : (s.visits ++ [x]).flatMap visL = s.visits.flatMap visL ++ visL x := by simp
    show World.ownsRow _ _ _ _ _ (s.visits ++ [x]).length ((s.visits ++ [x]).flatMap visL)
    rw [h1, h2]
    exact ho.kept hgr (own_off ho hV (by decide))
  · exact ((h.wants k hk).below hbl).setCell h.bas.1 u
theorem EvIn.setN (h : EvIn E w s qs uv) (n : Int) : EvIn E (w.setCell ⟨E.v, 1, none⟩ (.int .i64 n)) { s with now := n } qs uv := by
  have hgr := grown_set w ⟨E.v, 1, none⟩ (.int .i64 n)
  have hV := h.ev.ty
  refine ⟨⟨h.bas.1, h.bas.2.1, h.bas.2.2.1, Nat.le_trans h.bas.2.2.2 hgr.size⟩, h.ev.set 1 _, fun h0 => ?_, fun h0 => ?_, fun k hk => ?_, h.qd, ?_, fun k hk => ?_, fun p hp => pr_far (h.pr p hp) hV (by decide) _, h.prq⟩
  · exact (h.rd h0).far (p := ⟨E.v, 1, none⟩) ((h.rd h0).ty.ne hV (by decide)) _
  · exact (h.gp h0).far (p := ⟨E.v, 1, none⟩) ((h.gp h0).ty.ne hV (by decide)) _
  · exact (h.q k hk).kept hgr (own_off (h.q k hk) hV (by decide))
  · exact h.vis.kept hgr (own_off h.vis hV (by decide))
  · exact (h.wants k hk).setCell h.bas.1 _
theorem EvIn.bs {p : Addr} {u : Value} (hb : Below E.base w w') (hp : E.base ≤ p.block) : Below E.base w (w'.setCell p u) := hb.setCell hp u
/-- One block more that no step touches; one less. -/
theorem EvIn.more (h : EvIn E w s qs uv) {k : Nat} {cs : Array Value} (hk : w.heap[k]? = some (.cells cs 3 (0, 0))) (hq : ∀ r, r < s.rides.length → (qs r).ownBlock ≠ some k) : EvIn { E with pr := (k, cs) :: E.pr } w s qs uv :=
  ⟨h.bas, h.ev, h.rd, h.gp, h.q, h.qd, h.vis, h.wants, fun p hp => (by rcases List.mem_cons.1 hp with rfl | hp; exact hk; exact h.pr p hp), fun p hp => (by rcases List.mem_cons.1 hp with rfl | hp; exact hq; exact h.prq p hp)⟩
theorem EvAt.less {k : Nat} {cs : Array Value} (h : EvAt { E with pr := (k, cs) :: E.pr } w s) : EvAt E w s := by
  obtain ⟨qs, uv, h⟩ := h
  exact ⟨qs, uv, h.bas, h.ev, h.rd, h.gp, h.q, h.qd, h.vis, h.wants, fun p hp => h.pr p (List.mem_cons_of_mem _ hp), fun p hp => h.prq p (List.mem_cons_of_mem _ hp)⟩
theorem EvAt.have_ {k : Nat} {cs : Array Value} (h : EvAt { E with pr := (k, cs) :: E.pr } w s) : w.heap[k]? = some (.cells cs 3 (0, 0)) := by
  obtain ⟨qs, uv, h⟩ := h
  exact h.pr (k, cs) List.mem_cons_self
end
end Go.Proofs.Ytijbhcdnbaaobaa
