/- Contract of queue's Play, and of the law's play. Conditions: the evening and the groups read as data. -/
import Derived.Test.YtijbhcdnbaaobaaEi
import Derived.Test.YtijbhcdnbaaobaaJd
import Derived.Test.YtijbhcdnbaaobaaSg
import Derived.Shelf.SlSortCmp.NoneTotal
import Derived.Test.YtijbhcdnbaaobaaEh
/- Contracts of cmp.Or at numbers and of the order of queue's visits. Conditions: the visits' numbers are small. -/
namespace Go.Proofs
open Go.Shelf Go.RowKit Go.Lib Go.Sort
namespace Ytijbhcdnbaaobaa

def orZ : List Int → Int
  | [] => 0
  | x :: l => if x ≠ 0 then x else orZ l
set_option maxHeartbeats 1000000 in
theorem cmpOr_any (l : List Int) (A : Option Addr) (c B : Nat) (w : World) (hr : Reads w B 1 A l.length (l.map (Value.int .i64))) (_ : B ≤ w.heap.size) (hm : l.length ≤ 1000) :
    Calls Try.prog 66 #[.slice A l.length c] w fun e w' => e = .returned (.int .i64 (orZ l)) ∧ w = w' := by
  have HR := Lib.hid hr
  clear hr
  go_enter Try.func66, Try.ntmps66
  go_wp2_with fail
  go_loop [8] (fun i => ∃ k : Nat, k ≤ l.length ∧ i = .int .i64 k ∧ orZ (l.drop k) = orZ l) (fun i => l.length - (intOf i).toNat)
  case atStart => exact ⟨0, Nat.zero_le _, rfl, rfl⟩
  case round =>
    obtain ⟨k, hk, rfl, ho⟩ := hrel
    by_cases hlt : k < l.length
    · have hlt' : (k : Int) < (l.length : Int) := by omega
      obtain ⟨b, o, rfl, hb, hc⟩ := HR.out.2 (by omega)
      have ck : w.cell? ⟨b, o + k, none⟩ = some (.int .i64 l[k]) := hc k _ (by rw [List.getElem?_map, List.getElem?_eq_getElem hlt]; rfl)
      rw [List.drop_eq_getElem_cons hlt] at ho
      have Ho := Lib.hid ho
      clear hc ho
      by_cases hz : l[k] = 0
      · have hd : (l[k] != 0) = false := by rw [hz]; rfl
        have HZ := Lib.hid hz
        clear hz
        go_wp2_with fail
        go_round
        case rel => exact ⟨k + 1, by omega, by go_num, by rw [← Ho.out]; simp [orZ, HZ.out]⟩
        case measure => simp [intOf]; omega
      · have hd : (l[k] != 0) = true := by simpa using hz
        have HZ := Lib.hid hz
        go_wp2_with fail
        go_ret
        exact ⟨by rw [← Ho.out]; simp only [orZ, ne_eq, HZ.out, not_false_eq_true, if_true]; rfl, rfl⟩
    · have hge : ¬ (k : Int) < (l.length : Int) := by omega
      have ek : k = l.length := by omega
      have Ho : Hid (0 = orZ l) := by show _ = _; rw [← ho, ek, List.drop_length]; rfl
      clear ek ho
      go_wp2_with fail
      go_ret
      exact ⟨by rw [← Ho.out]; rfl, rfl⟩
/-- The order that the program sorts by. -/
def cfV (x y : VisZ) : Int := orZ [x.left - y.left, (x.group : Int) - (y.group : Int), x.want - y.want]
theorem row_three (X : World) (g : Nat) (a b c : Int) (hr : Row X g 3 [.int .i64 a, .int .i64 b, .int .i64 c]) : Calls Try.prog 66 #[.slice (some ⟨g, 0, none⟩) 3 3] X fun e w' => e = .returned (.int .i64 (orZ [a, b, c])) ∧ X = w' :=
  cmpOr_any [a, b, c] (some ⟨g, 0, none⟩) 3 X.heap.size X (hr.reads (n := 3) (size := 1) rfl hr.lt) (Nat.le_refl _) (by simp)
set_option maxHeartbeats 1000000 in
theorem before_any (x y : VisZ) (hx : SmallV x) (hy : SmallV y) (W : World) : Calls Try.prog 65 #[.agg (visL x).toArray, .agg (visL y).toArray] W fun e w' => e = .returned (.int .i64 (cfV x y)) ∧ ∃ q os', w' = grow (W.drewN q) os' := by
  obtain ⟨⟨x1, x2⟩, x3, x4, x5⟩ := hx
  obtain ⟨⟨y1, y2⟩, y3, y4, y5⟩ := hy
  unfold visL cfV
  have e1 : IntKind.i64.wrap (x.left - y.left) = x.left - y.left := IntWalk.i64_in _ (by omega)
  have e2 : IntKind.i64.wrap ((x.group : Int) - (y.group : Int)) = (x.group : Int) - (y.group : Int) := IntWalk.i64_in _ (by omega)
  have e3 : IntKind.i64.wrap (x.want - y.want) = x.want - y.want := IntWalk.i64_in _ (by omega)
  clear x1 x2 x3 x4 x5 y1 y2 y3 y4 y5
  generalize hd1 : x.left - y.left = d1 at e1 ⊢
  generalize hd2 : (x.group : Int) - (y.group : Int) = d2 at e2 ⊢
  generalize hd3 : x.want - y.want = d3 at e3 ⊢
  go_enter Try.func65, Try.ntmps65
  go_wp2_with fail
  have hrow : ∀ (V : World) (g : Nat), g = V.heap.size → Row (V.alloc (.cells #[.int .i64 d1, .int .i64 d2, .int .i64 d3] 3)) g 3 [.int .i64 d1, .int .i64 d2, .int .i64 d3] := fun V g hg => by subst hg; exact Row.new V _ _
  refine (row_three _ _ d1 d2 d3 (hrow _ _ (by simp only [World.size_alloc]))).mono ?_
  rintro e w' ⟨rfl, rfl⟩
  go_wp2_with fail
  go_ret
  exact ⟨rfl, 0, _, by rw [alloc_eq_grow, alloc_eq_grow, alloc_eq_grow, grow_grow, grow_grow]; rfl⟩
end Ytijbhcdnbaaobaa
end Go.Proofs
/- slices.SortFunc at queue's visits. Conditions: the visits' numbers are small. -/
namespace Go.Proofs
open Go.Shelf Go.RowKit Go.Lib Go.Sort
namespace Ytijbhcdnbaaobaa

abbrev VisB := { v : VisZ // SmallV v }
instance : Inhabited VisB := ⟨⟨⟨0, 0, 0, false, 0, 0⟩, by unfold SmallV; simp⟩⟩
def encB (x : VisB) : List Value := visL x.1
def cfB (x y : VisB) : Int := cfV x.1 y.1
theorem cfV_lt (x y : VisZ) : cfV x y < 0 ↔ (x.left < y.left ∨ x.left = y.left ∧ (x.group < y.group ∨ x.group = y.group ∧ x.want < y.want)) := by
  unfold cfV
  simp only [orZ, ne_eq]
  by_cases h1 : x.left - y.left = 0
  · by_cases h2 : (x.group : Int) - (y.group : Int) = 0
    · by_cases h3 : x.want - y.want = 0
      · simp [h1, h2, h3]; omega
      · simp [h1, h2, h3]; omega
    · simp [h1, h2]; omega
  · simp [h1]; omega
theorem ltB (x y : VisB) : ltOf cfB x y = decide (x.1.left < y.1.left ∨ x.1.left = y.1.left ∧ (x.1.group < y.1.group ∨ x.1.group = y.1.group ∧ x.1.want < y.1.want)) := by
  unfold ltOf cfB
  exact decide_eq_decide.2 (cfV_lt _ _)
theorem swoB : SWO (ltOf cfB) where
  irrefl x := by rw [ltB]; simp
  trans x y z h1 h2 := by rw [ltB] at *; simp only [decide_eq_true_eq] at *; omega
  ntrans x y z h1 h2 := by rw [ltB] at *; simp only [decide_eq_false_iff_not] at *; omega
theorem flat_at' {α : Type} (f : α → List Value) (k : Nat) (hk : ∀ x, (f x).length = k) (d : α) : ∀ (l : List α) (i : Nat), i < l.length → ∀ j, j < k → (l.flatMap f)[i * k + j]? = (f (l.getD i d))[j]? := by
  intro l
  induction l with
  | nil => intro i hi; simp at hi
  | cons x l ih =>
    intro i hi j hj
    cases i with
    | zero =>
      rw [Nat.zero_mul, Nat.zero_add, List.flatMap_cons, List.getElem?_append_left (by rw [hk]; exact hj)]
      rfl
    | succ i =>
      have h := ih i (by simpa using hi) j hj
      rw [List.flatMap_cons, List.getElem?_append_right (by rw [hk, Nat.succ_mul]; omega), hk, show (i + 1) * k + j - k = i * k + j by rw [Nat.succ_mul]; omega]
      exact h
theorem flat_len' {α : Type} (f : α → List Value) (k : Nat) (hk : ∀ x, (f x).length = k) (l : List α) : (l.flatMap f).length = l.length * k := by
  induction l with
  | nil => simp
  | cons x l ih => rw [List.flatMap_cons, List.length_append, ih, hk, List.length_cons, Nat.succ_mul]; omega
section
variable {w : World} {blk n k : Nat} {d : Array VisB} {os : Array Obj}
theorem sort_size (w : World) (blk n : Nat) (d : Array VisB) (os : Array Obj) : w.heap.size ≤ (sortWorldK encB 6 w blk 0 n d os).heap.size := by
  simp [sortWorldK, Sort.grow, putRowK, putRow, mapBlock]
theorem sort_block (h1 : k ≠ blk) (h2 : k < w.heap.size) : (sortWorldK encB 6 w blk 0 n d os).heap[k]? = w.heap[k]? := by
  have h3 : ¬ blk = k := fun e => h1 e.symm
  have h4 : k < (w.heap.modify blk (onCells (putCells id 0 (flatK encB 6 d)))).size := by simpa using h2
  show ((w.heap.modify blk (onCells (putCells id 0 (flatK encB 6 d)))) ++ os)[k]? = _
  rw [Array.getElem?_append_left h4, Array.getElem?_modify, if_neg h3]
theorem sort_below {B : Nat} (hb : B ≤ blk) (hB : B ≤ w.heap.size) : Below B w (sortWorldK encB 6 w blk 0 n d os) :=
  ⟨rfl, rfl, rfl, sort_size w blk n d os, fun i hi => sort_block (by omega) (by omega)⟩
theorem flatB (d : Array VisB) (j : Nat) (hj : j < d.size * 6) : ((d.toList.map (·.1)).flatMap visL)[j]? = some (flatK encB 6 d)[j]! := by
  have hi : j / 6 < d.size := by omega
  have hm : j % 6 < 6 := by omega
  have e1 : j / 6 * 6 + j % 6 = j := by omega
  have hl : (d.toList.map (·.1)).length = d.size := by simp
  have h := flat_at' visL 6 (fun _ => rfl) (⟨0, 0, 0, false, 0, 0⟩ : VisZ) (d.toList.map (·.1)) (j / 6) (by omega) (j % 6) hm
  rw [e1] at h
  rw [h, get_flatK _ _ _ _ hj]
  have hd : (d.toList.map (·.1)).getD (j / 6) ⟨0, 0, 0, false, 0, 0⟩ = (d[j / 6]!).1 := by
    rw [List.getD_eq_getElem?_getD, List.getElem?_map, getElem!_pos d _ hi]
    simp [hi]
  rw [hd]
  unfold encB
  have h6 : (visL (d[j / 6]!).1).length = 6 := rfl
  rw [List.getElem?_eq_getElem (by rw [h6]; exact hm), getElem!_pos (visL (d[j / 6]!).1) _ (by rw [h6]; exact hm)]
end
/-- Visits in a row: what a sorted row holds. -/
def SortTo (B : Nat) (w : World) (blk : Nat) (l : List VisZ) (e : Ending) (w' : World) : Prop :=
  e = .returned (.tuple #[]) ∧ ∃ L : List VisZ, L.Perm l ∧ L.Pairwise leV ∧ Below B w w' ∧ (∀ k, k ≠ blk → k < w.heap.size → w'.heap[k]? = w.heap[k]?) ∧ Reads w' w'.heap.size 6 (some ⟨blk, 0, none⟩) l.length (L.flatMap visL)
theorem sort_any (l : List VisZ) (hs : ∀ v ∈ l, SmallV v) (hl : l.length ≤ 100000) (B blk cap : Nat) (w : World) (hB : B ≤ blk) (hBw : B ≤ w.heap.size) (hr : Row w blk 57 (l.flatMap visL)) :
    Calls Try.prog 64 #[.slice (some ⟨blk, 0, none⟩) l.length cap, .func (.func 65) #[] #[]] w (SortTo B w blk l) := by
  have eg : ∀ args w, (callFunc 65 args).run Try.prog w = .ok (.enter 65 args) w := enters_of Try.func65 (by kernel_rfl) rfl
  obtain ⟨d, hd⟩ : ∃ d : Array VisB, d = (l.attachWith SmallV hs).toArray := ⟨_, rfl⟩
  have hdl : d.toList.map (·.1) = l := by rw [hd]; simp
  have hds : d.size = l.length := by rw [← hdl]; simp
  have hcl : (l.flatMap visL).length = l.length * 6 := flat_len' visL 6 (fun _ => rfl) l
  have hH : HoldsK encB 6 w blk 0 d := fun j hj => by
    rw [size_flatK] at hj
    have h1 := flatB d j hj
    rw [hdl] at h1
    have hj2 : j < (l.flatMap visL).length := by rw [hcl]; omega
    refine ⟨?_, hr.frozen _⟩
    rw [Nat.zero_add, hr.cell hj2, h1]
    rfl
  have hcon := AnyQ.slices_SortFunc Ytijbhcdnbaaobaa.laysSort 6 Try.isAgg57 Try.sizeOf57 encB (fun _ => rfl) (fun x v hv => by
    simp only [encB, visL, List.mem_cons, List.not_mem_nil, or_false] at hv
    rcases hv with rfl | rfl | rfl | rfl | rfl | rfl <;> rfl) cfB swoB 65 #[] blk 0 cap d w eg (fun _ _ _ _ x y => before_any x.1 y.1 x.2 y.2 _) hH hr.lt (by rw [hds]; omega)
  rw [hds] at hcon
  change Calls Try.prog 64 _ _ _ at hcon
  refine hcon.mono ?_
  rintro e w' ⟨rfl, d', n, os, hp, hso, rfl⟩
  obtain ⟨p1, _, p3⟩ := hp
  have hx : ∀ c : Array VisB, c.size = l.length → c.extract 0 l.length = c := fun c hc => by rw [← hc]; simp
  rw [hx d' (by rw [p1, hds]), hx d hds] at p3
  have hds' : d'.size = l.length := by rw [p1, hds]
  have hrd : HoldsK encB 6 (sortWorldK encB 6 w blk 0 n d' os) blk 0 d' := holdsK_grow encB 6 _ os blk 0 d' (by simpa [putRowK, putRow, mapBlock, ahead] using hr.lt) (holdsK_putRowK encB 6 _ blk 0 d d' (holdsK_ahead encB 6 w n blk 0 d hH) p1)
  refine ⟨rfl, d'.toList.map (·.1), by rw [← hdl]; exact p3.map _, ?_, sort_below hB hBw, fun k h1 h2 => sort_block h1 h2, ?_⟩
  · refine List.pairwise_map.2 (List.pairwise_iff_getElem.2 fun i j hi hj hij => ?_)
    have hj' : j < d'.size := by simpa using hj
    have hi' : i < d'.size := by simpa using hi
    have := hso i j (Nat.zero_le _) hij (by omega)
    rw [ltB, getElem!_pos d' j hj', getElem!_pos d' i hi'] at this
    simp only [decide_eq_false_iff_not] at this
    simp only [Array.getElem_toList]
    unfold leV
    omega
  · have hcl' : ((d'.toList.map (·.1)).flatMap visL).length = l.length * 6 := by
      rw [flat_len' visL 6 (fun _ => rfl)]
      simp [hds']
    refine ⟨hcl', fun _ => ⟨blk, 0, rfl, Nat.lt_of_lt_of_le hr.lt (sort_size w blk n d' os), fun j u hu => ?_⟩⟩
    have hj : j < d'.size * 6 := by
      have := (List.getElem?_eq_some_iff.1 hu).1
      rw [hcl'] at this
      omega
    have h1 := flatB d' j hj
    rw [hu] at h1
    injection h1 with h1
    rw [(hrd j (by rw [size_flatK]; exact hj)).1, ← h1]
    rfl
end Ytijbhcdnbaaobaa
end Go.Proofs
/- Contract of queue's sortedVisits. Conditions: the evening lies in memory, its visits' numbers are small. -/
namespace Go.Proofs.Ytijbhcdnbaaobaa
open Go.RowKit

/-- Sorted visits in memory. -/
def VisTo (B : Nat) (w : World) (l : List VisZ) (u : Value) (w' : World) : Prop := ∃ A c, u = .slice A l.length c ∧ ∃ L : List VisZ, L.Perm l ∧ L.Pairwise leV ∧ Below B w w' ∧ Reads w' w'.heap.size 6 A l.length (L.flatMap visL)
theorem sort_none (A : Option Addr) (c : Nat) (fv : Value) (w : World) : Calls Try.prog 64 #[.slice A 0 c, fv] w fun e w' => e = .returned (.tuple #[]) ∧ w' = w :=
  AnyF.slices_SortFunc_none Ytijbhcdnbaaobaa.laysSort A c fv w
set_option maxHeartbeats 1000000 in
theorem sortedVisits_any {E : EvE} {w : World} {s : EvS} (h : EvAt E w s) (hs : ∀ v ∈ s.visits, SmallV v) (hl : s.visits.length ≤ 100000) :
    Calls Try.prog 47 #[.pointer (some ⟨E.v, 0, none⟩)] w fun e w' => ∃ u, e = .returned u ∧ VisTo E.base w s.visits u w' := by
  obtain ⟨qs, uv, h⟩ := h
  have v4 := h.vc.2.2.1
  have l1 := h.vc.2.2.2
  have hbas := h.bas
  have hvis := h.vis
  have hty := h.ev.ty
  have hev := h.ev
  obtain ⟨l, hll⟩ : ∃ l, l = s.visits := ⟨_, rfl⟩
  rw [← hll] at hs hl hvis ⊢
  rcases Nat.eq_zero_or_pos l.length with h0 | h0
  · obtain ⟨A, c, rfl⟩ := own_slice hvis
    have hl0 : l = [] := List.eq_nil_of_length_eq_zero h0
    have HC := Lib.hid (sort_none A c (.func (.func 65) #[] #[]) w)
    rw [h0] at v4
    have HL := Lib.hid hl0
    clear h hvis hs hll hty hev hl0
    go_enter Try.func47, Try.ntmps47
    go_wp2_with (go_at_call 64; refine HC.out.mono ?_; rintro e w' ⟨rfl, rfl⟩)
    go_ret
    rw [HL.out]
    exact ⟨_, rfl, A, c, rfl, [], List.Perm.refl _, List.Pairwise.nil, Below.refl _ _, ⟨by simp, fun h => absurd h (by simp)⟩⟩
  · obtain ⟨g, cap, rfl, hgb, hlt⟩ := World.ownsRow.form hvis h0
    have hrow := (Row.of_own hvis).1
    have HC := Lib.hid (sort_any l hs hl E.base g cap w hgb hbas.2.2.2 hrow)
    have hne : E.v ≠ g := hty.ne hrow.ty (by decide)
    have HE : Hid (∀ X : World, (∀ k, k ≠ g → k < w.heap.size → X.heap[k]? = w.heap[k]?) → X.cell? ⟨E.v, 4, none⟩ = some (.slice (some ⟨g, 0, none⟩) l.length cap) ∧ E.v < X.heap.size) := fun X hX => by
      have hr := hev.keep (hX _ hne l1)
      exact ⟨hr.cell (j := 4) (by simp [evL]), hr.lt⟩
    clear h hvis hs hll hty hev hrow hne
    go_enter Try.func47, Try.ntmps47
    go_upto_region 2 with (go_at_call 64; refine HC.out.mono ?_; rintro e w' ⟨rfl, L, p1, p2, p3, p4, p5⟩)
    obtain ⟨x4, x1⟩ := HE.out w' p4
    have HP := Lib.hid p3
    have HR := Lib.hid p5
    clear p3 p4 p5 v4 l1
    go_wp2_with fail
    go_ret
    exact ⟨_, rfl, _, cap, rfl, L, p1, p2, HP.out, HR.out⟩
end Go.Proofs.Ytijbhcdnbaaobaa
namespace Go.Proofs.Ytijbhcdnbaaobaa
open Go.RowKit

/-- The visits of an evening, sorted, and an error: in memory of the call's own. -/
def PlayedTo (w : World) (f : EveZ) (l : List GrpZ) (e : Ending) (w' : World) : Prop := ∃ (L : List VisZ) (A : Option Addr) (c : Nat), e = .returned (.tuple #[.slice A L.length c, .int .i64 (checkQ f l)]) ∧ (checkQ f l = 0 → L.Perm (eveS f l).visits ∧ L.Pairwise leV ∧ L.length ≤ 100000) ∧ Below w.heap.size w w' ∧ Reads w' w'.heap.size 6 A L.length (L.flatMap visL)
theorem eve_small {f : EveZ} {l : List GrpZ} (hc : checkQ f l = 0) : (∀ v ∈ (eveS f l).visits, SmallV v) ∧ (eveS f l).visits.length ≤ 100000 := by
  obtain ⟨h1, h2⟩ := checkQ_ok.1 hc
  have g := grp_valid h2
  have hp := play_small f l (grpsB_len h2) (fun x hx => (g x hx).2.2.2.1.1) (fun x hx => (g x hx).2.1.1) (fun x hx => (g x hx).2.2.2.2.2) (fun x hx => (g x hx).2.2.2.2.1)
  have hb := vis_600 (big_start h1 h2).1 (play_his f l (fun x hx => (g x hx).2.2.2.1.1) (fun x hx => (g x hx).2.2.2.2.2))
  exact ⟨hp, by omega⟩
set_option maxRecDepth 100000 in
set_option maxHeartbeats 1000000 in
theorem Play_any (f : EveZ) (l : List GrpZ) (A A2 : Option Addr) (c c2 B : Nat) (rs : List (Option Addr × Nat)) (w : World) (hB : B ≤ w.heap.size) (hr : Reads w B 5 A f.rides.length (bthCells f.rides)) (hn : f.rides.length ≤ maxLen) (hl : GrpsIn w B A2 rs l) :
    Calls Try.prog 21 #[eveV f A c, .slice A2 l.length c2] w (PlayedTo w f l) := by
  obtain ⟨W, hW⟩ : ∃ W, W = w.alloc (.cells #[.slice A f.rides.length c, .int .i64 f.walk] 24) := ⟨_, rfl⟩
  have bW : Below w.heap.size w W := by subst hW; exact (Below.refl _ _).alloc (Nat.le_refl _) _
  have r0 : Row W w.heap.size 24 [.slice A f.rides.length c, .int .i64 f.walk] := by subst hW; exact Row.new w _ _
  have q0 : W.cell? ⟨w.heap.size, 0, none⟩ = some (.slice A f.rides.length c) := r0.cell (j := 0) (by simp)
  have q1 : W.cell? ⟨w.heap.size, 1, none⟩ = some (.int .i64 f.walk) := r0.cell (j := 1) (by simp)
  have lW : w.heap.size < W.heap.size := r0.lt
  have HBW := Lib.hid bW
  have hrW := hr.below (bW.mono hB)
  have hlW := hl.below (bW.mono hB)
  have hBW := Nat.le_trans hB bW.size
  by_cases hc : checkQ f l = 0
  · have hC := cap_ok f l A A2 c c2 B rs W hBW hrW hn hlW hc
    obtain ⟨hsm, hlen⟩ := eve_small hc
    have HZ : Hid (∀ (E : Ending) (X : World), (∃ (L : List VisZ) (A : Option Addr) (c : Nat), E = .returned (.tuple #[.slice A L.length c, .int .i64 0]) ∧ L.Perm (eveS f l).visits ∧ L.Pairwise leV ∧ L.length ≤ 100000 ∧ Below w.heap.size w X ∧ Reads X X.heap.size 6 A L.length (L.flatMap visL)) → PlayedTo w f l E X) := fun E X ⟨L, A, c, h1, h2, h3, h4, h5, h6⟩ => ⟨L, A, c, by rw [hc]; exact h1, fun _ => ⟨h2, h3, h4⟩, h5, h6⟩
    obtain ⟨s, hs⟩ : ∃ s, s = eveS f l := ⟨_, rfl⟩
    rw [← hs] at hC hsm hlen HZ
    have HC := Lib.hid hC
    have HSM := Lib.hid hsm
    unfold eveV at HC ⊢
    clear hr hl hrW hlW hn r0 bW hc hs hC hsm
    go_enter Try.func21, Try.ntmps21
    go_upto_region 1 with (fail)
    rw [← hW]
    clear hW
    go_upto_region 2 with (go_at_call 46; refine HC.out.mono ?_; rintro e w1 ⟨E, rfl, hE0, hb1, hE⟩)
    have HB1 := Lib.hid (HBW.out.trans (hb1.mono HBW.out.size))
    have HE0 := Lib.hid (Nat.le_trans HBW.out.size hE0)
    have HC2 := Lib.hid (sortedVisits_any hE HSM.out hlen)
    clear hb1 HC hE hE0
    go_wp2_with (go_at_call 47; refine HC2.out.mono ?_; rintro e w2 ⟨u, rfl, A3, c3, rfl, L, p1, p2, hb2, hr3⟩; have HB2 := Lib.hid hb2; have HR3 := Lib.hid hr3; clear hb2 hr3)
    go_ret2
    refine HZ.out _ _ ⟨L, A3, c3, by rw [p1.length_eq]; rfl, p1, p2, by rw [p1.length_eq]; exact hlen, HB1.out.trans (HB2.out.mono HE0.out), by rw [p1.length_eq]; exact HR3.out⟩
  · have HC := Lib.hid (cap_bad f l A A2 c c2 B rs W hBW hrW hn hlW hc)
    have HZ : Hid (∀ (E : Ending) (X : World), E = .returned (.tuple #[.slice none 0 0, .int .i64 (checkQ f l)]) → Below w.heap.size w X → PlayedTo w f l E X) := fun E X hE hX => ⟨[], none, 0, hE, fun h => absurd h hc, hX, reads_none _ _ _⟩
    generalize checkQ f l = k at hc HC HZ
    unfold eveV at HC ⊢
    clear hr hl hrW hlW hn r0 bW
    go_enter Try.func21, Try.ntmps21
    go_upto_region 1 with (fail)
    rw [← hW]
    clear hW
    go_wp2_with (go_at_call 46; refine HC.out.mono ?_; rintro e w1 ⟨rfl, hb1⟩; have HB1 := Lib.hid (HBW.out.trans (hb1.mono HBW.out.size)); clear hb1)
    all_goals (go_ret2; exact HZ.out _ _ rfl HB1.out)
end Go.Proofs.Ytijbhcdnbaaobaa
