/- An evening of layer 7, plainly: what holds at its end. No program, no memory. -/

/- An evening of layer 7, plainly, as the program plays it: state, steps, and what tokens do in them. No program, no memory. -/
namespace Go.Proofs.Ytijbhcdnbaaobaa

structure Bth where
  seats : Int
  price : Int
  cycle : Int
  pause : Int
  fill : Bool
  deriving Inhabited
structure GrpZ where
  at_ : Int
  size : Int
  tokens : Int
  patience : Int
  wants : List Int
  deriving Inhabited
structure EveZ where
  rides : List Bth
  walk : Int
structure RdS where
  b : Bth
  q : List Nat
  ready : Int
  taken : Int
  longest : Int
  deriving Inhabited
/-- A group in an evening; place: 0 outside, 1 walking, 2 standing, 3 riding, 4 gone. -/
structure GpS where
  g : GrpZ
  tok : Int
  place : Nat
  til : Int
  want : Int
  came : Int
  home : Int
  deriving Inhabited
structure VisZ where
  group : Nat
  want : Int
  ride : Nat
  on : Bool
  came : Int
  left : Int
structure EvS where
  walk : Int
  now : Int
  rides : List RdS
  groups : List GpS
  visits : List VisZ

/-- The ride that a group goes after. -/
def GpS.goal (g : GpS) : Nat := (g.g.wants.getD g.want.toNat 0).toNat
def EvS.grp (s : EvS) (i : Nat) : GpS := s.groups.getD i default
def EvS.rd (s : EvS) (r : Nat) : RdS := s.rides.getD r default
def EvS.modG (s : EvS) (i : Nat) (f : GpS → GpS) : EvS := { s with groups := s.groups.modify i f }
def EvS.modR (s : EvS) (r : Nat) (f : RdS → RdS) : EvS := { s with rides := s.rides.modify r f }
def standS (s : EvS) (i : Nat) : EvS :=
  ((s.modR (s.grp i).goal fun x => { x with q := x.q ++ [i] }).modG i fun g => { g with place := 2, came := s.now, til := s.now + g.g.patience + 1 })
def goOnS (s : EvS) (i : Nat) : EvS :=
  let s1 := s.modG i fun g => { g with want := g.want + 1 }
  if (s1.grp i).want = ((s1.grp i).g.wants.length : Int) then s1.modG i fun g => { g with place := 4, home := s.now }
  else if s.walk = 0 then standS s1 i
  else s1.modG i fun g => { g with place := 1, til := s.now + s.walk }
def leaveS (s : EvS) (i : Nat) (on : Bool) : EvS :=
  { s.modR (s.grp i).goal fun x => { x with q := x.q.filter (· ≠ i) } with visits := s.visits ++ [⟨i, (s.grp i).want, (s.grp i).goal, on, (s.grp i).came, s.now⟩] }
def giveUpS (s : EvS) (i : Nat) : EvS := goOnS (leaveS s i false) i
def costS (s : EvS) (i : Nat) (r : Nat) : Int := (s.rd r).b.price * (s.grp i).g.size
def getOnS (s : EvS) (i : Nat) : EvS :=
  let s1 := leaveS s i true
  let r := (s.grp i).goal
  ((s1.modG i fun g => { g with tok := g.tok - costS s i r, place := 3, til := s.now + (s.rd r).b.cycle }).modR r fun x => { x with taken := x.taken + costS s i r })
def forDueS (p : Nat) (f : EvS → Nat → EvS) (s : EvS) : EvS := (List.range s.groups.length).foldl (fun s i => if (s.grp i).place = p ∧ (s.grp i).til = s.now then f s i else s) s
def fillS (r : Nat) : List Nat → Int → EvS → EvS × Int
  | [], left, s => (s, left)
  | i :: l, left, s =>
    if (s.grp i).g.size > (s.rd r).b.seats ∨ (s.grp i).tok < costS s i r then fillS r l left (giveUpS s i)
    else if (s.grp i).g.size ≤ left then fillS r l (left - (s.grp i).g.size) (getOnS s i)
    else if (s.rd r).b.fill = false then (s, left)
    else fillS r l left s
def rbegS (s : EvS) (r : Nat) : EvS :=
  if (s.rd r).ready ≤ s.now then
    let (s', left) := fillS r (s.rd r).q (s.rd r).b.seats s
    if left < (s.rd r).b.seats then s'.modR r fun x => { x with ready := s.now + x.b.cycle + x.b.pause } else s'
  else s
def rbegsS (s : EvS) : EvS := (List.range s.rides.length).foldl rbegS s
def guestsS (s : EvS) (q : List Nat) : Int := q.foldl (fun n i => n + (s.grp i).g.size) 0
def measureS (s : EvS) : EvS := { s with rides := s.rides.map fun x => { x with longest := max x.longest (guestsS s x.q) } }
def tickS (s : EvS) : EvS := measureS (rbegsS (forDueS 2 giveUpS (forDueS 1 standS (forDueS 0 goOnS (forDueS 3 goOnS s)))))
def overS (s : EvS) : Bool := s.groups.all fun g => g.place = 4
def startS (f : EveZ) (l : List GrpZ) : EvS := { walk := f.walk, now := 0, rides := f.rides.map fun b => ⟨b, [], 0, 0, 0⟩, groups := l.map fun g => ⟨g, g.tokens, 0, g.at_, -1, 0, -1⟩, visits := [] }
/-- So many ticks, unless all have gone home before. -/
def ticksS : Nat → EvS → EvS
  | 0, s => s
  | n + 1, s => if overS s then s else ticksS n { tickS s with now := s.now + 1 }
def eveS (f : EveZ) (l : List GrpZ) : EvS := ticksS 4001 (startS f l)

/-- What no step changes, and what holds in all of them: groups and rides stay who they are; nobody owes; what is paid was held. -/
structure FixS (a s : EvS) : Prop where
  walk : s.walk = a.walk
  gs : s.groups.map (·.g) = a.groups.map (·.g)
  rs : s.rides.map (·.b) = a.rides.map (·.b)
def sumG (l : List GpS) : Int := (l.map (·.tok)).foldr (· + ·) 0
def sumR (l : List RdS) : Int := (l.map (·.taken)).foldr (· + ·) 0
def totS (s : EvS) : Int := sumG s.groups + sumR s.rides
theorem FixS.refl (a : EvS) : FixS a a := ⟨rfl, rfl, rfl⟩
theorem FixS.trans {a b c : EvS} (h : FixS a b) (k : FixS b c) : FixS a c := ⟨k.walk.trans h.walk, k.gs.trans h.gs, k.rs.trans h.rs⟩
theorem map_modify_same {α β : Type} (f : α → β) (g : α → α) (h : ∀ x, f (g x) = f x) (l : List α) : ∀ i, (l.modify i g).map f = l.map f := by
  induction l with
  | nil => intro i; cases i <;> rfl
  | cons x l ih =>
    intro i
    cases i with
    | zero => simp [h]
    | succ i => simp [ih]
theorem fix_modG (s : EvS) (i : Nat) (f : GpS → GpS) (h : ∀ x, (f x).g = x.g) : FixS s (s.modG i f) := ⟨rfl, map_modify_same _ _ h _ _, rfl⟩
theorem fix_modR (s : EvS) (r : Nat) (f : RdS → RdS) (h : ∀ x, (f x).b = x.b) : FixS s (s.modR r f) := ⟨rfl, rfl, map_modify_same _ _ h _ _⟩
theorem tot_modG (s : EvS) (i : Nat) (f : GpS → GpS) (h : ∀ x, (f x).tok = x.tok) : totS (s.modG i f) = totS s := by
  unfold totS EvS.modG sumG
  rw [map_modify_same _ _ h]
theorem tot_modR (s : EvS) (r : Nat) (f : RdS → RdS) (h : ∀ x, (f x).taken = x.taken) : totS (s.modR r f) = totS s := by
  unfold totS EvS.modR sumR
  rw [map_modify_same _ _ h]
end Go.Proofs.Ytijbhcdnbaaobaa
/- An evening of layer 7, plainly: what each step keeps. No program, no memory. -/
namespace Go.Proofs.Ytijbhcdnbaaobaa

theorem grp_modG (s : EvS) (i j : Nat) (f : GpS → GpS) (hi : i < s.groups.length) : (s.modG i f).grp j = if j = i then f (s.grp i) else s.grp j := by
  unfold EvS.modG EvS.grp
  simp only [List.getD_eq_getElem?_getD, List.getElem?_modify]
  by_cases h : j = i
  · subst h
    simp [hi]
  · rw [if_neg h]
    simp [Ne.symm h]
theorem grp_modR (s : EvS) (r j : Nat) (f : RdS → RdS) : (s.modR r f).grp j = s.grp j := rfl
theorem rd_modG (s : EvS) (i r : Nat) (f : GpS → GpS) : (s.modG i f).rd r = s.rd r := rfl
theorem rd_modR (s : EvS) (i r : Nat) (f : RdS → RdS) (hi : i < s.rides.length) : (s.modR i f).rd r = if r = i then f (s.rd i) else s.rd r := by
  unfold EvS.modR EvS.rd
  simp only [List.getD_eq_getElem?_getD, List.getElem?_modify]
  by_cases h : r = i
  · subst h
    simp [hi]
  · rw [if_neg h]
    simp [Ne.symm h]
theorem len_modG (s : EvS) (i : Nat) (f : GpS → GpS) : (s.modG i f).groups.length = s.groups.length := by simp [EvS.modG]
theorem len_modR (s : EvS) (r : Nat) (f : RdS → RdS) : (s.modR r f).rides.length = s.rides.length := by simp [EvS.modR]
theorem sumG_modify (l : List GpS) (f : GpS → GpS) (c : Int) (h : ∀ x, (f x).tok = x.tok + c) : ∀ i, i < l.length → sumG (l.modify i f) = sumG l + c := by
  induction l with
  | nil => intro i hi; simp at hi
  | cons x l ih =>
    intro i hi
    cases i with
    | zero => simp [sumG, h]; omega
    | succ i =>
      have := ih i (by simpa using hi)
      simp only [sumG, List.modify_succ_cons, List.map_cons, List.foldr_cons] at this ⊢
      omega
theorem sumR_modify (l : List RdS) (f : RdS → RdS) (c : Int) (h : ∀ x, (f x).taken = x.taken + c) : ∀ i, i < l.length → sumR (l.modify i f) = sumR l + c := by
  induction l with
  | nil => intro i hi; simp at hi
  | cons x l ih =>
    intro i hi
    cases i with
    | zero => simp [sumR, h]; omega
    | succ i =>
      have := ih i (by simpa using hi)
      simp only [sumR, List.modify_succ_cons, List.map_cons, List.foldr_cons] at this ⊢
      omega
theorem fix_len {a s : EvS} (h : FixS a s) : s.groups.length = a.groups.length ∧ s.rides.length = a.rides.length := by
  have h1 := congrArg List.length h.gs
  have h2 := congrArg List.length h.rs
  simpa using And.intro h1 h2
theorem fix_grp {a s : EvS} (h : FixS a s) (i : Nat) : (s.grp i).g = (a.grp i).g := by
  have h1 := congrArg (fun l : List GrpZ => l[i]?) h.gs
  simp only [List.getElem?_map] at h1
  unfold EvS.grp
  simp only [List.getD_eq_getElem?_getD]
  cases hs : s.groups[i]? with
  | none => cases ha : a.groups[i]? with
    | none => rfl
    | some y => rw [hs, ha] at h1; cases h1
  | some x => cases ha : a.groups[i]? with
    | none => rw [hs, ha] at h1; cases h1
    | some y =>
      rw [hs, ha] at h1
      simpa using h1
theorem fix_rd {a s : EvS} (h : FixS a s) (r : Nat) : (s.rd r).b = (a.rd r).b := by
  have h1 := congrArg (fun l : List Bth => l[r]?) h.rs
  simp only [List.getElem?_map] at h1
  unfold EvS.rd
  simp only [List.getD_eq_getElem?_getD]
  cases hs : s.rides[r]? with
  | none => cases ha : a.rides[r]? with
    | none => rfl
    | some y => rw [hs, ha] at h1; cases h1
  | some x => cases ha : a.rides[r]? with
    | none => rw [hs, ha] at h1; cases h1
    | some y =>
      rw [hs, ha] at h1
      simpa using h1
/-- A step that keeps groups, rides and tokens. -/
def KeepS (s t : EvS) : Prop := FixS s t ∧ totS t = totS s
theorem KeepS.refl (s : EvS) : KeepS s s := ⟨FixS.refl s, rfl⟩
theorem KeepS.trans {a b c : EvS} (h : KeepS a b) (k : KeepS b c) : KeepS a c := ⟨h.1.trans k.1, k.2.trans h.2⟩
theorem keep_modG (s : EvS) (i : Nat) (f : GpS → GpS) (h : ∀ x, (f x).g = x.g) (h' : ∀ x, (f x).tok = x.tok) : KeepS s (s.modG i f) := ⟨fix_modG s i f h, tot_modG s i f h'⟩
theorem keep_modR (s : EvS) (i : Nat) (f : RdS → RdS) (h : ∀ x, (f x).b = x.b) (h' : ∀ x, (f x).taken = x.taken) : KeepS s (s.modR i f) := ⟨fix_modR s i f h, tot_modR s i f h'⟩
theorem keep_stand (s : EvS) (i : Nat) : KeepS s (standS s i) := by
  unfold standS
  refine KeepS.trans (b := s.modR (s.grp i).goal fun x => { x with q := x.q ++ [i] }) ?_ ?_
  · exact keep_modR _ _ _ (fun _ => rfl) (fun _ => rfl)
  · exact keep_modG _ _ _ (fun _ => rfl) (fun _ => rfl)
theorem keep_goOn (s : EvS) (i : Nat) : KeepS s (goOnS s i) := by
  have h1 : KeepS s (s.modG i fun g => { g with want := g.want + 1 }) := keep_modG s i _ (fun _ => rfl) (fun _ => rfl)
  unfold goOnS
  dsimp only
  split
  · exact h1.trans (keep_modG _ _ _ (fun _ => rfl) (fun _ => rfl))
  · split
    · exact h1.trans (keep_stand _ _)
    · exact h1.trans (keep_modG _ _ _ (fun _ => rfl) (fun _ => rfl))
theorem keep_leave (s : EvS) (i : Nat) (on : Bool) : KeepS s (leaveS s i on) :=
  KeepS.trans (keep_modR s (s.grp i).goal (fun x => { x with q := x.q.filter (· ≠ i) }) (fun _ => rfl) (fun _ => rfl)) ⟨⟨rfl, rfl, rfl⟩, rfl⟩
theorem keep_giveUp (s : EvS) (i : Nat) : KeepS s (giveUpS s i) := (keep_leave s i false).trans (keep_goOn _ i)
theorem keep_getOn (s : EvS) (i : Nat) (hi : i < s.groups.length) (hr : (s.grp i).goal < s.rides.length) : KeepS s (getOnS s i) := by
  obtain ⟨h1, h2⟩ := keep_leave s i true
  obtain ⟨l1, l2⟩ := fix_len h1
  unfold getOnS
  dsimp only
  refine ⟨?_, ?_⟩
  · refine h1.trans (FixS.trans (b := (leaveS s i true).modG i fun g => { g with tok := g.tok - costS s i (s.grp i).goal, place := 3, til := s.now + (s.rd (s.grp i).goal).b.cycle }) ?_ ?_)
    · exact fix_modG _ _ _ (fun _ => rfl)
    · exact fix_modR _ _ _ (fun _ => rfl)
  rw [← h2]
  generalize leaveS s i true = t at *
  generalize costS s i (s.grp i).goal = c
  generalize (s.grp i).goal = r at *
  have e1 := sumG_modify t.groups (fun g => { g with tok := g.tok - c, place := 3, til := s.now + (s.rd r).b.cycle }) (-c) (fun x => by dsimp only; omega) i (by omega)
  have e2 := sumR_modify t.rides (fun x => { x with taken := x.taken + c }) c (fun x => rfl) r (by omega)
  show sumG _ + sumR _ = sumG _ + sumR _
  show sumG (t.groups.modify i _) + sumR (t.rides.modify r _) = _
  rw [e1, e2]
  omega
end Go.Proofs.Ytijbhcdnbaaobaa
/- An evening of layer 7, plainly: what holds in every moment of it: who stands, stands in one queue; nobody owes; what a ride has taken is what was paid there. No program, no memory. -/
namespace Go.Proofs.Ytijbhcdnbaaobaa

def paidL (c : Nat → Nat → Int) (r : Nat) : List VisZ → Int
  | [] => 0
  | v :: l => (if v.on = true ∧ v.ride = r then c v.group r else 0) + paidL c r l
theorem paidL_snoc (c : Nat → Nat → Int) (r : Nat) (v : VisZ) : ∀ l, paidL c r (l ++ [v]) = paidL c r l + (if v.on = true ∧ v.ride = r then c v.group r else 0) := by
  intro l
  induction l with
  | nil => simp [paidL]
  | cons x l ih => simp only [List.cons_append, paidL, ih]; omega
def ValS (a : EvS) : Prop := ∀ i, i < a.groups.length → ∀ w ∈ (a.grp i).g.wants, 0 ≤ w ∧ w < (a.rides.length : Int)
/-- What holds in every moment; x: a group that is on its way from one thing to the next. -/
structure WfS (a s : EvS) (x : Option Nat) : Prop where
  fix : FixS a s
  tot : totS s = totS a
  owe : ∀ i, i < s.groups.length → 0 ≤ (s.grp i).tok
  out : ∀ i, i < s.groups.length → some i ≠ x → (s.grp i).place = 0 → (s.grp i).want = -1
  at_ : ∀ i, i < s.groups.length → some i ≠ x → (s.grp i).place = 1 ∨ (s.grp i).place = 2 ∨ (s.grp i).place = 3 → 0 ≤ (s.grp i).want ∧ (s.grp i).want < ((s.grp i).g.wants.length : Int)
  way : ∀ i, x = some i → i < s.groups.length ∧ -1 ≤ (s.grp i).want ∧ (s.grp i).want ≤ ((s.grp i).g.wants.length : Int)
  que : ∀ r i, i ∈ (s.rd r).q → i < s.groups.length ∧ some i ≠ x ∧ (s.grp i).place = 2 ∧ (s.grp i).goal = r
  nod : ∀ r, (s.rd r).q.Nodup
  std : ∀ i, i < s.groups.length → some i ≠ x → (s.grp i).place = 2 → i ∈ (s.rd (s.grp i).goal).q
  vis : ∀ v ∈ s.visits, v.group < s.groups.length ∧ v.ride < s.rides.length
  pay : ∀ r, r < s.rides.length → (s.rd r).taken = paidL (costS s) r s.visits
theorem cost_fix {a s : EvS} (h : FixS a s) : costS s = costS a := by
  funext i r
  unfold costS
  rw [fix_rd h, fix_grp h]
theorem goal_lt {a s : EvS} (hv : ValS a) (h : FixS a s) {i : Nat} (hi : i < s.groups.length) (h0 : 0 ≤ (s.grp i).want) (h1 : (s.grp i).want < ((s.grp i).g.wants.length : Int)) : (s.grp i).goal < s.rides.length := by
  obtain ⟨l1, l2⟩ := fix_len h
  have e := fix_grp h i
  have hlt : (s.grp i).want.toNat < (s.grp i).g.wants.length := by omega
  have hm : (s.grp i).g.wants.getD (s.grp i).want.toNat 0 ∈ (a.grp i).g.wants := by
    rw [← e, List.getD_eq_getElem?_getD, List.getElem?_eq_getElem hlt]
    exact List.getElem_mem hlt
  have := hv i (by omega) _ hm
  unfold GpS.goal
  omega
theorem rd_ge {s : EvS} {r : Nat} (h : ¬ r < s.rides.length) : (s.rd r).q = [] := by
  unfold EvS.rd
  rw [List.getD_eq_getElem?_getD, List.getElem?_eq_none (by omega)]
  rfl
/-- A step that turns one group alone, and neither its tokens nor a queue. -/
theorem wf_modG {a s : EvS} {x y : Option Nat} {i : Nat} {f : GpS → GpS} (h : WfS a s x) (hi : i < s.groups.length) (hg : ∀ z, (f z).g = z.g) (ht : ∀ z, (f z).tok = z.tok)
    (hx : x = none ∨ x = some i) (hy : y = none ∨ y = some i)
    (hq : (s.grp i).place ≠ 2 ∨ x = some i) (hp : (f (s.grp i)).place ≠ 2 ∨ y = some i)
    (ho : y = none → (f (s.grp i)).place = 0 → (f (s.grp i)).want = -1)
    (ha : y = none → (f (s.grp i)).place = 1 ∨ (f (s.grp i)).place = 2 ∨ (f (s.grp i)).place = 3 → 0 ≤ (f (s.grp i)).want ∧ (f (s.grp i)).want < ((s.grp i).g.wants.length : Int))
    (hw : y = some i → -1 ≤ (f (s.grp i)).want ∧ (f (s.grp i)).want ≤ ((s.grp i).g.wants.length : Int)) : WfS a (s.modG i f) y := by
  have hk := keep_modG s i f hg ht
  have ne : ∀ j, j ≠ i → some j ≠ x ∧ some j ≠ y := fun j hj => by
    constructor
    · rcases hx with rfl | rfl <;> simp [hj]
    · rcases hy with rfl | rfl <;> simp [hj]
  have notq : ∀ r, i ∉ (s.rd r).q := fun r hm => by
    obtain ⟨_, h2, h3, _⟩ := h.que r i hm
    rcases hq with hq | hq
    · exact hq h3
    · exact h2 hq.symm
  refine ⟨h.fix.trans hk.1, hk.2.trans h.tot, ?_, ?_, ?_, ?_, ?_, h.nod, ?_, ?_, ?_⟩
  · intro j hj
    rw [len_modG] at hj
    rw [grp_modG s i j f hi]
    split
    · rw [ht]; exact h.owe i hi
    · exact h.owe j hj
  · intro j hj hjy
    rw [len_modG] at hj
    rw [grp_modG s i j f hi]
    split
    · rename_i e
      subst e
      rcases hy with rfl | rfl
      · exact ho rfl
      · exact absurd rfl hjy
    · rename_i e
      exact h.out j hj (ne j e).1
  · intro j hj hjy
    rw [len_modG] at hj
    rw [grp_modG s i j f hi]
    split
    · rename_i e
      subst e
      rcases hy with rfl | rfl
      · rw [hg]; exact ha rfl
      · exact absurd rfl hjy
    · rename_i e
      exact h.at_ j hj (ne j e).1
  · intro j hj
    rcases hy with rfl | rfl
    · cases hj
    · injection hj with hj
      subst hj
      rw [len_modG, grp_modG s i i f hi, if_pos rfl, hg]
      exact ⟨hi, hw rfl⟩
  · intro r j hm
    rw [rd_modG] at hm
    have hji : j ≠ i := fun e => notq r (e ▸ hm)
    obtain ⟨h1, h2, h3, h4⟩ := h.que r j hm
    rw [len_modG, grp_modG s i j f hi, if_neg hji]
    exact ⟨h1, (ne j hji).2, h3, h4⟩
  · intro j hj hjy
    rw [len_modG] at hj
    rw [grp_modG s i j f hi]
    split
    · rename_i e
      subst e
      intro hp2
      rcases hp with hp | hp
      · exact absurd hp2 hp
      · exact absurd hp.symm hjy
    · rename_i e
      exact h.std j hj (ne j e).1
  · intro v hv
    rw [len_modG]
    exact h.vis v hv
  · intro r hr
    rw [rd_modG, cost_fix hk.1]
    exact h.pay r hr
/-- Whoever stands in no queue may be on the way. -/
theorem wf_way {a s : EvS} {i : Nat} (h : WfS a s none) (hi : i < s.groups.length) (hp : (s.grp i).place ≠ 2) (hp4 : (s.grp i).place = 0 ∨ (s.grp i).place = 1 ∨ (s.grp i).place = 3) : WfS a s (some i) := by
  refine ⟨h.fix, h.tot, h.owe, fun j hj _ => h.out j hj (by simp), fun j hj _ => h.at_ j hj (by simp), fun j hj => ?_, fun r j hm => ?_, h.nod, fun j hj _ => h.std j hj (by simp), h.vis, h.pay⟩
  · injection hj with hj
    subst hj
    refine ⟨hi, ?_⟩
    rcases hp4 with h0 | h0
    · have := h.out i hi (by simp) h0
      omega
    · have := h.at_ i hi (by simp) (by omega)
      omega
  · obtain ⟨h1, _, h3, h4⟩ := h.que r j hm
    refine ⟨h1, fun e => ?_, h3, h4⟩
    injection e with e
    subst e
    exact hp h3
theorem wf_stand {a s : EvS} {i : Nat} (h : WfS a s (some i)) (hv : ValS a) (h0 : 0 ≤ (s.grp i).want) (h1 : (s.grp i).want < ((s.grp i).g.wants.length : Int)) : WfS a (standS s i) none := by
  have hi := (h.way i rfl).1
  have hr := goal_lt hv h.fix hi h0 h1
  have hk := keep_stand s i
  unfold standS at hk ⊢
  obtain ⟨r, hrr⟩ : ∃ r, r = (s.grp i).goal := ⟨_, rfl⟩
  rw [← hrr] at hr hk ⊢
  obtain ⟨t, ht⟩ : ∃ t, t = s.modR r fun x => { x with q := x.q ++ [i] } := ⟨_, rfl⟩
  rw [← ht] at hk ⊢
  have tg : ∀ j, t.grp j = s.grp j := fun j => by rw [ht]; rfl
  have tl : t.groups.length = s.groups.length := by rw [ht]; rfl
  have trl : t.rides.length = s.rides.length := by rw [ht]; exact len_modR _ _ _
  have tr : ∀ r', (t.rd r').q = if r' = r then (s.rd r).q ++ [i] else (s.rd r').q := fun r' => by
    rw [ht, rd_modR s r r' _ hr]
    split <;> rfl
  have tt : ∀ r', (t.rd r').taken = (s.rd r').taken := fun r' => by
    rw [ht, rd_modR s r r' _ hr]
    split
    · rename_i e; rw [e]
    · rfl
  have tv : t.visits = s.visits := by rw [ht]; rfl
  obtain ⟨f, hf⟩ : ∃ f : GpS → GpS, f = fun g => { g with place := 2, came := s.now, til := s.now + g.g.patience + 1 } := ⟨_, rfl⟩
  rw [← hf] at hk ⊢
  have fp : ∀ z, (f z).place = 2 ∧ (f z).tok = z.tok ∧ (f z).want = z.want ∧ (f z).g = z.g ∧ (f z).goal = z.goal := fun z => by rw [hf]; exact ⟨rfl, rfl, rfl, rfl, rfl⟩
  have ug : ∀ j, (t.modG i f).grp j = if j = i then f (s.grp i) else s.grp j := fun j => by rw [grp_modG t i j f (by omega), tg, tg]
  have notq : ∀ r', i ∉ (s.rd r').q := fun r' hm => (h.que r' i hm).2.1 rfl
  have ne : ∀ j, j ≠ i → some j ≠ some i := fun j hj e => hj (by injection e)
  refine ⟨h.fix.trans hk.1, hk.2.trans h.tot, ?_, ?_, ?_, fun j hj => (by cases hj), ?_, ?_, ?_, ?_, ?_⟩
  · intro j hj
    rw [len_modG, tl] at hj
    rw [ug]
    split
    · rw [(fp _).2.1]; exact h.owe i hi
    · exact h.owe j hj
  · intro j hj _
    rw [len_modG, tl] at hj
    rw [ug]
    split
    · intro hp; rw [(fp _).1] at hp; cases hp
    · rename_i e; exact h.out j hj (ne j e)
  · intro j hj _
    rw [len_modG, tl] at hj
    rw [ug]
    split
    · intro _; rw [(fp _).2.2.1, (fp _).2.2.2.1]; exact ⟨h0, h1⟩
    · rename_i e; exact h.at_ j hj (ne j e)
  · intro r' j hm
    rw [rd_modG, tr] at hm
    rw [len_modG, tl, ug]
    by_cases hji : j = i
    · subst hji
      rw [if_pos rfl]
      refine ⟨hi, by simp, (fp _).1, ?_⟩
      rw [(fp _).2.2.2.2, ← hrr]
      split at hm
      · rename_i e; exact e.symm
      · exact absurd hm (notq r')
    · rw [if_neg hji]
      have hm' : j ∈ (s.rd r').q := by
        split at hm
        · rename_i e
          rw [e]
          rcases List.mem_append.1 hm with hm | hm
          · exact hm
          · exact absurd (by simpa using hm) hji
        · exact hm
      obtain ⟨k1, _, k3, k4⟩ := h.que r' j hm'
      exact ⟨k1, by simp, k3, k4⟩
  · intro r'
    rw [rd_modG, tr]
    split
    · refine List.nodup_append.2 ⟨h.nod r, by simp, fun x hx y hy e => ?_⟩
      simp at hy
      subst hy e
      exact notq r hx
    · exact h.nod r'
  · intro j hj _
    rw [len_modG, tl] at hj
    rw [ug]
    split
    · rename_i e
      subst e
      intro _
      rw [(fp _).2.2.2.2, ← hrr, rd_modG, tr, if_pos rfl]
      simp
    · rename_i e
      intro hp
      have := h.std j hj (ne j e) hp
      rw [rd_modG, tr]
      split
      · rename_i e2
        rw [e2] at this
        exact List.mem_append_left _ this
      · exact this
  · intro v hv'
    have hv'' : v ∈ s.visits := by rw [← tv]; exact hv'
    rw [len_modG, tl]
    show _ ∧ v.ride < t.rides.length
    rw [trl]
    exact h.vis v hv''
  · intro r' hr'
    have hr'' : r' < s.rides.length := by rw [← trl]; exact hr'
    rw [rd_modG, tt, cost_fix hk.1]
    show _ = paidL (costS s) r' t.visits
    rw [tv]
    exact h.pay r' hr''
end Go.Proofs.Ytijbhcdnbaaobaa
/- An evening of layer 7, plainly: each step keeps what holds in every moment (WfS), up to the last tick. No program, no memory. -/
namespace Go.Proofs.Ytijbhcdnbaaobaa

theorem wf_goOn {a s : EvS} {i : Nat} (h : WfS a s (some i)) (hv : ValS a) (h1 : (s.grp i).want < ((s.grp i).g.wants.length : Int)) : WfS a (goOnS s i) none := by
  obtain ⟨hi, h0, _⟩ := h.way i rfl
  have hs1 : WfS a (s.modG i fun g => { g with want := g.want + 1 }) (some i) :=
    wf_modG h hi (fun _ => rfl) (fun _ => rfl) (.inr rfl) (.inr rfl) (.inr rfl) (.inr rfl) (fun e => by cases e) (fun e => by cases e) (fun _ => by dsimp only; omega)
  unfold goOnS
  dsimp only
  obtain ⟨t, ht⟩ : ∃ t, t = s.modG i fun g => { g with want := g.want + 1 } := ⟨_, rfl⟩
  have tg : (t.grp i).want = (s.grp i).want + 1 ∧ (t.grp i).g = (s.grp i).g := by rw [ht, grp_modG s i i _ hi, if_pos rfl]; exact ⟨rfl, rfl⟩
  have tl : t.groups.length = s.groups.length := by rw [ht]; exact len_modG _ _ _
  rw [← ht] at hs1 ⊢
  split
  · exact wf_modG hs1 (by omega) (fun _ => rfl) (fun _ => rfl) (.inr rfl) (.inl rfl) (.inr rfl) (.inl (by simp)) (fun _ e => by simp at e) (fun _ e => by simp at e) (fun e => by cases e)
  · rename_i hne
    rw [tg.1, tg.2] at hne
    split
    · exact wf_stand hs1 hv (by rw [tg.1]; omega) (by rw [tg.1, tg.2]; omega)
    · refine wf_modG hs1 (by omega) (fun _ => rfl) (fun _ => rfl) (.inr rfl) (.inl rfl) (.inr rfl) (.inl (by simp)) (fun _ e => by simp at e) (fun _ _ => ?_) (fun e => by cases e)
      dsimp only
      rw [tg.1, tg.2]
      omega
theorem leave_grp (s : EvS) (i j : Nat) (on : Bool) : (leaveS s i on).grp j = s.grp j := rfl
theorem leave_len (s : EvS) (i : Nat) (on : Bool) : (leaveS s i on).groups.length = s.groups.length := rfl
theorem leave_rlen (s : EvS) (i : Nat) (on : Bool) : (leaveS s i on).rides.length = s.rides.length := len_modR _ _ _
theorem leave_rd (s : EvS) (i r : Nat) (on : Bool) (hr : (s.grp i).goal < s.rides.length) : (leaveS s i on).rd r = if r = (s.grp i).goal then { s.rd r with q := (s.rd r).q.filter (· ≠ i) } else s.rd r := by
  show (s.modR _ _).rd r = _
  rw [rd_modR s _ r _ hr]
  split
  · rename_i e; rw [e]
  · rfl
/-- Whoever leaves a queue is on the way: the queue has the others still. -/
theorem wf_leave {a s : EvS} {i : Nat} {on : Bool} (h : WfS a s none) (hv : ValS a) (hi : i < s.groups.length) (hp : (s.grp i).place = 2) :
    (s.grp i).goal < s.rides.length ∧ FixS a (leaveS s i on) ∧ totS (leaveS s i on) = totS a ∧ (∀ r j, j ∈ ((leaveS s i on).rd r).q ↔ j ∈ (s.rd r).q ∧ j ≠ i) ∧ (∀ r, ((leaveS s i on).rd r).q.Nodup) ∧
      (∀ r, ((leaveS s i on).rd r).taken = (s.rd r).taken) ∧ (∀ r, r < s.rides.length → paidL (costS (leaveS s i on)) r (leaveS s i on).visits = (s.rd r).taken + (if on = true ∧ (s.grp i).goal = r then costS s i r else 0)) := by
  obtain ⟨h0, h1⟩ := h.at_ i hi (by simp) (.inr (.inl hp))
  have hr := goal_lt hv h.fix hi h0 h1
  have hk := keep_leave s i on
  refine ⟨hr, h.fix.trans hk.1, hk.2.trans h.tot, fun r j => ?_, fun r => ?_, fun r => ?_, fun r hr' => ?_⟩
  · rw [leave_rd s i r on hr]
    split
    · simp
    · rename_i e
      constructor
      · intro hm
        refine ⟨hm, fun e2 => ?_⟩
        subst e2
        exact e (h.que r j hm).2.2.2.symm
      · exact fun hm => hm.1
  · rw [leave_rd s i r on hr]
    split
    · exact (h.nod r).filter _
    · exact h.nod r
  · rw [leave_rd s i r on hr]
    split <;> rfl
  · rw [cost_fix hk.1, h.pay r hr']
    show paidL (costS s) r (s.visits ++ [_]) = _
    rw [paidL_snoc]
theorem wf_leave_no {a s : EvS} {i : Nat} (h : WfS a s none) (hv : ValS a) (hi : i < s.groups.length) (hp : (s.grp i).place = 2) : WfS a (leaveS s i false) (some i) := by
  obtain ⟨hr, h1, h2, h3, h4, h5, h6⟩ := wf_leave (on := false) h hv hi hp
  have hw := h.at_ i hi (by simp) (.inr (.inl hp))
  have ne : ∀ j, some j ≠ some i → j ≠ i := fun j hj e => hj (by rw [e])
  refine ⟨h1, h2, h.owe, fun j hj _ => h.out j hj (by simp), fun j hj _ => h.at_ j hj (by simp), fun j hj => ?_, fun r j hm => ?_, h4, fun j hj hjn hpj => ?_, fun v hvv => ?_, fun r hr' => ?_⟩
  · injection hj with hj
    subst hj
    exact ⟨hi, show -1 ≤ (s.grp i).want ∧ (s.grp i).want ≤ ((s.grp i).g.wants.length : Int) by omega⟩
  · obtain ⟨hm1, hm2⟩ := (h3 r j).1 hm
    obtain ⟨k1, _, k3, k4⟩ := h.que r j hm1
    exact ⟨k1, fun e => hm2 (by injection e), k3, k4⟩
  · exact (h3 _ j).2 ⟨h.std j hj (by simp) hpj, ne j hjn⟩
  · have hvv' : v ∈ s.visits ++ [⟨i, (s.grp i).want, (s.grp i).goal, false, (s.grp i).came, s.now⟩] := hvv
    show v.group < s.groups.length ∧ v.ride < (leaveS s i false).rides.length
    rw [leave_rlen]
    rcases List.mem_append.1 hvv' with hm | hm
    · exact h.vis v hm
    · obtain rfl : v = _ := List.mem_singleton.1 hm
      exact ⟨hi, hr⟩
  · rw [leave_rlen] at hr'
    rw [h5, h6 r hr']
    simp
theorem wf_giveUp {a s : EvS} {i : Nat} (h : WfS a s none) (hv : ValS a) (hi : i < s.groups.length) (hp : (s.grp i).place = 2) : WfS a (giveUpS s i) none :=
  wf_goOn (wf_leave_no h hv hi hp) hv (h.at_ i hi (by simp) (.inr (.inl hp))).2
theorem wf_getOn {a s : EvS} {i : Nat} (h : WfS a s none) (hv : ValS a) (hi : i < s.groups.length) (hp : (s.grp i).place = 2) (hc : costS s i (s.grp i).goal ≤ (s.grp i).tok) : WfS a (getOnS s i) none := by
  obtain ⟨hr, h1, h2, h3, h4, h5, h6⟩ := wf_leave (on := true) h hv hi hp
  have hw := h.at_ i hi (by simp) (.inr (.inl hp))
  have hk := keep_getOn s i hi hr
  obtain ⟨l1, l2⟩ := fix_len hk.1
  have hgr : ∀ j, (getOnS s i).grp j = if j = i then { s.grp i with tok := (s.grp i).tok - costS s i (s.grp i).goal, place := 3, til := s.now + (s.rd (s.grp i).goal).b.cycle } else s.grp j := fun j =>
    grp_modG (leaveS s i true) i j _ hi
  have hrd : ∀ r, (getOnS s i).rd r = if r = (s.grp i).goal then { (leaveS s i true).rd r with taken := ((leaveS s i true).rd r).taken + costS s i (s.grp i).goal } else (leaveS s i true).rd r := fun r => by
    have := rd_modR ((leaveS s i true).modG i fun g => { g with tok := g.tok - costS s i (s.grp i).goal, place := 3, til := s.now + (s.rd (s.grp i).goal).b.cycle }) (s.grp i).goal r (fun x => { x with taken := x.taken + costS s i (s.grp i).goal }) (by show _ < (leaveS s i true).rides.length; rw [leave_rlen]; exact hr)
    refine Eq.trans this ?_
    split
    · rename_i e; rw [e]; rfl
    · rfl
  have hq : ∀ r, ((getOnS s i).rd r).q = ((leaveS s i true).rd r).q := fun r => by rw [hrd]; split <;> rfl
  refine ⟨h.fix.trans hk.1, hk.2.trans h.tot, fun j hj => ?_, fun j hj _ => ?_, fun j hj _ => ?_, fun j hj => (by cases hj), fun r j hm => ?_, fun r => ?_, fun j hj _ => ?_, fun v hvv => ?_, fun r hr' => ?_⟩
  · rw [hgr]
    split
    · dsimp only; omega
    · exact h.owe j (by omega)
  · rw [hgr]
    split
    · intro e; simp at e
    · exact h.out j (by omega) (by simp)
  · rw [hgr]
    split
    · intro _; exact hw
    · exact h.at_ j (by omega) (by simp)
  · rw [hq] at hm
    obtain ⟨hm1, hm2⟩ := (h3 r j).1 hm
    obtain ⟨k1, _, k3, k4⟩ := h.que r j hm1
    rw [hgr, if_neg hm2]
    exact ⟨by omega, by simp, k3, k4⟩
  · rw [hq]; exact h4 r
  · rw [hgr]
    split
    · intro e; simp at e
    · rename_i hji
      intro hpj
      rw [hq]
      exact (h3 _ j).2 ⟨h.std j (by omega) (by simp) hpj, hji⟩
  · have hvv' : v ∈ s.visits ++ [⟨i, (s.grp i).want, (s.grp i).goal, true, (s.grp i).came, s.now⟩] := hvv
    rw [l1, l2]
    rcases List.mem_append.1 hvv' with hm | hm
    · exact h.vis v hm
    · obtain rfl : v = _ := List.mem_singleton.1 hm
      exact ⟨hi, hr⟩
  · rw [l2] at hr'
    have e : paidL (costS (getOnS s i)) r (getOnS s i).visits = paidL (costS (leaveS s i true)) r (leaveS s i true).visits := by
      rw [cost_fix hk.1, cost_fix (keep_leave s i true).1]
      rfl
    rw [e, h6 r hr', hrd]
    split
    · rename_i e2
      subst e2
      dsimp only
      rw [h5]
      simp
    · rename_i e2
      rw [h5, if_neg (fun hh => e2 hh.2.symm)]
      omega
end Go.Proofs.Ytijbhcdnbaaobaa
namespace Go.Proofs.Ytijbhcdnbaaobaa

theorem stand_other (s : EvS) {i j : Nat} (hi : i < s.groups.length) (hj : j ≠ i) : (standS s i).grp j = s.grp j := by
  unfold standS
  refine (grp_modG _ i j _ (show i < (s.modR _ _).groups.length from hi)).trans ?_
  rw [if_neg hj]
  rfl
theorem goOn_other (s : EvS) {i j : Nat} (hi : i < s.groups.length) (hj : j ≠ i) : (goOnS s i).grp j = s.grp j := by
  have h1 : (s.modG i fun g => { g with want := g.want + 1 }).grp j = s.grp j := by rw [grp_modG _ i j _ hi, if_neg hj]
  have hl : i < (s.modG i fun g => { g with want := g.want + 1 }).groups.length := by rw [len_modG]; exact hi
  unfold goOnS
  dsimp only
  split
  · rw [grp_modG _ i j _ hl, if_neg hj, h1]
  · split
    · rw [stand_other _ hl hj, h1]
    · rw [grp_modG _ i j _ hl, if_neg hj, h1]
theorem giveUp_other (s : EvS) {i j : Nat} (hi : i < s.groups.length) (hj : j ≠ i) : (giveUpS s i).grp j = s.grp j := goOn_other (leaveS s i false) hi hj
theorem getOn_other (s : EvS) {i j : Nat} (hi : i < s.groups.length) (hj : j ≠ i) : (getOnS s i).grp j = s.grp j := by
  refine (grp_modG (leaveS s i true) i j _ hi).trans ?_
  rw [if_neg hj]
  rfl
theorem wf_now {a s : EvS} {x : Option Nat} (h : WfS a s x) (n : Int) : WfS a { s with now := n } x :=
  ⟨⟨h.fix.walk, h.fix.gs, h.fix.rs⟩, h.tot, h.owe, h.out, h.at_, h.way, h.que, h.nod, h.std, h.vis, h.pay⟩
theorem wf_modR {a s : EvS} {r : Nat} {f : RdS → RdS} (h : WfS a s none) (hb : ∀ z, (f z).b = z.b) (hq : ∀ z, (f z).q = z.q) (ht : ∀ z, (f z).taken = z.taken) : WfS a (s.modR r f) none := by
  have hk := keep_modR s r f hb ht
  have hrd : ∀ r', ((s.modR r f).rd r').q = (s.rd r').q ∧ ((s.modR r f).rd r').taken = (s.rd r').taken := fun r' => by
    by_cases hr : r < s.rides.length
    · rw [rd_modR s r r' f hr]
      split
      · rename_i e; rw [e]; exact ⟨hq _, ht _⟩
      · exact ⟨rfl, rfl⟩
    · have e : s.rides.modify r f = s.rides := List.modify_eq_self (by omega)
      unfold EvS.modR EvS.rd
      rw [e]
      exact ⟨rfl, rfl⟩
  refine ⟨h.fix.trans hk.1, hk.2.trans h.tot, h.owe, h.out, h.at_, h.way, fun r' i hm => ?_, fun r' => ?_, fun i hi hn hp => ?_, fun v hv => ?_, fun r' hr' => ?_⟩
  · rw [(hrd r').1] at hm; exact h.que r' i hm
  · rw [(hrd r').1]; exact h.nod r'
  · rw [(hrd _).1]; exact h.std i hi hn hp
  · rw [len_modR]; exact h.vis v hv
  · rw [len_modR] at hr'
    rw [(hrd r').2, cost_fix hk.1]
    exact h.pay r' hr'
theorem wf_measure {a s : EvS} (h : WfS a s none) : WfS a (measureS s) none := by
  have hb : (measureS s).rides.map (·.b) = s.rides.map (·.b) := by simp [measureS]
  have ht : (measureS s).rides.map (·.taken) = s.rides.map (·.taken) := by simp [measureS]
  have hl : (measureS s).rides.length = s.rides.length := by simp [measureS]
  have hfix : FixS s (measureS s) := ⟨rfl, rfl, hb⟩
  have hrd : ∀ r', ((measureS s).rd r').q = (s.rd r').q ∧ ((measureS s).rd r').taken = (s.rd r').taken := fun r' => by
    unfold EvS.rd measureS
    simp only [List.getD_eq_getElem?_getD, List.getElem?_map]
    cases s.rides[r']? <;> exact ⟨rfl, rfl⟩
  refine ⟨h.fix.trans hfix, ?_, h.owe, h.out, h.at_, h.way, fun r' i hm => ?_, fun r' => ?_, fun i hi hn hp => ?_, fun v hv => ?_, fun r' hr' => ?_⟩
  · rw [← h.tot]
    unfold totS sumR
    rw [ht]
    rfl
  · rw [(hrd r').1] at hm; exact h.que r' i hm
  · rw [(hrd r').1]; exact h.nod r'
  · rw [(hrd _).1]; exact h.std i hi hn hp
  · rw [hl]; exact h.vis v hv
  · rw [hl] at hr'
    rw [(hrd r').2, cost_fix hfix]
    exact h.pay r' hr'
theorem wf_forDue {a : EvS} {p : Nat} {f : EvS → Nat → EvS} (hf : ∀ s i, WfS a s none → i < s.groups.length → (s.grp i).place = p → WfS a (f s i) none) {s : EvS} (h : WfS a s none) : WfS a (forDueS p f s) none := by
  have key : ∀ (l : List Nat) (s : EvS), WfS a s none → (∀ i ∈ l, i < a.groups.length) → WfS a (l.foldl (fun s i => if (s.grp i).place = p ∧ (s.grp i).til = s.now then f s i else s) s) none := by
    intro l
    induction l with
    | nil => intro s h _; exact h
    | cons i l ih =>
      intro s h hl
      rw [List.foldl_cons]
      refine ih _ ?_ (fun j hj => hl j (List.mem_cons_of_mem _ hj))
      split
      · rename_i hc
        exact hf s i h (by rw [(fix_len h.fix).1]; exact hl i List.mem_cons_self) hc.1
      · exact h
  exact key _ s h (fun i hi => by rw [← (fix_len h.fix).1]; exact List.mem_range.1 hi)
theorem wf_fill {a : EvS} (hv : ValS a) (r : Nat) : ∀ (l : List Nat) (left : Int) (s : EvS), WfS a s none → l.Nodup → (∀ j ∈ l, j < s.groups.length ∧ (s.grp j).place = 2 ∧ (s.grp j).goal = r) → WfS a (fillS r l left s).1 none := by
  intro l
  induction l with
  | nil => intro left s h _ _; exact h
  | cons i l ih =>
    intro left s h hn hl
    obtain ⟨hi, hp, hg⟩ := hl i List.mem_cons_self
    rw [List.nodup_cons] at hn
    have rest : ∀ t : EvS, t.groups.length = s.groups.length → (∀ j, j ≠ i → t.grp j = s.grp j) → ∀ j ∈ l, j < t.groups.length ∧ (t.grp j).place = 2 ∧ (t.grp j).goal = r := fun t hlen ho j hj => by
      have hji : j ≠ i := fun e => hn.1 (e ▸ hj)
      rw [hlen, ho j hji]
      exact hl j (List.mem_cons_of_mem _ hj)
    simp only [fillS]
    split
    · have hw := wf_giveUp h hv hi hp
      exact ih left _ hw hn.2 (rest _ (by rw [(fix_len hw.fix).1, (fix_len h.fix).1]) fun j hj => giveUp_other s hi hj)
    · rename_i hc
      split
      · have hw := wf_getOn h hv hi hp (by rw [hg]; omega)
        exact ih _ _ hw hn.2 (rest _ (by rw [(fix_len hw.fix).1, (fix_len h.fix).1]) fun j hj => getOn_other s hi hj)
      · split
        · exact h
        · exact ih left s h hn.2 (rest s rfl fun _ _ => rfl)
theorem wf_rbeg {a s : EvS} (hv : ValS a) (r : Nat) (h : WfS a s none) : WfS a (rbegS s r) none := by
  unfold rbegS
  split
  · have hw := wf_fill hv r (s.rd r).q (s.rd r).b.seats s h (h.nod r) (fun j hj => by
      obtain ⟨h1, _, h3, h4⟩ := h.que r j hj
      exact ⟨h1, h3, h4⟩)
    generalize fillS r (s.rd r).q (s.rd r).b.seats s = t at hw
    obtain ⟨t, left⟩ := t
    dsimp only at hw ⊢
    split
    · exact wf_modR hw (fun _ => rfl) (fun _ => rfl) (fun _ => rfl)
    · exact hw
  · exact h
theorem wf_rbegs {a s : EvS} (hv : ValS a) (h : WfS a s none) : WfS a (rbegsS s) none := by
  unfold rbegsS
  generalize List.range s.rides.length = l
  induction l generalizing s with
  | nil => exact h
  | cons r l ih => exact ih (wf_rbeg hv r h)
theorem wf_tick {a s : EvS} (hv : ValS a) (h : WfS a s none) : WfS a (tickS s) none := by
  have go : ∀ p, p = 0 ∨ p = 3 → ∀ s i, WfS a s none → i < s.groups.length → (s.grp i).place = p → WfS a (goOnS s i) none := by
    intro p hp s i h hi hpl
    refine wf_goOn (wf_way h hi (by omega) (by omega)) hv ?_
    rcases hp with rfl | rfl
    · have := h.out i hi (by simp) hpl
      omega
    · exact (h.at_ i hi (by simp) (by omega)).2
  have st : ∀ s i, WfS a s none → i < s.groups.length → (s.grp i).place = 1 → WfS a (standS s i) none := by
    intro s i h hi hpl
    have := h.at_ i hi (by simp) (.inl hpl)
    exact wf_stand (wf_way h hi (by omega) (by omega)) hv this.1 this.2
  have gu : ∀ s i, WfS a s none → i < s.groups.length → (s.grp i).place = 2 → WfS a (giveUpS s i) none := fun s i h hi hpl => wf_giveUp h hv hi hpl
  unfold tickS
  exact wf_measure (wf_rbegs hv (wf_forDue gu (wf_forDue st (wf_forDue (go 0 (.inl rfl)) (wf_forDue (go 3 (.inr rfl)) h)))))
theorem wf_ticks {a : EvS} (hv : ValS a) : ∀ n s, WfS a s none → WfS a (ticksS n s) none := by
  intro n
  induction n with
  | zero => intro s h; exact h
  | succ n ih =>
    intro s h
    simp only [ticksS]
    split
    · exact h
    · exact ih _ (wf_now (wf_tick hv h) _)
theorem wf_start (f : EveZ) (l : List GrpZ) (ht : ∀ g ∈ l, 0 ≤ g.tokens) : WfS (startS f l) (startS f l) none := by
  have hg : ∀ i, i < (startS f l).groups.length → ∃ g ∈ l, (startS f l).grp i = ⟨g, g.tokens, 0, g.at_, -1, 0, -1⟩ := fun i hi => by
    have hi' : i < l.length := by simpa [startS] using hi
    refine ⟨l[i], List.getElem_mem hi', ?_⟩
    unfold EvS.grp startS
    simp [hi']
  have hq : ∀ r, ((startS f l).rd r).q = [] ∧ ((startS f l).rd r).taken = 0 := fun r => by
    unfold EvS.rd startS
    simp only [List.getD_eq_getElem?_getD, List.getElem?_map]
    cases f.rides[r]? <;> exact ⟨rfl, rfl⟩
  refine ⟨FixS.refl _, rfl, fun i hi => ?_, fun i hi _ _ => ?_, fun i hi _ hp => ?_, fun i hi => (by cases hi), fun r i hm => ?_, fun r => ?_, fun i hi _ hp => ?_, fun v hv => (by cases hv), fun r _ => (hq r).2⟩
  · obtain ⟨g, h1, h2⟩ := hg i hi
    rw [h2]
    exact ht g h1
  · obtain ⟨g, h1, h2⟩ := hg i hi
    rw [h2]
  · obtain ⟨g, h1, h2⟩ := hg i hi
    rw [h2] at hp
    simp at hp
  · rw [(hq r).1] at hm
    cases hm
  · rw [(hq r).1]
    exact List.nodup_nil
  · obtain ⟨g, h1, h2⟩ := hg i hi
    rw [h2] at hp
    simp at hp
/-- What holds when an evening is over. -/
theorem play_wf (f : EveZ) (l : List GrpZ) (ht : ∀ g ∈ l, 0 ≤ g.tokens) (hw : ∀ g ∈ l, ∀ w ∈ g.wants, 0 ≤ w ∧ w < (f.rides.length : Int)) : WfS (startS f l) (eveS f l) none := by
  refine wf_ticks ?_ _ _ (wf_start f l ht)
  intro i hi w hm
  have hi' : i < l.length := by simpa [startS] using hi
  have hg : ((startS f l).grp i).g = l[i] := by
    unfold EvS.grp startS
    simp [hi']
  rw [hg] at hm
  have := hw _ (List.getElem_mem hi') w hm
  simpa [startS] using this
end Go.Proofs.Ytijbhcdnbaaobaa
