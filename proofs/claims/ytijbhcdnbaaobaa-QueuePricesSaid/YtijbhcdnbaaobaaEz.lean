/- An evening of layer 7, plainly: one more group, that comes behind a tick, changes nothing that was done before it. No program, no memory. -/
import Derived.Test.YtijbhcdnbaaobaaEi
namespace Go.Proofs.Ytijbhcdnbaaobaa

/-- So many ticks, whether or not all have gone home. -/
def goT : Nat → EvS → EvS
  | 0, s => s
  | n + 1, s => goT n { tickS s with now := s.now + 1 }
theorem goT_add : ∀ (m n : Nat) (s : EvS), goT (m + n) s = goT n (goT m s) := by
  intro m
  induction m with
  | zero => intro n s; rw [Nat.zero_add]; rfl
  | succ m ih =>
    intro n s
    rw [Nat.succ_add]
    exact ih n _
theorem forDue_none {p : Nat} {f : EvS → Nat → EvS} {s : EvS} (h : ∀ i, i < s.groups.length → (s.grp i).place ≠ p) : forDueS p f s = s := by
  unfold forDueS
  have key : ∀ l : List Nat, (∀ i ∈ l, i < s.groups.length) → l.foldl (fun s i => if (s.grp i).place = p ∧ (s.grp i).til = s.now then f s i else s) s = s := by
    intro l
    induction l with
    | nil => intro _; rfl
    | cons i l ih =>
      intro hl
      rw [List.foldl_cons, if_neg (fun e => h i (hl i List.mem_cons_self) e.1)]
      exact ih fun j hj => hl j (List.mem_cons_of_mem _ hj)
  exact key _ fun i hi => List.mem_range.1 hi
/-- When all have gone home, a tick only measures. -/
theorem tick_over {a s : EvS} (hw : WfS a s none) (h : ∀ i, i < s.groups.length → (s.grp i).place = 4) : tickS s = measureS s := by
  have hq : ∀ r, (s.rd r).q = [] := fun r => by
    rcases e : (s.rd r).q with _ | ⟨i, l⟩
    · rfl
    · have hm : i ∈ (s.rd r).q := by rw [e]; exact List.mem_cons_self
      obtain ⟨h1, _, h3, _⟩ := hw.que r i hm
      have := h i h1
      omega
  have hb : ∀ r, rbegS s r = s := fun r => by
    unfold rbegS
    split
    · rw [hq]
      show (if (s.rd r).b.seats < (s.rd r).b.seats then _ else _) = _
      exact if_neg (Int.lt_irrefl _)
    · rfl
  have hbs : rbegsS s = s := by
    unfold rbegsS
    generalize List.range s.rides.length = l
    induction l with
    | nil => rfl
    | cons r l ih => rw [List.foldl_cons, hb]; exact ih
  unfold tickS
  rw [forDue_none (p := 3) (fun i hi => by rw [h i hi]; omega), forDue_none (p := 0) (fun i hi => by rw [h i hi]; omega), forDue_none (p := 1) (fun i hi => by rw [h i hi]; omega), forDue_none (p := 2) (fun i hi => by rw [h i hi]; omega), hbs]
theorem over_all {s : EvS} (h : overS s = true) {i : Nat} (hi : i < s.groups.length) : (s.grp i).place = 4 := by
  unfold overS at h
  rw [List.all_eq_true] at h
  unfold EvS.grp
  rw [List.getD_eq_getElem?_getD, List.getElem?_eq_getElem hi]
  simpa using h _ (List.getElem_mem hi)
theorem goT_over {a : EvS} (hv : ValS a) : ∀ n s, WfS a s none → (∀ i, i < s.groups.length → (s.grp i).place = 4) → (goT n s).visits = s.visits := by
  intro n
  induction n with
  | zero => intro s _ _; rfl
  | succ n ih =>
    intro s hw h
    have ht := tick_over hw h
    have hwt := wf_tick hv hw
    show (goT n _).visits = _
    rw [ht] at hwt ⊢
    exact ih _ (wf_now hwt _) h
theorem goT_ticks {a : EvS} (hv : ValS a) : ∀ n s, WfS a s none → (ticksS n s).visits = (goT n s).visits := by
  intro n
  induction n with
  | zero => intro s _; rfl
  | succ n ih =>
    intro s hw
    simp only [ticksS]
    split
    · rename_i h
      exact (goT_over hv (n + 1) s hw fun i hi => over_all h hi).symm
    · exact ih _ (wf_now (wf_tick hv hw) _)
/-- What a tick adds are visits of that tick. -/
def MoreS (base : List VisZ) (n : Int) (s : EvS) : Prop := s.now = n ∧ ∃ l, s.visits = base ++ l ∧ ∀ v ∈ l, v.left = n
theorem more_same {base : List VisZ} {n : Int} {s t : EvS} (h : MoreS base n s) (h1 : t.now = s.now) (h2 : t.visits = s.visits) : MoreS base n t := by
  obtain ⟨k, l, h3, h4⟩ := h
  exact ⟨h1.trans k, l, h2.trans h3, h4⟩
theorem more_leave {base : List VisZ} {n : Int} {s : EvS} (h : MoreS base n s) (i : Nat) (on : Bool) : MoreS base n (leaveS s i on) := by
  obtain ⟨k, l, h3, h4⟩ := h
  refine ⟨k, l ++ [⟨i, (s.grp i).want, (s.grp i).goal, on, (s.grp i).came, s.now⟩], ?_, fun v hv => ?_⟩
  · show s.visits ++ [_] = _
    rw [h3, List.append_assoc]
  · rcases List.mem_append.1 hv with hv | hv
    · exact h4 v hv
    · rw [List.mem_singleton] at hv
      rw [hv]
      exact k
theorem more_stand {base : List VisZ} {n : Int} {s : EvS} (h : MoreS base n s) (i : Nat) : MoreS base n (standS s i) := more_same h (by simp [standS, EvS.modG, EvS.modR]) (by simp [standS, EvS.modG, EvS.modR])
theorem more_goOn {base : List VisZ} {n : Int} {s : EvS} (h : MoreS base n s) (i : Nat) : MoreS base n (goOnS s i) := more_same h (goOn_same s i).2 (goOn_same s i).1
theorem more_giveUp {base : List VisZ} {n : Int} {s : EvS} (h : MoreS base n s) (i : Nat) : MoreS base n (giveUpS s i) := more_goOn (more_leave h i false) i
theorem more_getOn {base : List VisZ} {n : Int} {s : EvS} (h : MoreS base n s) (i : Nat) : MoreS base n (getOnS s i) := more_same (more_leave h i true) rfl rfl
theorem more_due {base : List VisZ} {n : Int} {f : EvS → Nat → EvS} (hf : ∀ s i, MoreS base n s → MoreS base n (f s i)) (p : Nat) {s : EvS} (h : MoreS base n s) : MoreS base n (forDueS p f s) := by
  unfold forDueS
  generalize List.range s.groups.length = l
  induction l generalizing s with
  | nil => exact h
  | cons i l ih =>
    rw [List.foldl_cons]
    refine ih ?_
    split
    · exact hf _ _ h
    · exact h
theorem more_fill {base : List VisZ} {n : Int} (r : Nat) : ∀ (l : List Nat) (left : Int) (s : EvS), MoreS base n s → MoreS base n (fillS r l left s).1 := by
  intro l
  induction l with
  | nil => intro left s h; exact h
  | cons i l ih =>
    intro left s h
    simp only [fillS]
    split
    · exact ih _ _ (more_giveUp h i)
    · split
      · exact ih _ _ (more_getOn h i)
      · split
        · exact h
        · exact ih _ _ h
theorem more_rbeg {base : List VisZ} {n : Int} {s : EvS} (h : MoreS base n s) (r : Nat) : MoreS base n (rbegS s r) := by
  unfold rbegS
  split
  · have hw := more_fill r (s.rd r).q (s.rd r).b.seats s h
    generalize fillS r (s.rd r).q (s.rd r).b.seats s = t at hw
    obtain ⟨t, left⟩ := t
    dsimp only at hw ⊢
    split
    · exact more_same hw rfl rfl
    · exact hw
  · exact h
theorem more_rbegs {base : List VisZ} {n : Int} {s : EvS} (h : MoreS base n s) : MoreS base n (rbegsS s) := by
  unfold rbegsS
  generalize List.range s.rides.length = l
  induction l generalizing s with
  | nil => exact h
  | cons r l ih => exact ih (more_rbeg h r)
theorem more_tick (s : EvS) : MoreS s.visits s.now (tickS s) := by
  have h0 : MoreS s.visits s.now s := ⟨rfl, [], by simp, fun v hv => by cases hv⟩
  have h1 : MoreS s.visits s.now (forDueS 3 goOnS s) := more_due (fun s i h => more_goOn h i) 3 h0
  have h2 : MoreS s.visits s.now (forDueS 0 goOnS (forDueS 3 goOnS s)) := more_due (fun s i h => more_goOn h i) 0 h1
  have h3 : MoreS s.visits s.now (forDueS 1 standS (forDueS 0 goOnS (forDueS 3 goOnS s))) := more_due (fun s i h => more_stand h i) 1 h2
  have h4 : MoreS s.visits s.now (forDueS 2 giveUpS (forDueS 1 standS (forDueS 0 goOnS (forDueS 3 goOnS s)))) := more_due (fun s i h => more_giveUp h i) 2 h3
  have hb := more_rbegs h4
  unfold tickS
  clear h1 h2 h3 h4
  generalize rbegsS (forDueS 2 giveUpS (forDueS 1 standS (forDueS 0 goOnS (forDueS 3 goOnS s)))) = t at hb ⊢
  exact more_same hb rfl rfl
theorem goT_more : ∀ (n : Nat) (s : EvS), (goT n s).now = s.now + n ∧ ∃ l, (goT n s).visits = s.visits ++ l ∧ ∀ v ∈ l, s.now ≤ v.left ∧ v.left < s.now + n := by
  intro n
  induction n with
  | zero => intro s; exact ⟨by show s.now = _; omega, [], by simp [goT], fun v hv => by cases hv⟩
  | succ n ih =>
    intro s
    obtain ⟨h1, l1, h2, h3⟩ := more_tick s
    have e0 : goT (n + 1) s = goT n { tickS s with now := s.now + 1 } := rfl
    rw [e0]
    generalize tickS s = t at h1 h2 ⊢
    obtain ⟨k1, l2, k2, k3⟩ := ih { t with now := s.now + 1 }
    have e1 : ({ t with now := s.now + 1 } : EvS).now = s.now + 1 := rfl
    have e2 : ({ t with now := s.now + 1 } : EvS).visits = t.visits := rfl
    rw [e1] at k1 k3
    rw [e2] at k2
    refine ⟨?_, l1 ++ l2, ?_, fun v hv => ?_⟩
    · rw [k1]
      omega
    · rw [k2, h2, List.append_assoc]
    · rcases List.mem_append.1 hv with hv | hv
      · have := h3 v hv
        omega
      · have := k3 v hv
        omega
/-- A state with one more group behind the others. -/
def extS (g : GpS) (s : EvS) : EvS := { s with groups := s.groups ++ [g] }
theorem ext_grp (g : GpS) (s : EvS) {i : Nat} (hi : i < s.groups.length) : (extS g s).grp i = s.grp i := by
  unfold extS EvS.grp
  simp only [List.getD_eq_getElem?_getD]
  rw [List.getElem?_append_left hi]
theorem ext_last (g : GpS) (s : EvS) : (extS g s).grp s.groups.length = g := by
  unfold extS EvS.grp
  simp
theorem ext_rd (g : GpS) (s : EvS) (r : Nat) : (extS g s).rd r = s.rd r := rfl
theorem ext_modG (g : GpS) (s : EvS) {i : Nat} (hi : i < s.groups.length) (f : GpS → GpS) : (extS g s).modG i f = extS g (s.modG i f) := by
  have : (s.groups ++ [g]).modify i f = s.groups.modify i f ++ [g] := by
    refine List.ext_getElem? fun k => ?_
    rw [List.getElem?_modify]
    by_cases hk : k < s.groups.length
    · rw [List.getElem?_append_left hk, List.getElem?_append_left (by simpa using hk), List.getElem?_modify]
    · rw [List.getElem?_append_right (by omega), List.getElem?_append_right (by simpa using hk)]
      have : ¬ i = k := by omega
      simp [this]
  unfold EvS.modG extS
  dsimp only
  rw [this]
theorem ext_modR (g : GpS) (s : EvS) (r : Nat) (f : RdS → RdS) : (extS g s).modR r f = extS g (s.modR r f) := rfl
theorem ext_stand (g : GpS) (s : EvS) {i : Nat} (hi : i < s.groups.length) : standS (extS g s) i = extS g (standS s i) := by
  unfold standS
  rw [ext_grp g s hi, ext_modR]
  exact ext_modG g (s.modR _ _) hi _
theorem ext_goOn (g : GpS) (s : EvS) {i : Nat} (hi : i < s.groups.length) : goOnS (extS g s) i = extS g (goOnS s i) := by
  have hl : i < (s.modG i fun g => { g with want := g.want + 1 }).groups.length := by rw [len_modG]; exact hi
  unfold goOnS
  dsimp only
  rw [ext_modG g s hi, ext_grp g _ hl, ext_modG g _ hl, ext_modG g _ hl, ext_stand g _ hl]
  show (if _ then extS g _ else if s.walk = 0 then extS g _ else extS g _) = _
  split
  · rfl
  · split <;> rfl
theorem ext_leave (g : GpS) (s : EvS) {i : Nat} (hi : i < s.groups.length) (on : Bool) : leaveS (extS g s) i on = extS g (leaveS s i on) := by
  unfold leaveS
  rw [ext_grp g s hi]
  rfl
theorem ext_giveUp (g : GpS) (s : EvS) {i : Nat} (hi : i < s.groups.length) : giveUpS (extS g s) i = extS g (giveUpS s i) := by
  unfold giveUpS
  rw [ext_leave g s hi]
  exact ext_goOn g (leaveS s i false) hi
theorem ext_cost (g : GpS) (s : EvS) {i : Nat} (hi : i < s.groups.length) (r : Nat) : costS (extS g s) i r = costS s i r := by
  unfold costS
  rw [ext_grp g s hi, ext_rd]
theorem ext_getOn (g : GpS) (s : EvS) {i : Nat} (hi : i < s.groups.length) : getOnS (extS g s) i = extS g (getOnS s i) := by
  unfold getOnS
  dsimp only
  rw [ext_leave g s hi, ext_grp g s hi, ext_cost g s hi, ext_rd, ext_modG g (leaveS s i true) hi]
  rfl
theorem len_stand (s : EvS) (i : Nat) : (standS s i).groups.length = s.groups.length := by simp [standS, EvS.modG, EvS.modR]
theorem len_goOn (s : EvS) (i : Nat) : (goOnS s i).groups.length = s.groups.length := by
  unfold goOnS
  dsimp only
  split
  · simp [EvS.modG]
  · split
    · rw [len_stand]; simp [EvS.modG]
    · simp [EvS.modG]
theorem len_giveUp (s : EvS) (i : Nat) : (giveUpS s i).groups.length = s.groups.length := len_goOn (leaveS s i false) i
theorem len_getOn (s : EvS) (i : Nat) : (getOnS s i).groups.length = s.groups.length := len_modG (leaveS s i true) i _
theorem ext_due {g : GpS} {p : Nat} {f : EvS → Nat → EvS} (hf : ∀ s i, i < s.groups.length → f (extS g s) i = extS g (f s i)) (hl : ∀ s i, (f s i).groups.length = s.groups.length) (hn : ∀ s i, (f s i).now = s.now) (s : EvS) (hg : ¬ (g.place = p ∧ g.til = s.now)) : forDueS p f (extS g s) = extS g (forDueS p f s) := by
  have key : ∀ (l : List Nat) (s : EvS), (∀ i ∈ l, i < s.groups.length) → l.foldl (fun s i => if (s.grp i).place = p ∧ (s.grp i).til = s.now then f s i else s) (extS g s) = extS g (l.foldl (fun s i => if (s.grp i).place = p ∧ (s.grp i).til = s.now then f s i else s) s) ∧ (l.foldl (fun s i => if (s.grp i).place = p ∧ (s.grp i).til = s.now then f s i else s) s).groups.length = s.groups.length ∧ (l.foldl (fun s i => if (s.grp i).place = p ∧ (s.grp i).til = s.now then f s i else s) s).now = s.now := by
    intro l
    induction l with
    | nil => intro s _; exact ⟨rfl, rfl, rfl⟩
    | cons i l ih =>
      intro s hm
      have hi := hm i List.mem_cons_self
      rw [List.foldl_cons, List.foldl_cons, ext_grp g s hi]
      show _ = _ ∧ _
      have hnow : (extS g s).now = s.now := rfl
      rw [hnow]
      split
      · rw [hf s i hi]
        obtain ⟨h1, h2, h3⟩ := ih (f s i) fun j hj => by rw [hl]; exact hm j (List.mem_cons_of_mem _ hj)
        exact ⟨h1, h2.trans (hl s i), h3.trans (hn s i)⟩
      · exact ih s fun j hj => hm j (List.mem_cons_of_mem _ hj)
  obtain ⟨h1, h2, h3⟩ := key (List.range s.groups.length) s fun i hi => List.mem_range.1 hi
  unfold forDueS
  have hr : List.range (extS g s).groups.length = List.range s.groups.length ++ [s.groups.length] := by
    show List.range (s.groups ++ [g]).length = _
    rw [List.length_append, List.length_singleton, List.range_succ]
  rw [hr, List.foldl_append, h1]
  generalize List.foldl (fun s i => if (s.grp i).place = p ∧ (s.grp i).til = s.now then f s i else s) s (List.range s.groups.length) = t at h2 h3 ⊢
  rw [List.foldl_cons, List.foldl_nil, if_neg]
  rw [← h2, ext_last]
  show ¬ (g.place = p ∧ g.til = t.now)
  rw [h3]
  exact hg
theorem ext_fill (g : GpS) (r : Nat) : ∀ (l : List Nat) (left : Int) (s : EvS), (∀ i ∈ l, i < s.groups.length) → fillS r l left (extS g s) = (extS g (fillS r l left s).1, (fillS r l left s).2) := by
  intro l
  induction l with
  | nil => intro left s _; rfl
  | cons i l ih =>
    intro left s hm
    have hi := hm i List.mem_cons_self
    have hr : ∀ t : EvS, t.groups.length = s.groups.length → ∀ j ∈ l, j < t.groups.length := fun t ht j hj => by rw [ht]; exact hm j (List.mem_cons_of_mem _ hj)
    simp only [fillS]
    rw [ext_grp g s hi, ext_rd, ext_cost g s hi]
    split
    · rw [ext_giveUp g s hi]
      exact ih _ _ (hr _ (len_giveUp s i))
    · split
      · rw [ext_getOn g s hi]
        exact ih _ _ (hr _ (len_getOn s i))
      · split
        · rfl
        · exact ih _ _ (hr s rfl)
theorem ext_rbeg {a : EvS} (g : GpS) {s : EvS} (hw : WfS a s none) (r : Nat) : rbegS (extS g s) r = extS g (rbegS s r) := by
  unfold rbegS
  rw [ext_rd]
  have hnow : (extS g s).now = s.now := rfl
  rw [hnow]
  split
  · rw [ext_fill g r _ _ s fun i hi => (hw.que r i hi).1]
    generalize fillS r (s.rd r).q (s.rd r).b.seats s = t
    obtain ⟨t, left⟩ := t
    dsimp only
    split <;> rfl
  · rfl
theorem ext_rbegs {a : EvS} (g : GpS) {s : EvS} (hv : ValS a) (hw : WfS a s none) : rbegsS (extS g s) = extS g (rbegsS s) := by
  unfold rbegsS
  have hr : (extS g s).rides.length = s.rides.length := rfl
  rw [hr]
  generalize List.range s.rides.length = l
  induction l generalizing s with
  | nil => rfl
  | cons r l ih =>
    rw [List.foldl_cons, List.foldl_cons, ext_rbeg g hw]
    exact ih (wf_rbeg hv r hw) rfl
theorem ext_guests {a : EvS} (g : GpS) {s : EvS} (hw : WfS a s none) (r : Nat) : guestsS (extS g s) (s.rd r).q = guestsS s (s.rd r).q := by
  have hm : ∀ i ∈ (s.rd r).q, i < s.groups.length := fun i hi => (hw.que r i hi).1
  unfold guestsS
  generalize (s.rd r).q = l at hm
  generalize (0 : Int) = n
  induction l generalizing n with
  | nil => rfl
  | cons i l ih =>
    rw [List.foldl_cons, List.foldl_cons, ext_grp g s (hm i List.mem_cons_self)]
    exact ih (fun j hj => hm j (List.mem_cons_of_mem _ hj)) _
theorem ext_measure {a : EvS} (g : GpS) {s : EvS} (hw : WfS a s none) : measureS (extS g s) = extS g (measureS s) := by
  have : (s.rides.map fun x => { x with longest := max x.longest (guestsS (extS g s) x.q) }) = s.rides.map fun x => { x with longest := max x.longest (guestsS s x.q) } := by
    refine List.map_congr_left fun x hx => ?_
    obtain ⟨r, hr, rfl⟩ := List.getElem_of_mem hx
    have e : s.rd r = s.rides[r] := by unfold EvS.rd; rw [List.getD_eq_getElem?_getD, List.getElem?_eq_getElem hr]; rfl
    rw [← e, ext_guests g hw]
  unfold measureS
  show ({ extS g s with rides := s.rides.map _ } : EvS) = _
  rw [this]
  rfl
theorem ext_tick {a : EvS} (g : GpS) {s : EvS} (hv : ValS a) (hb : BothS a s) (h0 : g.place = 0) (ht : s.now < g.til) : tickS (extS g s) = extS g (tickS s) := by
  have ngo : ∀ s i, (goOnS s i).now = s.now := fun s i => (goOn_same s i).2
  have nst : ∀ s i, (standS s i).now = s.now := fun s i => rfl
  have ngu : ∀ s i, (giveUpS s i).now = s.now := fun s i => (goOn_same (leaveS s i false) i).2
  have k3 := both_forDue (p := 3) (f := goOnS) (fun s i h hi hpl ht => both_go hv h hi (.inr hpl) ht) hb
  have k0 := both_forDue (p := 0) (f := goOnS) (fun s i h hi hpl ht => both_go hv h hi (.inl hpl) ht) k3
  have k1 := both_forDue (p := 1) (f := standS) (fun s i h hi hpl ht => both_st hv h hi hpl ht) k0
  have k2 := both_forDue (p := 2) (f := giveUpS) (fun s i h hi hpl ht => both_gu hv h hi hpl) k1
  have n3 : (forDueS 3 goOnS s).now = s.now := now_forDue ngo s
  have n0 : (forDueS 0 goOnS (forDueS 3 goOnS s)).now = s.now := (now_forDue ngo _).trans n3
  unfold tickS
  rw [ext_due (p := 3) (fun s i hi => ext_goOn g s hi) len_goOn ngo s (by omega), ext_due (p := 0) (fun s i hi => ext_goOn g s hi) len_goOn ngo _ (by rw [n3]; omega), ext_due (p := 1) (fun s i hi => ext_stand g s hi) len_stand nst _ (by omega), ext_due (p := 2) (fun s i hi => ext_giveUp g s hi) len_giveUp ngu _ (by omega), ext_rbegs g hv k2.1, ext_measure g (wf_rbegs hv k2.1)]
theorem ext_goT {a : EvS} (g : GpS) (hv : ValS a) (h0 : g.place = 0) : ∀ (n : Nat) (s : EvS), BothS a s → s.now + n ≤ g.til → goT n (extS g s) = extS g (goT n s) := by
  intro n
  induction n with
  | zero => intro s _ _; rfl
  | succ n ih =>
    intro s hb ht
    have hbt := both_tick hv hb
    have hn := now_tick s
    have he := ext_tick g hv hb h0 (by omega)
    have e0 : goT (n + 1) (extS g s) = goT n { tickS (extS g s) with now := s.now + 1 } := rfl
    have e1 : goT (n + 1) s = goT n { tickS s with now := s.now + 1 } := rfl
    rw [e0, e1, he]
    generalize tickS s = t at hbt hn ⊢
    exact ih { t with now := s.now + 1 } ⟨wf_now hbt.1 _, his_now hbt.2 _ (by omega)⟩ (by show s.now + 1 + (n : Int) ≤ _; omega)
/-- Two lists of visits that agree up to a tick. -/
def LaterOk (t : Int) (L L' : List VisZ) : Prop := ∃ P S S', L = P ++ S ∧ L' = P ++ S' ∧ (∀ v ∈ P, v.left < t) ∧ (∀ v ∈ S, t ≤ v.left) ∧ (∀ v ∈ S', t ≤ v.left)
theorem split_left (t : Int) : ∀ L : List VisZ, L.Pairwise leV → ∃ S, L = L.filter (fun v => decide (v.left < t)) ++ S ∧ ∀ v ∈ S, t ≤ v.left := by
  intro L
  induction L with
  | nil => intro _; exact ⟨[], rfl, fun v hv => by cases hv⟩
  | cons x L ih =>
    intro h
    rw [List.pairwise_cons] at h
    by_cases hx : x.left < t
    · obtain ⟨S, h1, h2⟩ := ih h.2
      refine ⟨S, ?_, h2⟩
      rw [List.filter_cons_of_pos (by simpa using hx), List.cons_append, ← h1]
    · have hall : ∀ v ∈ x :: L, t ≤ v.left := fun v hv => by
        rcases List.mem_cons.1 hv with rfl | hv
        · omega
        · have := h.1 v hv
          unfold leV at this
          omega
      refine ⟨x :: L, ?_, hall⟩
      rw [List.filter_eq_nil_iff.2 (fun v hv => by have := hall v hv; simp; omega)]
      rfl
theorem val_start (f : EveZ) (l : List GrpZ) (hw : ∀ g ∈ l, ∀ w ∈ g.wants, 0 ≤ w ∧ w < (f.rides.length : Int)) : ValS (startS f l) := fun i hi w hm' => by
  have hl : (startS f l).groups.length = l.length := by simp [startS]
  have hm : l.getD i default ∈ l := by
    rw [List.getD_eq_getElem?_getD, List.getElem?_eq_getElem (by omega)]
    exact List.getElem_mem _
  rw [start_grp f l (by omega)] at hm'
  have := hw _ hm w hm'
  simpa [startS] using this
/-- What an evening's visits before a tick are. -/
theorem eve_before (f : EveZ) (l : List GrpZ) (ht : ∀ g ∈ l, 0 ≤ g.tokens) (hw : ∀ g ∈ l, ∀ w ∈ g.wants, 0 ≤ w ∧ w < (f.rides.length : Int)) (k : Nat) (hk : k ≤ 4001) : (eveS f l).visits.filter (fun v => decide (v.left < (k : Int))) = (goT k (startS f l)).visits := by
  unfold eveS
  generalize 4001 = z at hk ⊢
  rw [goT_ticks (val_start f l hw) z _ (wf_start f l ht)]
  obtain ⟨d, rfl⟩ : ∃ d, z = k + d := ⟨z - k, by omega⟩
  rw [goT_add]
  obtain ⟨h1, l1, h2, h3⟩ := goT_more k (startS f l)
  obtain ⟨k1, l2, k2, k3⟩ := goT_more d (goT k (startS f l))
  rw [k2, List.filter_append]
  have n0 : (startS f l).now = 0 := rfl
  rw [List.filter_eq_self.2 (fun v hv => by
    rw [h2] at hv
    have : (startS f l).visits = [] := rfl
    rw [this, List.nil_append] at hv
    have := h3 v hv
    simp; omega), List.filter_eq_nil_iff.2 (fun v hv => by
    have := k3 v hv
    simp; omega), List.append_nil]
theorem later_ok (f : EveZ) (l : List GrpZ) (m : GrpZ) (h0 : 0 ≤ f.walk) (hb : ∀ b ∈ f.rides, 0 ≤ b.cycle) (ht : ∀ g ∈ l ++ [m], 0 ≤ g.tokens) (hw : ∀ g ∈ l ++ [m], ∀ w ∈ g.wants, 0 ≤ w ∧ w < (f.rides.length : Int)) (hat : 0 ≤ m.at_ ∧ m.at_ ≤ 2000) (L L' : List VisZ) (hp : L.Perm (eveS f l).visits) (hs : L.Pairwise leV) (hp' : L'.Perm (eveS f (l ++ [m])).visits) (hs' : L'.Pairwise leV) : LaterOk m.at_ L L' := by
  have htl : ∀ g ∈ l, 0 ≤ g.tokens := fun g hg => ht g (List.mem_append_left _ hg)
  have hwl : ∀ g ∈ l, ∀ w ∈ g.wants, 0 ≤ w ∧ w < (f.rides.length : Int) := fun g hg => hw g (List.mem_append_left _ hg)
  obtain ⟨k, hk⟩ := Int.eq_ofNat_of_zero_le hat.1
  have e1 := eve_before f l htl hwl k (by omega)
  have e2 := eve_before f (l ++ [m]) ht hw k (by omega)
  have hx : startS f (l ++ [m]) = extS ⟨m, m.tokens, 0, m.at_, -1, 0, -1⟩ (startS f l) := by
    unfold startS extS
    simp
  have e3 : (goT k (startS f (l ++ [m]))).visits = (goT k (startS f l)).visits := by
    rw [hx, ext_goT ⟨m, m.tokens, 0, m.at_, -1, 0, -1⟩ (val_start f l hwl) rfl k (startS f l) ⟨wf_start f l htl, his_start f l⟩ (by show (0 : Int) + k ≤ m.at_; omega)]
    rfl
  obtain ⟨S, a1, a2⟩ := split_left m.at_ L hs
  obtain ⟨S', b1, b2⟩ := split_left m.at_ L' hs'
  have hpf : (L.filter fun v => decide (v.left < m.at_)).Perm (L'.filter fun v => decide (v.left < m.at_)) := by
    have p1 := hp.filter (fun v => decide (v.left < m.at_))
    have p2 := hp'.filter (fun v => decide (v.left < m.at_))
    rw [hk] at p1 p2 ⊢
    rw [e1] at p1
    rw [e2, e3] at p2
    exact p1.trans p2.symm
  have hhis := play_his f l htl hwl
  have hlen : (startS f l).groups.length = l.length := by simp [startS]
  have hcy : ∀ r, 0 ≤ cycS (startS f l) r := fun r => by
    by_cases hr : r < f.rides.length
    · unfold cycS
      rw [start_rd f l hr]
      refine hb _ ?_
      rw [List.getD_eq_getElem?_getD, List.getElem?_eq_getElem hr]
      exact List.getElem_mem hr
    · unfold cycS EvS.rd
      rw [List.getD_eq_getElem?_getD, List.getElem?_eq_none (by simp [startS]; omega)]
      decide
  have huniq : ∀ v ∈ L, ∀ w ∈ L, leV v w → leV w v → v = w := fun v hv w hw' h1 h2 => by
    have hvs := hp.mem_iff.1 hv
    have hws := hp.mem_iff.1 hw'
    have hg : v.group < (startS f l).groups.length := by
      have := (hhis.1.vis v hvs).1
      rw [(fix_len hhis.1.fix).1] at this
      exact this
    have hc := chain_next (show 0 ≤ (startS f l).walk from h0) hcy _ _ _ (hhis.2 v.group hg).chain
    unfold leV at h1 h2
    refine next_one hc v (List.mem_filter.2 ⟨hvs, by simp⟩) w (List.mem_filter.2 ⟨hws, by simp; omega⟩) (by omega)
  have heq : (L.filter fun v => decide (v.left < m.at_)) = L'.filter fun v => decide (v.left < m.at_) := by
    refine hpf.eq_of_pairwise (le := leV) (fun v w hv hw' h1 h2 => ?_) (hs.sublist List.filter_sublist) (hs'.sublist List.filter_sublist)
    exact huniq v (List.mem_filter.1 hv).1 w (List.mem_filter.1 (hpf.mem_iff.2 hw')).1 h1 h2
  refine ⟨_, S, S', a1, by rw [heq]; exact b1, fun v hv => ?_, a2, b2⟩
  have := (List.mem_filter.1 hv).2
  simpa using this
end Go.Proofs.Ytijbhcdnbaaobaa
