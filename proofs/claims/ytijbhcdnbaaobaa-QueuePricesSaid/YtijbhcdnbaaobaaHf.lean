/- An evening of layer 7, plainly: nobody stands longer than they have patience, in a whole evening. No program, no memory. -/
import Derived.Test.YtijbhcdnbaaobaaHa
/- An evening of layer 7, plainly: the visits of a group, one behind the other. No program, no memory. -/
namespace Go.Proofs.Ytijbhcdnbaaobaa

/-- The visits of a group, in the order in which they were recorded. -/
def visOf (s : EvS) (i : Nat) : List VisZ := s.visits.filter fun v => decide (v.group = i)
/-- When a group is done with what a visit says. -/
def doneV (cyc : Nat → Int) (v : VisZ) : Int := v.left + (if v.on then cyc v.ride else 0)
def lastV (cyc : Nat → Int) (t : Int) (l : List VisZ) : Int := l.foldl (fun _ v => doneV cyc v) t
theorem lastV_snoc (cyc : Nat → Int) (t : Int) (l : List VisZ) (v : VisZ) : lastV cyc t (l ++ [v]) = doneV cyc v := by simp [lastV]
/-- Each visit is of the next wish, and begins a walk behind the one before it. -/
def chainV (cyc : Nat → Int) (walk : Int) (g : GrpZ) : Int → Int → List VisZ → Prop
  | _, _, [] => True
  | t, n, v :: l => (v.want = n ∧ v.came = t + walk ∧ v.came ≤ v.left ∧ v.ride = (g.wants.getD v.want.toNat 0).toNat) ∧ chainV cyc walk g (doneV cyc v) (n + 1) l
theorem chain_snoc (cyc : Nat → Int) (walk : Int) (g : GrpZ) (v : VisZ) : ∀ (l : List VisZ) (t n : Int), chainV cyc walk g t n (l ++ [v]) ↔ chainV cyc walk g t n l ∧ (v.want = n + (l.length : Int) ∧ v.came = lastV cyc t l + walk ∧ v.came ≤ v.left ∧ v.ride = (g.wants.getD v.want.toNat 0).toNat) := by
  intro l
  induction l with
  | nil => intro t n; simp [chainV, lastV]
  | cons x l ih =>
    intro t n
    simp only [List.cons_append, chainV, ih, List.length_cons]
    have e : lastV cyc t (x :: l) = lastV cyc (doneV cyc x) l := rfl
    rw [e, show n + ((l.length + 1 : Nat) : Int) = n + 1 + (l.length : Int) by omega]
    constructor
    · rintro ⟨h1, h2, h3⟩
      exact ⟨⟨h1, h2⟩, h3⟩
    · rintro ⟨⟨h1, h2⟩, h3⟩
      exact ⟨h1, h2, h3⟩
def cycS (s : EvS) (r : Nat) : Int := (s.rd r).b.cycle
theorem cyc_fix {a s : EvS} (h : FixS a s) : cycS s = cycS a := by
  funext r
  unfold cycS
  rw [fix_rd h]
/-- What the visits of a group have to do with where it is; on: it is on its way from one thing to the next. -/
structure HisG (a s : EvS) (i : Nat) (on : Bool) : Prop where
  chain : chainV (cycS a) a.walk (a.grp i).g (a.grp i).g.at_ 0 (visOf s i)
  way : on = true → lastV (cycS a) (a.grp i).g.at_ (visOf s i) = s.now ∧ (s.grp i).want + 1 = ((visOf s i).length : Int)
  out : on = false → (s.grp i).place = 0 → visOf s i = [] ∧ (s.grp i).til = (a.grp i).g.at_
  walk : on = false → (s.grp i).place = 1 → (s.grp i).want = ((visOf s i).length : Int) ∧ (s.grp i).til = lastV (cycS a) (a.grp i).g.at_ (visOf s i) + a.walk
  stand : on = false → (s.grp i).place = 2 → (s.grp i).want = ((visOf s i).length : Int) ∧ (s.grp i).came = lastV (cycS a) (a.grp i).g.at_ (visOf s i) + a.walk ∧ (s.grp i).came ≤ s.now ∧ (s.grp i).til = (s.grp i).came + (a.grp i).g.patience + 1
  ride : on = false → (s.grp i).place = 3 → (s.grp i).want + 1 = ((visOf s i).length : Int) ∧ (s.grp i).til = lastV (cycS a) (a.grp i).g.at_ (visOf s i)
  gone : on = false → (s.grp i).place = 4 → ((a.grp i).g.wants.length : Int) = ((visOf s i).length : Int) ∧ (s.grp i).home = lastV (cycS a) (a.grp i).g.at_ (visOf s i)
  home : (s.grp i).place ≠ 4 → (s.grp i).home = -1
  few : (s.grp i).place ≤ 4
theorem stand_grp (s : EvS) {i : Nat} (hi : i < s.groups.length) : (standS s i).grp i = { s.grp i with place := 2, came := s.now, til := s.now + (s.grp i).g.patience + 1 } := by
  unfold standS
  refine (grp_modG _ i i _ (show i < (s.modR _ _).groups.length from hi)).trans ?_
  rw [if_pos rfl]
  rfl
theorem his_stand {a s : EvS} {i : Nat} (hc : chainV (cycS a) a.walk (a.grp i).g (a.grp i).g.at_ 0 (visOf s i)) (hf : FixS a s) (hi : i < s.groups.length) (hw : (s.grp i).want = ((visOf s i).length : Int)) (hl : s.now = lastV (cycS a) (a.grp i).g.at_ (visOf s i) + a.walk) (hh : (s.grp i).home = -1) : HisG a (standS s i) i false := by
  have hg := stand_grp s hi
  have hv : visOf (standS s i) i = visOf s i := rfl
  have hnow : (standS s i).now = s.now := rfl
  refine ⟨by rw [hv]; exact hc, (fun e => by cases e), fun _ e => ?_, fun _ e => ?_, fun _ _ => ?_, fun _ e => ?_, fun _ e => ?_, fun _ => ?_, ?_⟩
  · rw [hg] at e; cases e
  · rw [hg] at e; cases e
  · rw [hg, hv, hnow]
    exact ⟨hw, hl, Int.le_refl _, by dsimp only; rw [fix_grp hf i]⟩
  · rw [hg] at e; cases e
  · rw [hg] at e; cases e
  · rw [hg]; exact hh
  · rw [hg]; show 2 ≤ 4; omega
theorem his_goOn {a s : EvS} {i : Nat} (h : HisG a s i true) (hf : FixS a s) (hi : i < s.groups.length) (hp : (s.grp i).place ≠ 4) : HisG a (goOnS s i) i false := by
  obtain ⟨h1, h2⟩ := h.way rfl
  have hh := h.home hp
  obtain ⟨t, ht⟩ : ∃ t, t = s.modG i fun g => { g with want := g.want + 1 } := ⟨_, rfl⟩
  have tg : t.grp i = { s.grp i with want := (s.grp i).want + 1 } := by rw [ht, grp_modG s i i _ hi, if_pos rfl]
  have tl : i < t.groups.length := by rw [ht, len_modG]; exact hi
  have tv : visOf t i = visOf s i := by rw [ht]; rfl
  have tn : t.now = s.now := by rw [ht]; rfl
  have tf : FixS a t := by rw [ht]; exact hf.trans (fix_modG _ _ _ (fun _ => rfl))
  unfold goOnS
  dsimp only
  rw [← ht]
  split
  · rename_i e
    rw [tg] at e
    dsimp only at e
    rw [fix_grp hf i] at e
    have hg : (t.modG i fun g => { g with place := 4, home := s.now }).grp i = { t.grp i with place := 4, home := s.now } := by rw [grp_modG t i i _ tl, if_pos rfl]
    refine ⟨by rw [show visOf (t.modG i _) i = visOf t i from rfl, tv]; exact h.chain, (fun e => by cases e), fun _ e => ?_, fun _ e => ?_, fun _ e => ?_, fun _ e => ?_, fun _ _ => ?_, fun e => ?_, ?_⟩
    · rw [hg] at e; cases e
    · rw [hg] at e; cases e
    · rw [hg] at e; cases e
    · rw [hg] at e; cases e
    · rw [hg, show visOf (t.modG i _) i = visOf t i from rfl, tv]
      exact ⟨by omega, h1.symm⟩
    · rw [hg] at e; exact absurd rfl e
    · rw [hg]; show 4 ≤ 4; omega
  · split
    · rename_i hw0
      refine his_stand (by rw [tv]; exact h.chain) tf tl (by rw [tg, tv]; exact h2) ?_ (by rw [tg]; exact hh)
      rw [tn, tv, ← hf.walk, hw0, h1]
      omega
    · have hg : (t.modG i fun g => { g with place := 1, til := s.now + s.walk }).grp i = { t.grp i with place := 1, til := s.now + s.walk } := by rw [grp_modG t i i _ tl, if_pos rfl]
      refine ⟨by rw [show visOf (t.modG i _) i = visOf t i from rfl, tv]; exact h.chain, (fun e => by cases e), fun _ e => ?_, fun _ _ => ?_, fun _ e => ?_, fun _ e => ?_, fun _ e => ?_, fun _ => ?_, ?_⟩
      · rw [hg] at e; cases e
      · rw [hg, show visOf (t.modG i _) i = visOf t i from rfl, tv, tg]
        exact ⟨h2, by dsimp only; rw [h1, hf.walk]⟩
      · rw [hg] at e; cases e
      · rw [hg] at e; cases e
      · rw [hg] at e; cases e
      · rw [hg, tg]; exact hh
      · rw [hg]; show 1 ≤ 4; omega
/-- Nothing turns for the others. -/
theorem his_same {a s t : EvS} {j : Nat} {b : Bool} (h : HisG a s j b) (hg : t.grp j = s.grp j) (hv : visOf t j = visOf s j) (hn : t.now = s.now) : HisG a t j b := by
  obtain ⟨h0, h1, h2, h3, h4, h5, h6, h7, h8⟩ := h
  exact ⟨by rw [hv]; exact h0, by rw [hv, hg, hn]; exact h1, by rw [hv, hg]; exact h2, by rw [hv, hg]; exact h3, by rw [hv, hg, hn]; exact h4, by rw [hv, hg]; exact h5, by rw [hv, hg]; exact h6, by rw [hg]; exact h7, by rw [hg]; exact h8⟩
theorem vis_leave (s : EvS) (i j : Nat) (on : Bool) : visOf (leaveS s i on) j = if j = i then visOf s i ++ [⟨i, (s.grp i).want, (s.grp i).goal, on, (s.grp i).came, s.now⟩] else visOf s j := by
  show List.filter _ (s.visits ++ [_]) = _
  rw [List.filter_append]
  by_cases h : j = i
  · subst h
    rw [if_pos rfl]
    simp [visOf]
  · rw [if_neg h]
    simp [visOf, Ne.symm h]
theorem his_leave {a s : EvS} {i : Nat} {on : Bool} (h : HisG a s i false) (hf : FixS a s) (hp : (s.grp i).place = 2) :
    chainV (cycS a) a.walk (a.grp i).g (a.grp i).g.at_ 0 (visOf (leaveS s i on) i) ∧ lastV (cycS a) (a.grp i).g.at_ (visOf (leaveS s i on) i) = s.now + (if on then cycS s (s.grp i).goal else 0) ∧ (s.grp i).want + 1 = ((visOf (leaveS s i on) i).length : Int) := by
  obtain ⟨h1, h2, h3, _⟩ := h.stand rfl hp
  rw [vis_leave, if_pos rfl, chain_snoc, lastV_snoc]
  refine ⟨⟨h.chain, ?_, h2, h3, ?_⟩, ?_, ?_⟩
  · show (s.grp i).want = _
    omega
  · show (s.grp i).goal = _
    unfold GpS.goal
    rw [fix_grp hf i]
  · unfold doneV
    dsimp only
    rw [cyc_fix hf]
  · rw [List.length_append, List.length_singleton]
    omega
theorem his_giveUp {a s : EvS} {i : Nat} (h : HisG a s i false) (hf : FixS a s) (hi : i < s.groups.length) (hp : (s.grp i).place = 2) : HisG a (giveUpS s i) i false := by
  obtain ⟨h1, h2, h3⟩ := his_leave (on := false) h hf hp
  have hh := h.home (by omega)
  unfold giveUpS
  refine his_goOn (s := leaveS s i false) ⟨h1, fun _ => ⟨by rw [h2]; show _ = s.now; simp, h3⟩, (fun e => by cases e), (fun e => by cases e), (fun e => by cases e), (fun e => by cases e), (fun e => by cases e), fun _ => hh, ?_⟩ (hf.trans (keep_leave s i false).1) hi ?_
  · show (s.grp i).place ≤ 4; omega
  · show (s.grp i).place ≠ 4; omega
theorem his_getOn {a s : EvS} {i : Nat} (h : HisG a s i false) (hf : FixS a s) (hi : i < s.groups.length) (hp : (s.grp i).place = 2) : HisG a (getOnS s i) i false := by
  obtain ⟨h1, h2, h3⟩ := his_leave (on := true) h hf hp
  have hh := h.home (by omega)
  have hg : (getOnS s i).grp i = { s.grp i with tok := (s.grp i).tok - costS s i (s.grp i).goal, place := 3, til := s.now + (s.rd (s.grp i).goal).b.cycle } := by
    refine (grp_modG (leaveS s i true) i i _ hi).trans ?_
    rw [if_pos rfl]
    rfl
  have hv : visOf (getOnS s i) i = visOf (leaveS s i true) i := rfl
  refine ⟨by rw [hv]; exact h1, (fun e => by cases e), fun _ e => ?_, fun _ e => ?_, fun _ e => ?_, fun _ _ => ?_, fun _ e => ?_, fun _ => ?_, ?_⟩
  · rw [hg] at e; cases e
  · rw [hg] at e; cases e
  · rw [hg] at e; cases e
  · rw [hg, hv]
    exact ⟨h3, h2.symm⟩
  · rw [hg] at e; cases e
  · rw [hg]; exact hh
  · rw [hg]; show 3 ≤ 4; omega
end Go.Proofs.Ytijbhcdnbaaobaa
/- An evening of layer 7, plainly: the visits of all groups, moment by moment. No program, no memory. -/
namespace Go.Proofs.Ytijbhcdnbaaobaa

def HisS (a s : EvS) : Prop := ∀ i, i < a.groups.length → HisG a s i false
theorem his_turn {a s t : EvS} {i : Nat} (h : HisS a s) (hi : HisG a t i false) (hg : ∀ j, j ≠ i → t.grp j = s.grp j) (hv : ∀ j, j ≠ i → visOf t j = visOf s j) (hn : t.now = s.now) : HisS a t := fun j hj => by
  by_cases e : j = i
  · rw [e]; exact hi
  · exact his_same (h j hj) (hg j e) (hv j e) hn
theorem goOn_same (s : EvS) (i : Nat) : (goOnS s i).visits = s.visits ∧ (goOnS s i).now = s.now := by
  unfold goOnS
  dsimp only
  split
  · exact ⟨rfl, rfl⟩
  · split <;> exact ⟨rfl, rfl⟩
theorem goOn_vis (s : EvS) (i j : Nat) : visOf (goOnS s i) j = visOf s j := by unfold visOf; rw [(goOn_same s i).1]
theorem giveUp_vis (s : EvS) {i j : Nat} (hj : j ≠ i) : visOf (giveUpS s i) j = visOf s j := by
  unfold giveUpS
  rw [goOn_vis, vis_leave, if_neg hj]
theorem getOn_vis (s : EvS) {i j : Nat} (hj : j ≠ i) : visOf (getOnS s i) j = visOf s j := by
  rw [show visOf (getOnS s i) j = visOf (leaveS s i true) j from rfl, vis_leave, if_neg hj]
theorem all_goOn {a s : EvS} {i : Nat} (hw : WfS a s none) (h : HisS a s) (hi : i < s.groups.length) (hp : (s.grp i).place = 0 ∨ (s.grp i).place = 3) (ht : (s.grp i).til = s.now) : HisS a (goOnS s i) := by
  have hia : i < a.groups.length := by rw [← (fix_len hw.fix).1]; exact hi
  have hG := h i hia
  refine his_turn h (his_goOn ⟨hG.chain, fun _ => ?_, (fun e => by cases e), (fun e => by cases e), (fun e => by cases e), (fun e => by cases e), (fun e => by cases e), hG.home, hG.few⟩ hw.fix hi (by omega)) (fun j hj => goOn_other s hi hj) (fun j _ => goOn_vis s i j) (goOn_same s i).2
  rcases hp with hp | hp
  · obtain ⟨h1, h2⟩ := hG.out rfl hp
    have h3 := hw.out i hi (by simp) hp
    rw [h1, h3]
    exact ⟨by rw [← ht, h2]; rfl, rfl⟩
  · obtain ⟨h1, h2⟩ := hG.ride rfl hp
    exact ⟨by rw [← h2, ht], h1⟩
theorem all_stand {a s : EvS} {i : Nat} (hw : WfS a s none) (h : HisS a s) (hi : i < s.groups.length) (hp : (s.grp i).place = 1) (ht : (s.grp i).til = s.now) : HisS a (standS s i) := by
  have hia : i < a.groups.length := by rw [← (fix_len hw.fix).1]; exact hi
  have hG := h i hia
  obtain ⟨h1, h2⟩ := hG.walk rfl hp
  exact his_turn h (his_stand hG.chain hw.fix hi h1 (by rw [← ht, h2]) (hG.home (by omega))) (fun j hj => stand_other s hi hj) (fun j _ => rfl) rfl
theorem all_giveUp {a s : EvS} {i : Nat} (hw : WfS a s none) (h : HisS a s) (hi : i < s.groups.length) (hp : (s.grp i).place = 2) : HisS a (giveUpS s i) :=
  his_turn h (his_giveUp (h i (by rw [← (fix_len hw.fix).1]; exact hi)) hw.fix hi hp) (fun j hj => giveUp_other s hi hj) (fun _ hj => giveUp_vis s hj) (goOn_same _ i).2
theorem all_getOn {a s : EvS} {i : Nat} (hw : WfS a s none) (h : HisS a s) (hi : i < s.groups.length) (hp : (s.grp i).place = 2) : HisS a (getOnS s i) :=
  his_turn h (his_getOn (h i (by rw [← (fix_len hw.fix).1]; exact hi)) hw.fix hi hp) (fun j hj => getOn_other s hi hj) (fun _ hj => getOn_vis s hj) rfl
def BothS (a s : EvS) : Prop := WfS a s none ∧ HisS a s
theorem both_forDue {a : EvS} {p : Nat} {f : EvS → Nat → EvS} (hf : ∀ s i, BothS a s → i < s.groups.length → (s.grp i).place = p → (s.grp i).til = s.now → BothS a (f s i)) {s : EvS} (h : BothS a s) : BothS a (forDueS p f s) := by
  have key : ∀ (l : List Nat) (s : EvS), BothS a s → (∀ i ∈ l, i < a.groups.length) → BothS a (l.foldl (fun s i => if (s.grp i).place = p ∧ (s.grp i).til = s.now then f s i else s) s) := by
    intro l
    induction l with
    | nil => intro s h _; exact h
    | cons i l ih =>
      intro s h hl
      rw [List.foldl_cons]
      refine ih _ ?_ (fun j hj => hl j (List.mem_cons_of_mem _ hj))
      split
      · rename_i hc
        exact hf s i h (by rw [(fix_len h.1.fix).1]; exact hl i List.mem_cons_self) hc.1 hc.2
      · exact h
  exact key _ s h (fun i hi => by rw [← (fix_len h.1.fix).1]; exact List.mem_range.1 hi)
theorem both_fill {a : EvS} (hv : ValS a) (r : Nat) : ∀ (l : List Nat) (left : Int) (s : EvS), BothS a s → l.Nodup → (∀ j ∈ l, j < s.groups.length ∧ (s.grp j).place = 2 ∧ (s.grp j).goal = r) → BothS a (fillS r l left s).1 := by
  intro l
  induction l with
  | nil => intro left s h _ _; exact h
  | cons i l ih =>
    intro left s h hn hl
    obtain ⟨hi, hp, hg⟩ := hl i List.mem_cons_self
    rw [List.nodup_cons] at hn
    have rest : ∀ t : EvS, t.groups.length = s.groups.length → (∀ j, j ≠ i → t.grp j = s.grp j) → ∀ j ∈ l, j < t.groups.length ∧ (t.grp j).place = 2 ∧ (t.grp j).goal = r := fun t hlen ho j hj => by
      have hji : j ≠ i := fun e => hn.1 (e ▸ hj)
      rw [hlen, ho j hji]
      exact hl j (List.mem_cons_of_mem _ hj)
    simp only [fillS]
    split
    · have hw := wf_giveUp h.1 hv hi hp
      exact ih left _ ⟨hw, all_giveUp h.1 h.2 hi hp⟩ hn.2 (rest _ (by rw [(fix_len hw.fix).1, (fix_len h.1.fix).1]) fun j hj => giveUp_other s hi hj)
    · rename_i hc
      split
      · have hw := wf_getOn h.1 hv hi hp (by rw [hg]; omega)
        exact ih _ _ ⟨hw, all_getOn h.1 h.2 hi hp⟩ hn.2 (rest _ (by rw [(fix_len hw.fix).1, (fix_len h.1.fix).1]) fun j hj => getOn_other s hi hj)
      · split
        · exact h
        · exact ih left s h hn.2 (rest s rfl fun _ _ => rfl)
theorem his_quiet {a s t : EvS} (h : HisS a s) (hg : ∀ j, t.grp j = s.grp j) (hv : ∀ j, visOf t j = visOf s j) (hn : t.now = s.now) : HisS a t := fun j hj => his_same (h j hj) (hg j) (hv j) hn
theorem both_rbeg {a s : EvS} (hv : ValS a) (r : Nat) (h : BothS a s) : BothS a (rbegS s r) := by
  unfold rbegS
  split
  · have hw := both_fill hv r (s.rd r).q (s.rd r).b.seats s h (h.1.nod r) (fun j hj => by
      obtain ⟨h1, _, h3, h4⟩ := h.1.que r j hj
      exact ⟨h1, h3, h4⟩)
    generalize fillS r (s.rd r).q (s.rd r).b.seats s = t at hw
    obtain ⟨t, left⟩ := t
    dsimp only at hw ⊢
    split
    · exact ⟨wf_modR hw.1 (fun _ => rfl) (fun _ => rfl) (fun _ => rfl), his_quiet hw.2 (fun _ => rfl) (fun _ => rfl) rfl⟩
    · exact hw
  · exact h
theorem both_rbegs {a s : EvS} (hv : ValS a) (h : BothS a s) : BothS a (rbegsS s) := by
  unfold rbegsS
  generalize List.range s.rides.length = l
  induction l generalizing s with
  | nil => exact h
  | cons r l ih => exact ih (both_rbeg hv r h)
theorem both_tick {a s : EvS} (hv : ValS a) (h : BothS a s) : BothS a (tickS s) := by
  have go : ∀ p, p = 0 ∨ p = 3 → ∀ s i, BothS a s → i < s.groups.length → (s.grp i).place = p → (s.grp i).til = s.now → BothS a (goOnS s i) := by
    intro p hp s i h hi hpl ht
    refine ⟨wf_goOn (wf_way h.1 hi (by omega) (by omega)) hv ?_, all_goOn h.1 h.2 hi (by omega) ht⟩
    rcases hp with rfl | rfl
    · have := h.1.out i hi (by simp) hpl
      omega
    · exact (h.1.at_ i hi (by simp) (by omega)).2
  have st : ∀ s i, BothS a s → i < s.groups.length → (s.grp i).place = 1 → (s.grp i).til = s.now → BothS a (standS s i) := by
    intro s i h hi hpl ht
    have := h.1.at_ i hi (by simp) (.inl hpl)
    exact ⟨wf_stand (wf_way h.1 hi (by omega) (by omega)) hv this.1 this.2, all_stand h.1 h.2 hi hpl ht⟩
  have gu : ∀ s i, BothS a s → i < s.groups.length → (s.grp i).place = 2 → (s.grp i).til = s.now → BothS a (giveUpS s i) := fun s i h hi hpl _ => ⟨wf_giveUp h.1 hv hi hpl, all_giveUp h.1 h.2 hi hpl⟩
  unfold tickS
  have hb := both_rbegs hv (both_forDue gu (both_forDue st (both_forDue (go 0 (.inl rfl)) (both_forDue (go 3 (.inr rfl)) h))))
  generalize rbegsS (forDueS 2 giveUpS (forDueS 1 standS (forDueS 0 goOnS (forDueS 3 goOnS s)))) = t at hb ⊢
  exact ⟨wf_measure hb.1, his_quiet hb.2 (fun _ => rfl) (fun _ => rfl) rfl⟩
theorem now_forDue {p : Nat} {f : EvS → Nat → EvS} (hf : ∀ s i, (f s i).now = s.now) (s : EvS) : (forDueS p f s).now = s.now := by
  unfold forDueS
  generalize List.range s.groups.length = l
  induction l generalizing s with
  | nil => rfl
  | cons i l ih =>
    rw [List.foldl_cons, ih]
    split
    · exact hf s i
    · rfl
theorem now_fill (r : Nat) : ∀ (l : List Nat) (left : Int) (s : EvS), (fillS r l left s).1.now = s.now := by
  intro l
  induction l with
  | nil => intro left s; rfl
  | cons i l ih =>
    intro left s
    simp only [fillS]
    split
    · rw [ih]; exact (goOn_same _ i).2
    · split
      · rw [ih]; rfl
      · split
        · rfl
        · exact ih left s
theorem now_rbeg (s : EvS) (r : Nat) : (rbegS s r).now = s.now := by
  unfold rbegS
  split
  · have h := now_fill r (s.rd r).q (s.rd r).b.seats s
    generalize fillS r (s.rd r).q (s.rd r).b.seats s = t at h
    obtain ⟨t, left⟩ := t
    dsimp only at h ⊢
    split
    · exact h
    · exact h
  · rfl
theorem now_rbegs (s : EvS) : (rbegsS s).now = s.now := by
  unfold rbegsS
  generalize List.range s.rides.length = l
  induction l generalizing s with
  | nil => rfl
  | cons r l ih => rw [List.foldl_cons, ih, now_rbeg]
theorem now_measure (s : EvS) : (measureS s).now = s.now := rfl
theorem now_tick (s : EvS) : (tickS s).now = s.now := by
  unfold tickS
  rw [now_measure, now_rbegs, now_forDue (f := giveUpS) (fun s i => (goOn_same _ i).2), now_forDue (f := standS) (fun _ _ => rfl), now_forDue (f := goOnS) (fun s i => (goOn_same s i).2), now_forDue (f := goOnS) (fun s i => (goOn_same s i).2)]
theorem his_now {a s : EvS} (h : HisS a s) (n : Int) (hn : s.now ≤ n) : HisS a { s with now := n } := fun i hi => by
  obtain ⟨h0, _, h2, h3, h4, h5, h6, h7, h8⟩ := h i hi
  refine ⟨h0, (fun e => by cases e), h2, h3, fun e1 e2 => ?_, h5, h6, h7, h8⟩
  obtain ⟨u1, u2, u3, u4⟩ := h4 e1 e2
  exact ⟨u1, u2, Int.le_trans u3 hn, u4⟩
theorem both_ticks {a : EvS} (hv : ValS a) : ∀ n s, BothS a s → BothS a (ticksS n s) := by
  intro n
  induction n with
  | zero => intro s h; exact h
  | succ n ih =>
    intro s h
    simp only [ticksS]
    split
    · exact h
    · have ht := both_tick hv h
      refine ih _ ⟨wf_now ht.1 _, his_now ht.2 _ ?_⟩
      rw [now_tick]
      omega
theorem his_start (f : EveZ) (l : List GrpZ) : HisS (startS f l) (startS f l) := fun i hi => by
  have hi' : i < l.length := by simpa [startS] using hi
  have hg : (startS f l).grp i = ⟨l[i], l[i].tokens, 0, l[i].at_, -1, 0, -1⟩ := by
    unfold EvS.grp startS
    simp [hi']
  have hv : visOf (startS f l) i = [] := rfl
  refine ⟨by rw [hv]; trivial, (fun e => by cases e), fun _ _ => ⟨hv, by rw [hg]⟩, fun _ e => ?_, fun _ e => ?_, fun _ e => ?_, fun _ e => ?_, fun _ => by rw [hg], by rw [hg]; exact Nat.zero_le _⟩
  all_goals
    rw [hg] at e
    cases e
/-- The visits of each group when an evening is over. -/
theorem play_his (f : EveZ) (l : List GrpZ) (ht : ∀ g ∈ l, 0 ≤ g.tokens) (hw : ∀ g ∈ l, ∀ w ∈ g.wants, 0 ≤ w ∧ w < (f.rides.length : Int)) : BothS (startS f l) (eveS f l) := by
  refine both_ticks ?_ _ _ ⟨wf_start f l ht, his_start f l⟩
  intro i hi w hm
  have hi' : i < l.length := by simpa [startS] using hi
  have hg : ((startS f l).grp i).g = l[i] := by
    unfold EvS.grp startS
    simp [hi']
  rw [hg] at hm
  have := hw _ (List.getElem_mem hi') w hm
  simpa [startS] using this
end Go.Proofs.Ytijbhcdnbaaobaa
/- An evening of layer 7, plainly: a group's visits in a list that is sorted as the document asks are its visits as they came. No program, no memory. -/
namespace Go.Proofs.Ytijbhcdnbaaobaa

def leV (a b : VisZ) : Prop := a.left < b.left ∨ a.left = b.left ∧ (a.group < b.group ∨ a.group = b.group ∧ a.want ≤ b.want)
def nextV (a b : VisZ) : Prop := a.want < b.want ∧ a.left ≤ b.left
theorem chain_low {cyc : Nat → Int} {walk : Int} {g : GrpZ} (hw : 0 ≤ walk) (hc : ∀ r, 0 ≤ cyc r) : ∀ (l : List VisZ) (t n : Int), chainV cyc walk g t n l → ∀ v ∈ l, n ≤ v.want ∧ t ≤ v.left := by
  intro l
  induction l with
  | nil => intro t n _ v hv; cases hv
  | cons x l ih =>
    intro t n h v hv
    obtain ⟨⟨h1, h2, h3, _⟩, h5⟩ := h
    rcases List.mem_cons.1 hv with rfl | hv
    · omega
    · obtain ⟨u1, u2⟩ := ih _ _ h5 v hv
      have hd : x.left ≤ doneV cyc x := by
        unfold doneV
        split
        · have := hc x.ride; omega
        · omega
      omega
theorem chain_next {cyc : Nat → Int} {walk : Int} {g : GrpZ} (hw : 0 ≤ walk) (hc : ∀ r, 0 ≤ cyc r) : ∀ (l : List VisZ) (t n : Int), chainV cyc walk g t n l → l.Pairwise nextV := by
  intro l
  induction l with
  | nil => intro t n _; exact List.Pairwise.nil
  | cons x l ih =>
    intro t n h
    obtain ⟨⟨h1, h2, h3, _⟩, h5⟩ := h
    refine List.Pairwise.cons (fun v hv => ?_) (ih _ _ h5)
    obtain ⟨u1, u2⟩ := chain_low hw hc l _ _ h5 v hv
    have hd : x.left ≤ doneV cyc x := by
      unfold doneV
      split
      · have := hc x.ride; omega
      · omega
    exact ⟨by omega, by omega⟩
theorem next_one {l : List VisZ} (h : l.Pairwise nextV) : ∀ a ∈ l, ∀ b ∈ l, a.want = b.want → a = b := by
  induction l with
  | nil => intro a ha; cases ha
  | cons x l ih =>
    rw [List.pairwise_cons] at h
    intro a ha b hb e
    rcases List.mem_cons.1 ha with ea | ha2
    · rcases List.mem_cons.1 hb with eb | hb2
      · rw [ea, eb]
      · have := (h.1 b hb2).1; rw [ea] at e; omega
    · rcases List.mem_cons.1 hb with eb | hb2
      · have := (h.1 a ha2).1; rw [eb] at e; omega
      · exact ih h.2 a ha2 b hb2 e
theorem sorted_group {l l' : List VisZ} {i : Nat} (hp : l'.Perm l) (hs : l'.Pairwise leV) (hc : (l.filter fun v => decide (v.group = i)).Pairwise nextV) : (l'.filter fun v => decide (v.group = i)) = l.filter fun v => decide (v.group = i) := by
  have hg : ∀ v ∈ l.filter (fun v => decide (v.group = i)), v.group = i := fun v hv => by simpa using (List.mem_filter.1 hv).2
  have hpf := hp.filter fun v => decide (v.group = i)
  have h1 : (l'.filter fun v => decide (v.group = i)).Pairwise leV := hs.filter _
  have h2 : (l.filter fun v => decide (v.group = i)).Pairwise leV := hc.imp_of_mem fun {a b} ha hb h => by
    have ga := hg a ha
    have gb := hg b hb
    obtain ⟨u1, u2⟩ := h
    unfold leV
    omega
  refine hpf.eq_of_pairwise (fun a b ha hb h3 h4 => ?_) h1 h2
  have ha' := hpf.mem_iff.1 ha
  refine next_one hc a ha' b hb ?_
  unfold leV at h3 h4
  have ga := hg a ha'
  have gb := hg b hb
  omega
end Go.Proofs.Ytijbhcdnbaaobaa
/- An evening of layer 7, plainly: what the statement about the ends looks at is so. No program, no memory. -/
namespace Go.Proofs.Ytijbhcdnbaaobaa

/-- A look at a group's visits: the next wish, and from when on it may begin; none: something is wrong. -/
def endsV (cyc : Nat → Int) (nr : Nat) : Int → Int → List VisZ → Option (Int × Int)
  | want, last, [] => some (want, last)
  | want, last, v :: l => if v.want ≠ want ∨ ¬ v.ride < nr ∨ v.came < last then none else endsV cyc nr (want + 1) (doneV cyc v) l
theorem ends_chain {cyc : Nat → Int} {walk : Int} {g : GrpZ} {nr : Nat} (hw : 0 ≤ walk) : ∀ (l : List VisZ) (t n : Int), chainV cyc walk g t n l → (∀ v ∈ l, v.ride < nr) → endsV cyc nr n t l = some (n + (l.length : Int), lastV cyc t l) := by
  intro l
  induction l with
  | nil => intro t n _ _; simp [endsV, lastV]
  | cons v l ih =>
    intro t n h hr
    obtain ⟨⟨h1, h2, h3, _⟩, h5⟩ := h
    have hv := hr v List.mem_cons_self
    simp only [endsV]
    rw [if_neg (by omega), ih _ _ h5 (fun x hx => hr x (List.mem_cons_of_mem _ hx))]
    rw [show lastV cyc t (v :: l) = lastV cyc (doneV cyc v) l from rfl, List.length_cons]
    rw [show n + 1 + (l.length : Int) = n + ((l.length + 1 : Nat) : Int) by omega]
/-- The visits of an evening, sorted: each group's are in order, and whoever is home went home behind the last of them. -/
theorem ends_ok (f : EveZ) (l : List GrpZ) (ht : ∀ g ∈ l, 0 ≤ g.tokens) (hw : ∀ g ∈ l, ∀ w ∈ g.wants, 0 ≤ w ∧ w < (f.rides.length : Int)) (h0 : 0 ≤ f.walk) (hc : ∀ b ∈ f.rides, 0 ≤ b.cycle) (L : List VisZ) (hp : L.Perm (eveS f l).visits) (hs : L.Pairwise leV) (i : Nat) (hi : i < l.length) :
    ∃ want last, endsV (cycS (startS f l)) f.rides.length 0 (l.getD i default).at_ (L.filter fun v => decide (v.group = i)) = some (want, last) ∧ (0 ≤ ((eveS f l).grp i).home → want = ((l.getD i default).wants.length : Int) ∧ ((eveS f l).grp i).home = last) := by
  obtain ⟨hwf, hhis⟩ := play_his f l ht hw
  have ha : i < (startS f l).groups.length := by simpa [startS] using hi
  have hG := hhis i ha
  have hg : ((startS f l).grp i).g = l.getD i default := by
    unfold EvS.grp startS
    simp [hi]
  have hcy : ∀ r, 0 ≤ cycS (startS f l) r := fun r => by
    unfold cycS EvS.rd startS
    by_cases hr : r < f.rides.length
    · have := hc _ (List.getElem_mem hr)
      simpa [hr] using this
    · simp [hr]
      decide
  have hch := hG.chain
  rw [hg] at hch
  have hnx := chain_next (show 0 ≤ (startS f l).walk from h0) hcy _ _ _ hch
  have he : (L.filter fun v => decide (v.group = i)) = visOf (eveS f l) i := sorted_group hp hs hnx
  have hlen : (eveS f l).rides.length = f.rides.length := by
    rw [(fix_len hwf.fix).2]; simp [startS]
  rw [he, ends_chain (show 0 ≤ (startS f l).walk from h0) _ _ _ hch (fun v hv => by
    have := (hwf.vis v (List.mem_filter.1 hv).1).2
    omega)]
  refine ⟨_, _, rfl, fun hh => ?_⟩
  have h4 : ((eveS f l).grp i).place = 4 := by
    by_cases e : ((eveS f l).grp i).place = 4
    · exact e
    · have := hG.home e; omega
  obtain ⟨u1, u2⟩ := hG.gone rfl h4
  rw [hg] at u1 u2
  exact ⟨by omega, u2⟩
end Go.Proofs.Ytijbhcdnbaaobaa
/- An evening of layer 7, plainly: tokens and takes agree, visit by visit. No program, no memory. -/
namespace Go.Proofs.Ytijbhcdnbaaobaa

theorem paid_perm (c : Nat → Nat → Int) (r : Nat) {l l' : List VisZ} (h : l.Perm l') : paidL c r l = paidL c r l' := by
  induction h with
  | nil => rfl
  | cons x _ ih => simp only [paidL, ih]
  | swap x y l => simp only [paidL]; omega
  | trans _ _ h1 h2 => exact h1.trans h2
theorem start_grp (f : EveZ) (l : List GrpZ) {i : Nat} (hi : i < l.length) : (startS f l).grp i = ⟨l.getD i default, (l.getD i default).tokens, 0, (l.getD i default).at_, -1, 0, -1⟩ := by
  unfold EvS.grp startS
  simp [hi]
theorem start_rd (f : EveZ) (l : List GrpZ) {r : Nat} (hr : r < f.rides.length) : (startS f l).rd r = ⟨f.rides.getD r default, [], 0, 0, 0⟩ := by
  unfold EvS.rd startS
  simp [hr]
theorem start_tot (f : EveZ) (l : List GrpZ) : totS (startS f l) = (l.map (·.tokens)).foldr (· + ·) 0 := by
  have h1 : ∀ l : List Bth, sumR (l.map fun b => (⟨b, [], 0, 0, 0⟩ : RdS)) = 0 := by
    intro l
    induction l with
    | nil => rfl
    | cons b l ih => unfold sumR at ih ⊢; simp only [List.map_cons, List.foldr_cons, ih]; rfl
  have h2 : ∀ l : List GrpZ, sumG (l.map fun g => (⟨g, g.tokens, 0, g.at_, -1, 0, -1⟩ : GpS)) = (l.map (·.tokens)).foldr (· + ·) 0 := by
    intro l
    induction l with
    | nil => rfl
    | cons b l ih => unfold sumG at ih ⊢; simp only [List.map_cons, List.foldr_cons, ih]
  unfold totS startS
  rw [h1, h2]
  omega
/-- What all groups had at first is what they hold and what the rides have taken; a ride has taken its price for each guest who got on; nobody owes. -/
theorem agree_ok (f : EveZ) (l : List GrpZ) (ht : ∀ g ∈ l, 0 ≤ g.tokens) (hw : ∀ g ∈ l, ∀ w ∈ g.wants, 0 ≤ w ∧ w < (f.rides.length : Int)) (L : List VisZ) (hp : L.Perm (eveS f l).visits) :
    (eveS f l).groups.length = l.length ∧ (eveS f l).rides.length = f.rides.length
    ∧ sumG (eveS f l).groups + sumR (eveS f l).rides = (l.map (·.tokens)).foldr (· + ·) 0
    ∧ (∀ i, i < l.length → 0 ≤ ((eveS f l).grp i).tok)
    ∧ (∀ v ∈ L, v.group < l.length ∧ v.ride < f.rides.length)
    ∧ ∀ r, r < f.rides.length → ((eveS f l).rd r).taken = paidL (fun i r => (f.rides.getD r default).price * (l.getD i default).size) r L := by
  have h := play_wf f l ht hw
  obtain ⟨e1, e2⟩ := fix_len h.fix
  have l1 : (startS f l).groups.length = l.length := by simp [startS]
  have l2 : (startS f l).rides.length = f.rides.length := by simp [startS]
  refine ⟨by omega, by omega, h.tot.trans (start_tot f l), fun i hi => h.owe i (by omega), fun v hv => ?_, fun r hr => ?_⟩
  · have := h.vis v (hp.mem_iff.1 hv)
    omega
  · rw [h.pay r (by omega), ← paid_perm _ r hp]
    have key : ∀ L' : List VisZ, (∀ v ∈ L', v.group < l.length) → paidL (costS (eveS f l)) r L' = paidL (fun i r => (f.rides.getD r default).price * (l.getD i default).size) r L' := by
      intro L'
      induction L' with
      | nil => intro _; rfl
      | cons v L' ih =>
        intro hL
        have hvg := hL v List.mem_cons_self
        simp only [paidL, ih (fun x hx => hL x (List.mem_cons_of_mem _ hx))]
        rw [cost_fix h.fix]
        unfold costS
        rw [start_rd f l hr, start_grp f l hvg]
    exact key L fun v hv => by
      have := h.vis v (hp.mem_iff.1 hv)
      omega
end Go.Proofs.Ytijbhcdnbaaobaa
/- An evening of layer 7, plainly: nobody stands longer than they have patience. No program, no memory. -/
namespace Go.Proofs.Ytijbhcdnbaaobaa

def PatS (a : EvS) : Prop := ∀ i, i < a.groups.length → 0 ≤ (a.grp i).g.patience
def waitV (a : EvS) (v : VisZ) : Prop := 0 ≤ v.want ∧ v.want < ((a.grp v.group).g.wants.length : Int) ∧ v.left - v.came ≤ (a.grp v.group).g.patience + 1 ∧ (v.on = true → v.left - v.came ≤ (a.grp v.group).g.patience)
/-- b: 1 as soon as those whose patience ends in this tick have left. -/
structure WaitS (a s : EvS) (b : Int) : Prop where
  vis : ∀ v ∈ s.visits, waitV a v
  std : ∀ i, i < a.groups.length → (s.grp i).place = 2 → s.now + b ≤ (s.grp i).til
theorem wait_turn {a s t : EvS} {i : Nat} {b : Int} (h : WaitS a s b) (hv : ∀ v ∈ t.visits, waitV a v) (hn : t.now = s.now) (ho : ∀ j, j ≠ i → t.grp j = s.grp j) (hi : (t.grp i).place = 2 → s.now + b ≤ (t.grp i).til) : WaitS a t b :=
  ⟨hv, fun j hj hp => by
    rw [hn]
    by_cases e : j = i
    · rw [e] at hp ⊢; exact hi hp
    · rw [ho j e] at hp ⊢; exact h.std j hj hp⟩
theorem stand_til {a s : EvS} {i : Nat} {b : Int} (hb : b ≤ 1) (hf : FixS a s) (hp : PatS a) (hi : i < s.groups.length) : s.now + b ≤ ((standS s i).grp i).til := by
  rw [stand_grp s hi]
  dsimp only
  have := hp i (by rw [← (fix_len hf).1]; exact hi)
  rw [← fix_grp hf i] at this
  omega
theorem goOn_til {a s : EvS} {i : Nat} {b : Int} (hb : b ≤ 1) (hf : FixS a s) (hp : PatS a) (hi : i < s.groups.length) : ((goOnS s i).grp i).place = 2 → s.now + b ≤ ((goOnS s i).grp i).til := by
  obtain ⟨t, ht⟩ : ∃ t, t = s.modG i fun g => { g with want := g.want + 1 } := ⟨_, rfl⟩
  have tl : i < t.groups.length := by rw [ht, len_modG]; exact hi
  have tn : t.now = s.now := by rw [ht]; rfl
  have tf : FixS a t := by rw [ht]; exact hf.trans (fix_modG _ _ _ (fun _ => rfl))
  unfold goOnS
  dsimp only
  rw [← ht]
  split
  · intro e
    rw [grp_modG t i i _ tl, if_pos rfl] at e
    cases e
  · split
    · intro _
      have h := stand_til hb tf hp tl
      rw [tn] at h
      exact h
    · intro e
      rw [grp_modG t i i _ tl, if_pos rfl] at e
      cases e
theorem wait_goOn {a s : EvS} {i : Nat} {b : Int} (hb : b ≤ 1) (hf : FixS a s) (hp : PatS a) (h : WaitS a s b) (hi : i < s.groups.length) : WaitS a (goOnS s i) b :=
  wait_turn h (by rw [(goOn_same s i).1]; exact h.vis) (goOn_same s i).2 (fun _ hj => goOn_other s hi hj) (goOn_til hb hf hp hi)
theorem wait_stand {a s : EvS} {i : Nat} {b : Int} (hb : b ≤ 1) (hf : FixS a s) (hp : PatS a) (h : WaitS a s b) (hi : i < s.groups.length) : WaitS a (standS s i) b :=
  wait_turn h h.vis rfl (fun _ hj => stand_other s hi hj) (fun _ => stand_til hb hf hp hi)
/-- The visit that a group leaves behind. -/
theorem wait_leave {a s : EvS} {i : Nat} {b : Int} {on : Bool} (hB : BothS a s) (h : WaitS a s b) (hi : i < s.groups.length) (hp : (s.grp i).place = 2) (h0 : 0 ≤ b) (h1 : on = true → b = 1) : ∀ v ∈ (leaveS s i on).visits, waitV a v := by
  intro v hv
  have hia : i < a.groups.length := by rw [← (fix_len hB.1.fix).1]; exact hi
  obtain ⟨u1, u2, u3, u4⟩ := (hB.2 i hia).stand rfl hp
  obtain ⟨w1, w2⟩ := hB.1.at_ i hi (by simp) (by omega)
  have ht := h.std i hia hp
  have hv' : v ∈ s.visits ++ [⟨i, (s.grp i).want, (s.grp i).goal, on, (s.grp i).came, s.now⟩] := hv
  rcases List.mem_append.1 hv' with hv1 | hv1
  · exact h.vis v hv1
  · rw [List.mem_singleton] at hv1
    rw [hv1]
    unfold waitV
    dsimp only
    rw [fix_grp hB.1.fix i] at w2
    refine ⟨w1, w2, by omega, fun e => ?_⟩
    have := h1 e
    omega
theorem wait_giveUp {a s : EvS} {i : Nat} {b : Int} (hb : b ≤ 1) (h0 : 0 ≤ b) (hB : BothS a s) (hp : PatS a) (h : WaitS a s b) (hi : i < s.groups.length) (h2 : (s.grp i).place = 2) : WaitS a (giveUpS s i) b :=
  wait_turn h (by
    show ∀ v ∈ (goOnS (leaveS s i false) i).visits, waitV a v
    rw [(goOn_same _ i).1]
    exact wait_leave hB h hi h2 h0 (fun e => by cases e)) (goOn_same _ i).2 (fun _ hj => giveUp_other s hi hj) (goOn_til (s := leaveS s i false) hb (hB.1.fix.trans (keep_leave s i false).1) hp hi)
theorem getOn_grp (s : EvS) {i : Nat} (hi : i < s.groups.length) : (getOnS s i).grp i = { s.grp i with tok := (s.grp i).tok - costS s i (s.grp i).goal, place := 3, til := s.now + (s.rd (s.grp i).goal).b.cycle } := by
  refine (grp_modG (leaveS s i true) i i _ hi).trans ?_
  rw [if_pos rfl]
  rfl
theorem wait_getOn {a s : EvS} {i : Nat} (hB : BothS a s) (h : WaitS a s 1) (hi : i < s.groups.length) (h2 : (s.grp i).place = 2) : WaitS a (getOnS s i) 1 :=
  wait_turn h (wait_leave (on := true) hB h hi h2 (by omega) (fun _ => rfl)) rfl (fun _ hj => getOn_other s hi hj) (fun e => by rw [getOn_grp s hi] at e; cases e)
end Go.Proofs.Ytijbhcdnbaaobaa
namespace Go.Proofs.Ytijbhcdnbaaobaa

theorem both_go {a s : EvS} {i : Nat} (hv : ValS a) (h : BothS a s) (hi : i < s.groups.length) (hp : (s.grp i).place = 0 ∨ (s.grp i).place = 3) (ht : (s.grp i).til = s.now) : BothS a (goOnS s i) := by
  refine ⟨wf_goOn (wf_way h.1 hi (by omega) (by omega)) hv ?_, all_goOn h.1 h.2 hi hp ht⟩
  rcases hp with hp | hp
  · have := h.1.out i hi (by simp) hp
    omega
  · exact (h.1.at_ i hi (by simp) (by omega)).2
theorem both_st {a s : EvS} {i : Nat} (hv : ValS a) (h : BothS a s) (hi : i < s.groups.length) (hp : (s.grp i).place = 1) (ht : (s.grp i).til = s.now) : BothS a (standS s i) := by
  have := h.1.at_ i hi (by simp) (.inl hp)
  exact ⟨wf_stand (wf_way h.1 hi (by omega) (by omega)) hv this.1 this.2, all_stand h.1 h.2 hi hp ht⟩
theorem both_gu {a s : EvS} {i : Nat} (hv : ValS a) (h : BothS a s) (hi : i < s.groups.length) (hp : (s.grp i).place = 2) : BothS a (giveUpS s i) := ⟨wf_giveUp h.1 hv hi hp, all_giveUp h.1 h.2 hi hp⟩
theorem forDue_keep {a : EvS} {P : EvS → Prop} {p : Nat} {f : EvS → Nat → EvS} (hl : ∀ s, P s → s.groups.length = a.groups.length) (hf : ∀ s i, P s → i < s.groups.length → (s.grp i).place = p → (s.grp i).til = s.now → P (f s i)) {s : EvS} (h : P s) : P (forDueS p f s) := by
  have key : ∀ (l : List Nat) (s : EvS), P s → (∀ i ∈ l, i < a.groups.length) → P (l.foldl (fun s i => if (s.grp i).place = p ∧ (s.grp i).til = s.now then f s i else s) s) := by
    intro l
    induction l with
    | nil => intro s h _; exact h
    | cons i l ih =>
      intro s h hm
      rw [List.foldl_cons]
      refine ih _ ?_ (fun j hj => hm j (List.mem_cons_of_mem _ hj))
      split
      · rename_i hc
        exact hf s i h (by rw [hl s h]; exact hm i List.mem_cons_self) hc.1 hc.2
      · exact h
  exact key _ s h (fun i hi => by rw [← hl s h]; exact List.mem_range.1 hi)
def TriS (a : EvS) (b : Int) (s : EvS) : Prop := BothS a s ∧ WaitS a s b
theorem tri_len {a s : EvS} {b : Int} (h : TriS a b s) : s.groups.length = a.groups.length := (fix_len h.1.1.fix).1
theorem tri_due {a s : EvS} (hv : ValS a) (hp : PatS a) (h : TriS a 0 s) : TriS a 1 (forDueS 2 giveUpS s) := by
  have key : ∀ (l : List Nat) (s : EvS), TriS a 0 s → (∀ i ∈ l, i < a.groups.length) → (∀ j, j < a.groups.length → j ∉ l → (s.grp j).place = 2 → s.now + 1 ≤ (s.grp j).til) → TriS a 1 (l.foldl (fun s i => if (s.grp i).place = 2 ∧ (s.grp i).til = s.now then giveUpS s i else s) s) := by
    intro l
    induction l with
    | nil =>
      intro s h _ hd
      exact ⟨h.1, h.2.vis, fun j hj => hd j hj (by simp)⟩
    | cons i l ih =>
      intro s h hm hd
      have hi : i < s.groups.length := by rw [tri_len h]; exact hm i List.mem_cons_self
      rw [List.foldl_cons]
      split
      · rename_i hc
        refine ih _ ⟨both_gu hv h.1 hi hc.1, wait_giveUp (by omega) (by omega) h.1 hp h.2 hi hc.1⟩ (fun j hj => hm j (List.mem_cons_of_mem _ hj)) (fun j hj hjl h2 => ?_)
        rw [show (giveUpS s i).now = s.now from (goOn_same _ i).2]
        by_cases e : j = i
        · rw [e] at h2 ⊢
          exact goOn_til (s := leaveS s i false) (b := 1) (by omega) (h.1.1.fix.trans (keep_leave s i false).1) hp hi h2
        · rw [giveUp_other s hi e] at h2 ⊢
          exact hd j hj (by simp [e, hjl]) h2
      · rename_i hc
        refine ih _ h (fun j hj => hm j (List.mem_cons_of_mem _ hj)) (fun j hj hjl h2 => ?_)
        by_cases e : j = i
        · rw [e] at h2 ⊢
          have h3 := h.2.std i (hm i List.mem_cons_self) h2
          have h4 : (s.grp i).til ≠ s.now := fun e4 => hc ⟨h2, e4⟩
          omega
        · exact hd j hj (by simp [e, hjl]) h2
  exact key _ s h (fun i hi => by rw [← tri_len h]; exact List.mem_range.1 hi) (fun j hj hn => absurd (List.mem_range.2 (by rw [tri_len h]; exact hj)) hn)
theorem tri_fill {a : EvS} (hv : ValS a) (hpt : PatS a) (r : Nat) : ∀ (l : List Nat) (left : Int) (s : EvS), TriS a 1 s → l.Nodup → (∀ j ∈ l, j < s.groups.length ∧ (s.grp j).place = 2 ∧ (s.grp j).goal = r) → TriS a 1 (fillS r l left s).1 := by
  intro l
  induction l with
  | nil => intro left s h _ _; exact h
  | cons i l ih =>
    intro left s h hn hl
    obtain ⟨hi, hp, hg⟩ := hl i List.mem_cons_self
    rw [List.nodup_cons] at hn
    have rest : ∀ t : EvS, t.groups.length = s.groups.length → (∀ j, j ≠ i → t.grp j = s.grp j) → ∀ j ∈ l, j < t.groups.length ∧ (t.grp j).place = 2 ∧ (t.grp j).goal = r := fun t hlen ho j hj => by
      have hji : j ≠ i := fun e => hn.1 (e ▸ hj)
      rw [hlen, ho j hji]
      exact hl j (List.mem_cons_of_mem _ hj)
    simp only [fillS]
    split
    · have hw : TriS a 1 (giveUpS s i) := ⟨both_gu hv h.1 hi hp, wait_giveUp (by omega) (by omega) h.1 hpt h.2 hi hp⟩
      exact ih left _ hw hn.2 (rest _ (by rw [tri_len hw, tri_len h]) fun j hj => giveUp_other s hi hj)
    · rename_i hc
      split
      · have hw : TriS a 1 (getOnS s i) := ⟨⟨wf_getOn h.1.1 hv hi hp (by rw [hg]; omega), all_getOn h.1.1 h.1.2 hi hp⟩, wait_getOn h.1 h.2 hi hp⟩
        exact ih _ _ hw hn.2 (rest _ (by rw [tri_len hw, tri_len h]) fun j hj => getOn_other s hi hj)
      · split
        · exact h
        · exact ih left s h hn.2 (rest s rfl fun _ _ => rfl)
theorem wait_quiet {a s t : EvS} {b : Int} (h : WaitS a s b) (hg : ∀ j, t.grp j = s.grp j) (hv : t.visits = s.visits) (hn : t.now = s.now) : WaitS a t b := ⟨by rw [hv]; exact h.vis, fun j hj => by rw [hg, hn]; exact h.std j hj⟩
theorem tri_rbeg {a s : EvS} (hv : ValS a) (hp : PatS a) (r : Nat) (h : TriS a 1 s) : TriS a 1 (rbegS s r) := by
  unfold rbegS
  split
  · have hw := tri_fill hv hp r (s.rd r).q (s.rd r).b.seats s h (h.1.1.nod r) (fun j hj => by
      obtain ⟨h1, _, h3, h4⟩ := h.1.1.que r j hj
      exact ⟨h1, h3, h4⟩)
    generalize fillS r (s.rd r).q (s.rd r).b.seats s = t at hw
    obtain ⟨t, left⟩ := t
    dsimp only at hw ⊢
    split
    · exact ⟨⟨wf_modR hw.1.1 (fun _ => rfl) (fun _ => rfl) (fun _ => rfl), his_quiet hw.1.2 (fun _ => rfl) (fun _ => rfl) rfl⟩, wait_quiet hw.2 (fun _ => rfl) rfl rfl⟩
    · exact hw
  · exact h
theorem tri_rbegs {a s : EvS} (hv : ValS a) (hp : PatS a) (h : TriS a 1 s) : TriS a 1 (rbegsS s) := by
  unfold rbegsS
  generalize List.range s.rides.length = l
  induction l generalizing s with
  | nil => exact h
  | cons r l ih => exact ih (tri_rbeg hv hp r h)
theorem tri_tick {a s : EvS} (hv : ValS a) (hp : PatS a) (h : TriS a 0 s) : TriS a 1 (tickS s) := by
  have go : ∀ p, p = 0 ∨ p = 3 → ∀ s i, TriS a 0 s → i < s.groups.length → (s.grp i).place = p → (s.grp i).til = s.now → TriS a 0 (goOnS s i) :=
    fun p hp0 s i h hi hpl ht => ⟨both_go hv h.1 hi (by omega) ht, wait_goOn (by omega) h.1.1.fix hp h.2 hi⟩
  have st : ∀ s i, TriS a 0 s → i < s.groups.length → (s.grp i).place = 1 → (s.grp i).til = s.now → TriS a 0 (standS s i) :=
    fun s i h hi hpl ht => ⟨both_st hv h.1 hi hpl ht, wait_stand (by omega) h.1.1.fix hp h.2 hi⟩
  have len : ∀ s, TriS a 0 s → s.groups.length = a.groups.length := fun _ h => tri_len h
  unfold tickS
  have hb := tri_rbegs hv hp (tri_due hv hp (forDue_keep len st (forDue_keep len (go 0 (.inl rfl)) (forDue_keep len (go 3 (.inr rfl)) h))))
  generalize rbegsS (forDueS 2 giveUpS (forDueS 1 standS (forDueS 0 goOnS (forDueS 3 goOnS s)))) = t at hb ⊢
  exact ⟨⟨wf_measure hb.1.1, his_quiet hb.1.2 (fun _ => rfl) (fun _ => rfl) rfl⟩, wait_quiet hb.2 (fun _ => rfl) rfl rfl⟩
theorem tri_now {a s : EvS} (h : TriS a 1 s) (n : Int) (h1 : s.now ≤ n) (h2 : n ≤ s.now + 1) : TriS a 0 { s with now := n } := by
  refine ⟨⟨wf_now h.1.1 n, his_now h.1.2 n h1⟩, h.2.vis, fun i hi hp => ?_⟩
  have h3 := h.2.std i hi hp
  show n + 0 ≤ (s.grp i).til
  omega
theorem tri_ticks {a : EvS} (hv : ValS a) (hp : PatS a) : ∀ n s, TriS a 0 s → TriS a 0 (ticksS n s) := by
  intro n
  induction n with
  | zero => intro s h; exact h
  | succ n ih =>
    intro s h
    simp only [ticksS]
    split
    · exact h
    · have ht := tri_tick hv hp h
      have hn := now_tick s
      exact ih _ (tri_now ht _ (by omega) (by omega))
/-- All visits of an evening are of wishes that are there, and nobody waited too long. -/
theorem play_tri (f : EveZ) (l : List GrpZ) (ht : ∀ g ∈ l, 0 ≤ g.tokens) (hpt : ∀ g ∈ l, 0 ≤ g.patience) (hw : ∀ g ∈ l, ∀ w ∈ g.wants, 0 ≤ w ∧ w < (f.rides.length : Int)) : TriS (startS f l) 0 (eveS f l) := by
  have hl : (startS f l).groups.length = l.length := by simp [startS]
  have hm : ∀ i, i < l.length → l.getD i default ∈ l := fun i hi => by
    rw [List.getD_eq_getElem?_getD, List.getElem?_eq_getElem hi]
    exact List.getElem_mem hi
  refine tri_ticks (fun i hi w hm' => ?_) (fun i hi => ?_) _ _ ⟨⟨wf_start f l ht, his_start f l⟩, fun v hv => (by cases hv), fun i hi h2 => ?_⟩
  · rw [start_grp f l (by omega)] at hm'
    have := hw _ (hm i (by omega)) w hm'
    simpa [startS] using this
  · rw [start_grp f l (by omega)]
    exact hpt _ (hm i (by omega))
  · rw [start_grp f l (by omega)] at h2
    cases h2
end Go.Proofs.Ytijbhcdnbaaobaa
