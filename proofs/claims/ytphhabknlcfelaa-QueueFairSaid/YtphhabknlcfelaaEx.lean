/- An evening of layer 7, plainly: at a ride without Fill nobody gets on ahead of those who came earlier. No program, no memory. -/
import Derived.Test.YtphhabknlcfelaaHf
namespace Go.Proofs.Ytphhabknlcfelaa

theorem q_modR (s : EvS) (k : Nat) (f : RdS → RdS) (r : Nat) : (s.modR k f).rd r = s.rd r ∨ (s.modR k f).rd r = f (s.rd r) := by
  by_cases hk : k < s.rides.length
  · rw [rd_modR s k r f hk]
    split
    · rename_i e; rw [e]; exact .inr rfl
    · exact .inl rfl
  · left
    have e : s.rides.modify k f = s.rides := List.modify_eq_self (by omega)
    unfold EvS.modR EvS.rd
    rw [e]
/-- Who stands in a queue came before those behind; who got on at a ride without Fill came before all who still stand there. -/
structure FairS (a s : EvS) : Prop where
  srt : ∀ r, (s.rd r).q.Pairwise (fun i j => (s.grp i).came ≤ (s.grp j).came)
  now : ∀ r, ∀ i ∈ (s.rd r).q, (s.grp i).came ≤ s.now
  old : ∀ v ∈ s.visits, v.left ≤ s.now ∧ v.came ≤ s.now
  ahead : ∀ v ∈ s.visits, v.on = true → (a.rd v.ride).b.fill = false → ∀ i ∈ (s.rd v.ride).q, v.came ≤ (s.grp i).came
  fair : ∀ v ∈ s.visits, ∀ w ∈ s.visits, v.on = true → v.ride = w.ride → (a.rd v.ride).b.fill = false → w.came < v.came → w.left ≤ v.left
theorem fair_same {a s t : EvS} (h : FairS a s) (hq : ∀ r, (t.rd r).q = (s.rd r).q) (hg : ∀ r, ∀ i ∈ (s.rd r).q, (t.grp i).came = (s.grp i).came) (hn : t.now = s.now) (hv : t.visits = s.visits) : FairS a t := by
  refine ⟨fun r => ?_, fun r i hi => ?_, by rw [hv, hn]; exact h.old, fun v hv' h1 h2 i hi => ?_, by rw [hv]; exact h.fair⟩
  · rw [hq]
    exact (h.srt r).imp_of_mem fun hi hj hR => by rw [hg r _ hi, hg r _ hj]; exact hR
  · rw [hq] at hi
    rw [hg r i hi, hn]
    exact h.now r i hi
  · rw [hv] at hv'
    rw [hq] at hi
    rw [hg _ i hi]
    exact h.ahead v hv' h1 h2 i hi
theorem fair_stand {a s : EvS} {i : Nat} (h : FairS a s) (hi : i < s.groups.length) (hout : ∀ r, i ∉ (s.rd r).q) : FairS a (standS s i) := by
  have hq : ∀ r, ((standS s i).rd r).q = (s.rd r).q ∨ ((standS s i).rd r).q = (s.rd r).q ++ [i] := fun r => by
    rcases q_modR s (s.grp i).goal (fun x => { x with q := x.q ++ [i] }) r with e | e
    · left; show ((s.modR _ _).rd r).q = _; rw [e]
    · right; show ((s.modR _ _).rd r).q = _; rw [e]
  have hg : ∀ r, ∀ j ∈ (s.rd r).q, ((standS s i).grp j).came = (s.grp j).came := fun r j hj => by
    rw [stand_other s hi (fun e => hout r (e ▸ hj))]
  have hc : ((standS s i).grp i).came = s.now := by rw [stand_grp s hi]
  have hn : (standS s i).now = s.now := rfl
  have hv : (standS s i).visits = s.visits := rfl
  have hm : ∀ r, ∀ j ∈ ((standS s i).rd r).q, j ∈ (s.rd r).q ∨ j = i := fun r j hj => by
    rcases hq r with e | e
    · rw [e] at hj; exact .inl hj
    · rw [e] at hj
      rcases List.mem_append.1 hj with k | k
      · exact .inl k
      · exact .inr (List.mem_singleton.1 k)
  refine ⟨fun r => ?_, fun r j hj => ?_, by rw [hv, hn]; exact h.old, fun v hv' h1 h2 j hj => ?_, by rw [hv]; exact h.fair⟩
  · have h0 : (s.rd r).q.Pairwise (fun i' j => ((standS s i).grp i').came ≤ ((standS s i).grp j).came) := (h.srt r).imp_of_mem fun hi hj hR => by rw [hg r _ hi, hg r _ hj]; exact hR
    rcases hq r with e | e
    · rw [e]; exact h0
    · rw [e, List.pairwise_append]
      refine ⟨h0, List.pairwise_singleton _ _, fun x hx y hy => ?_⟩
      rw [List.mem_singleton] at hy
      rw [hy, hc, hg r x hx]
      exact h.now r x hx
  · rcases hm r j hj with k | k
    · rw [hg r j k, hn]; exact h.now r j k
    · rw [k, hc, hn]; exact Int.le_refl _
  · rw [hv] at hv'
    rcases hm _ j hj with k | k
    · rw [hg _ j k]; exact h.ahead v hv' h1 h2 j k
    · rw [k, hc]; exact (h.old v hv').2
theorem goOn_q (s : EvS) (i r : Nat) : ((goOnS s i).rd r).q = (s.rd r).q ∨ ((goOnS s i).rd r).q = (s.rd r).q ++ [i] := by
  unfold goOnS
  dsimp only
  split
  · exact .inl rfl
  · split
    · rcases q_modR (s.modG i fun g => { g with want := g.want + 1 }) ((s.modG i fun g => { g with want := g.want + 1 }).grp i).goal (fun x => { x with q := x.q ++ [i] }) r with e | e
      · left; show (((s.modG i _).modR _ _).rd r).q = _; rw [e]; rfl
      · right; show (((s.modG i _).modR _ _).rd r).q = _; rw [e]; rfl
    · exact .inl rfl
theorem fair_modG {a s : EvS} {i : Nat} {f : GpS → GpS} (h : FairS a s) (hi : i < s.groups.length) (hout : ∀ r, i ∉ (s.rd r).q) : FairS a (s.modG i f) :=
  fair_same h (fun _ => rfl) (fun r j hj => by rw [grp_modG s i j f hi, if_neg (fun e => hout r (by rw [← e]; exact hj))]) rfl rfl
theorem fair_goOn {a s : EvS} {i : Nat} (h : FairS a s) (hi : i < s.groups.length) (hout : ∀ r, i ∉ (s.rd r).q) : FairS a (goOnS s i) := by
  have h1 : FairS a (s.modG i fun g => { g with want := g.want + 1 }) := fair_modG h hi hout
  have hl : i < (s.modG i fun g => { g with want := g.want + 1 }).groups.length := by rw [len_modG]; exact hi
  unfold goOnS
  dsimp only
  split
  · exact fair_modG h1 hl hout
  · split
    · exact fair_stand h1 hl hout
    · exact fair_modG h1 hl hout
theorem fair_leave {a s : EvS} {i : Nat} {on : Bool} (h : FairS a s) (hi : i ∈ (s.rd (s.grp i).goal).q) (hon : on = true → (a.rd (s.grp i).goal).b.fill = false → ∀ j ∈ (s.rd (s.grp i).goal).q, (s.grp i).came ≤ (s.grp j).came) : FairS a (leaveS s i on) := by
  have hq : ∀ r, List.Sublist ((leaveS s i on).rd r).q (s.rd r).q := fun r => by
    rcases q_modR s (s.grp i).goal (fun x => { x with q := x.q.filter (· ≠ i) }) r with e | e
    · show List.Sublist ((s.modR _ _).rd r).q _
      rw [e]; exact List.Sublist.refl _
    · show List.Sublist ((s.modR _ _).rd r).q _
      rw [e]; exact List.filter_sublist
  have hv : (leaveS s i on).visits = s.visits ++ [⟨i, (s.grp i).want, (s.grp i).goal, on, (s.grp i).came, s.now⟩] := rfl
  have hci := h.now _ i hi
  refine ⟨fun r => (h.srt r).sublist (hq r), fun r j hj => h.now r j ((hq r).subset hj), fun v hv' => ?_, fun v hv' h1 h2 j hj => ?_, fun v hv' w hw h1 h2 h3 h4 => ?_⟩
  · rw [hv] at hv'
    rcases List.mem_append.1 hv' with k | k
    · exact h.old v k
    · rw [List.mem_singleton] at k
      rw [k]
      exact ⟨Int.le_refl _, hci⟩
  · rw [hv] at hv'
    rcases List.mem_append.1 hv' with k | k
    · exact h.ahead v k h1 h2 j ((hq _).subset hj)
    · rw [List.mem_singleton] at k
      subst k
      exact hon h1 h2 j ((hq _).subset hj)
  · rw [hv] at hv' hw
    rcases List.mem_append.1 hv' with k | k <;> rcases List.mem_append.1 hw with k' | k'
    · exact h.fair v k w k' h1 h2 h3 h4
    · rw [List.mem_singleton] at k'
      subst k'
      have := h.ahead v k h1 h3 i (by rw [h2]; exact hi)
      have h4' : (s.grp i).came < v.came := h4
      omega
    · rw [List.mem_singleton] at k
      subst k
      exact (h.old w k').1
    · rw [List.mem_singleton] at k k'
      subst k
      subst k'
      exact Int.le_refl _
theorem leave_out {a s : EvS} {i : Nat} {on : Bool} (hw : WfS a s none) (hv : ValS a) (hi : i < s.groups.length) (hp : (s.grp i).place = 2) (r : Nat) : i ∉ ((leaveS s i on).rd r).q := fun hm =>
  (((wf_leave (on := on) hw hv hi hp).2.2.2.1 r i).1 hm).2 rfl
theorem fair_giveUp {a s : EvS} {i : Nat} (h : FairS a s) (hw : WfS a s none) (hv : ValS a) (hi : i < s.groups.length) (hp : (s.grp i).place = 2) : FairS a (giveUpS s i) :=
  fair_goOn (fair_leave (on := false) h (hw.std i hi (by simp) hp) (fun e => by cases e)) hi (leave_out hw hv hi hp)
theorem getOn_q (s : EvS) (i r : Nat) : ((getOnS s i).rd r).q = ((leaveS s i true).rd r).q := by
  rcases q_modR ((leaveS s i true).modG i fun g => { g with tok := g.tok - costS s i (s.grp i).goal, place := 3, til := s.now + (s.rd (s.grp i).goal).b.cycle }) (s.grp i).goal (fun x => { x with taken := x.taken + costS s i (s.grp i).goal }) r with e | e
  · have e2 := congrArg RdS.q e
    exact e2
  · have e2 := congrArg RdS.q e
    exact e2
theorem fair_getOn {a s : EvS} {i : Nat} (h : FairS a s) (hw : WfS a s none) (hi : i < s.groups.length) (hp : (s.grp i).place = 2) (hon : (a.rd (s.grp i).goal).b.fill = false → ∀ j ∈ (s.rd (s.grp i).goal).q, (s.grp i).came ≤ (s.grp j).came) : FairS a (getOnS s i) := by
  refine fair_same (fair_leave (on := true) h (hw.std i hi (by simp) hp) (fun _ => hon)) (fun r => getOn_q s i r) (fun r j _ => ?_) rfl rfl
  by_cases e : j = i
  · rw [e, getOn_grp s hi]; rfl
  · rw [getOn_other s hi e]; rfl
theorem fair_fill {a : EvS} (hv : ValS a) (r : Nat) : ∀ (l : List Nat) (left : Int) (s : EvS), BothS a s → FairS a s → l.Nodup → (∀ j ∈ l, j < s.groups.length ∧ (s.grp j).place = 2 ∧ (s.grp j).goal = r) → ((a.rd r).b.fill = false → ∃ tl, (s.rd r).q = l ++ tl) → FairS a (fillS r l left s).1 := by
  intro l
  induction l with
  | nil => intro left s _ h _ _ _; exact h
  | cons i l ih =>
    intro left s hb h hn hl hq
    obtain ⟨hi, hp, hg⟩ := hl i List.mem_cons_self
    rw [List.nodup_cons] at hn
    have rest : ∀ t : EvS, t.groups.length = s.groups.length → (∀ j, j ≠ i → t.grp j = s.grp j) → ∀ j ∈ l, j < t.groups.length ∧ (t.grp j).place = 2 ∧ (t.grp j).goal = r := fun t hlen ho j hj => by
      have hji : j ≠ i := fun e => hn.1 (e ▸ hj)
      rw [hlen, ho j hji]
      exact hl j (List.mem_cons_of_mem _ hj)
    have hwi := hb.1.at_ i hi (by simp) (.inr (.inl hp))
    have hrl : (s.grp i).goal < s.rides.length := goal_lt hv hb.1.fix hi hwi.1 hwi.2
    have hlq : ∀ on, (a.rd r).b.fill = false → ∃ tl, ((leaveS s i on).rd r).q = l ++ tl := fun on hf => by
      obtain ⟨tl, e⟩ := hq hf
      refine ⟨tl, ?_⟩
      have hnd := hb.1.nod r
      rw [e, List.cons_append, List.nodup_cons] at hnd
      have e2 : ((leaveS s i on).rd r).q = (s.rd r).q.filter (· ≠ i) := by
        rw [leave_rd s i r on hrl, if_pos hg.symm]
      rw [e2, e, List.cons_append, List.filter_cons_of_neg (by simp)]
      refine List.filter_eq_self.2 fun x hx => ?_
      have : x ≠ i := fun e => hnd.1 (e ▸ hx)
      simpa using this
    simp only [fillS]
    split
    · have hw := wf_giveUp hb.1 hv hi hp
      refine ih left _ ⟨hw, all_giveUp hb.1 hb.2 hi hp⟩ (fair_giveUp h hb.1 hv hi hp) hn.2 (rest _ (by rw [(fix_len hw.fix).1, (fix_len hb.1.fix).1]) fun j hj => giveUp_other s hi hj) (fun hf => ?_)
      obtain ⟨tl, e⟩ := hlq false hf
      rcases goOn_q (leaveS s i false) i r with e2 | e2
      · exact ⟨tl, e2.trans e⟩
      · exact ⟨tl ++ [i], by rw [← List.append_assoc, ← e]; exact e2⟩
    · rename_i hc
      split
      · have hw := wf_getOn hb.1 hv hi hp (by rw [hg]; omega)
        refine ih _ _ ⟨hw, all_getOn hb.1 hb.2 hi hp⟩ (fair_getOn h hb.1 hi hp (fun hf j hj => ?_)) hn.2 (rest _ (by rw [(fix_len hw.fix).1, (fix_len hb.1.fix).1]) fun j hj => getOn_other s hi hj) (fun hf => ?_)
        · rw [hg] at hf hj
          obtain ⟨tl, e⟩ := hq hf
          have hs := h.srt r
          rw [e, List.cons_append, List.pairwise_cons] at hs
          rw [e, List.cons_append] at hj
          rcases List.mem_cons.1 hj with k | k
          · rw [k]; exact Int.le_refl _
          · exact hs.1 j k
        · obtain ⟨tl, e⟩ := hlq true hf
          exact ⟨tl, (getOn_q s i r).trans e⟩
      · split
        · exact h
        · rename_i hfl
          refine ih left s hb h hn.2 (rest s rfl fun _ _ => rfl) (fun hf => ?_)
          rw [fix_rd hb.1.fix r] at hfl
          exact absurd hf hfl
theorem fair_rbeg {a s : EvS} (hv : ValS a) (r : Nat) (hb : BothS a s) (h : FairS a s) : FairS a (rbegS s r) := by
  unfold rbegS
  split
  · have hw := fair_fill hv r (s.rd r).q (s.rd r).b.seats s hb h (hb.1.nod r) (fun j hj => by
      obtain ⟨h1, _, h3, h4⟩ := hb.1.que r j hj
      exact ⟨h1, h3, h4⟩) (fun _ => ⟨[], by simp⟩)
    generalize fillS r (s.rd r).q (s.rd r).b.seats s = t at hw
    obtain ⟨t, left⟩ := t
    dsimp only at hw ⊢
    split
    · refine fair_same hw (fun r' => ?_) (fun _ _ _ => rfl) rfl rfl
      rcases q_modR t r (fun x => { x with ready := s.now + x.b.cycle + x.b.pause }) r' with e | e
      · rw [e]
      · rw [e]
    · exact hw
  · exact h
theorem fair_rbegs {a s : EvS} (hv : ValS a) (hb : BothS a s) (h : FairS a s) : FairS a (rbegsS s) := by
  unfold rbegsS
  generalize List.range s.rides.length = l
  induction l generalizing s with
  | nil => exact h
  | cons r l ih => exact ih (both_rbeg hv r hb) (fair_rbeg hv r hb h)
theorem fair_measure {a s : EvS} (h : FairS a s) : FairS a (measureS s) :=
  fair_same h (fun r => by
    unfold measureS EvS.rd
    simp only [List.getD_eq_getElem?_getD, List.getElem?_map]
    cases s.rides[r]? <;> rfl) (fun _ _ _ => rfl) rfl rfl
theorem fair_tick {a s : EvS} (hv : ValS a) (hb : BothS a s) (h : FairS a s) : FairS a (tickS s) := by
  have len : ∀ s, (BothS a s ∧ FairS a s) → s.groups.length = a.groups.length := fun _ h => (fix_len h.1.1.fix).1
  have out : ∀ s i, BothS a s → (s.grp i).place ≠ 2 → ∀ r, i ∉ (s.rd r).q := fun s i hb hp r hm => hp (hb.1.que r i hm).2.2.1
  have go : ∀ p, p = 0 ∨ p = 3 → ∀ s i, (BothS a s ∧ FairS a s) → i < s.groups.length → (s.grp i).place = p → (s.grp i).til = s.now → (BothS a (goOnS s i) ∧ FairS a (goOnS s i)) :=
    fun p hp s i h hi hpl ht => ⟨both_go hv h.1 hi (by omega) ht, fair_goOn h.2 hi (out s i h.1 (by omega))⟩
  have st : ∀ s i, (BothS a s ∧ FairS a s) → i < s.groups.length → (s.grp i).place = 1 → (s.grp i).til = s.now → (BothS a (standS s i) ∧ FairS a (standS s i)) :=
    fun s i h hi hpl ht => ⟨both_st hv h.1 hi hpl ht, fair_stand h.2 hi (out s i h.1 (by omega))⟩
  have gu : ∀ s i, (BothS a s ∧ FairS a s) → i < s.groups.length → (s.grp i).place = 2 → (s.grp i).til = s.now → (BothS a (giveUpS s i) ∧ FairS a (giveUpS s i)) :=
    fun s i h hi hpl _ => ⟨both_gu hv h.1 hi hpl, fair_giveUp h.2 h.1.1 hv hi hpl⟩
  have h4 := forDue_keep (P := fun s => BothS a s ∧ FairS a s) len gu (forDue_keep (P := fun s => BothS a s ∧ FairS a s) len st (forDue_keep (P := fun s => BothS a s ∧ FairS a s) len (go 0 (.inl rfl)) (forDue_keep (P := fun s => BothS a s ∧ FairS a s) len (go 3 (.inr rfl)) ⟨hb, h⟩)))
  unfold tickS
  exact fair_measure (fair_rbegs hv h4.1 h4.2)
theorem fair_now {a s : EvS} (h : FairS a s) (n : Int) (hn : s.now ≤ n) : FairS a { s with now := n } :=
  ⟨h.srt, fun r i hi => Int.le_trans (h.now r i hi) hn, fun v hv => ⟨Int.le_trans (h.old v hv).1 hn, Int.le_trans (h.old v hv).2 hn⟩, h.ahead, h.fair⟩
theorem fair_ticks {a : EvS} (hv : ValS a) : ∀ n s, FairS a s → BothS a s → FairS a (ticksS n s) := by
  intro n
  induction n with
  | zero => intro s h _; exact h
  | succ n ih =>
    intro s h hb
    simp only [ticksS]
    split
    · exact h
    · have ht := fair_tick hv hb h
      have hbt := both_tick hv hb
      have hn := now_tick s
      generalize tickS s = t at ht hbt hn ⊢
      exact ih _ (fair_now ht _ (by omega)) ⟨wf_now hbt.1 _, his_now hbt.2 _ (by omega)⟩
/-- What the statement looks at: of two visits at a ride without Fill. -/
def FairL (f : EveZ) (L : List VisZ) : Prop := ∀ v ∈ L, v.ride < f.rides.length ∧ ∀ w ∈ L, v.ride = w.ride → (f.rides.getD v.ride default).fill = false → v.on = true → w.came < v.came → w.left ≤ v.left
theorem fair_ok (f : EveZ) (l : List GrpZ) (ht : ∀ g ∈ l, 0 ≤ g.tokens) (hw : ∀ g ∈ l, ∀ w ∈ g.wants, 0 ≤ w ∧ w < (f.rides.length : Int)) (L : List VisZ) (hp : L.Perm (eveS f l).visits) : FairL f L := by
  have hwf := play_wf f l ht hw
  have hm : ∀ i, i < l.length → l.getD i default ∈ l := fun i hi => by
    rw [List.getD_eq_getElem?_getD, List.getElem?_eq_getElem hi]
    exact List.getElem_mem hi
  have hlen : (startS f l).groups.length = l.length := by simp [startS]
  have hrl : (startS f l).rides.length = f.rides.length := by simp [startS]
  have hq : ∀ r, ((startS f l).rd r).q = [] := fun r => by
    unfold EvS.rd startS
    simp only [List.getD_eq_getElem?_getD, List.getElem?_map]
    cases f.rides[r]? <;> rfl
  have hF : FairS (startS f l) (eveS f l) := by
    unfold eveS
    generalize 4001 = m
    refine fair_ticks (fun i hi w hm' => ?_) m _ ⟨fun r => by rw [hq]; exact List.Pairwise.nil, fun r i hi => (by rw [hq] at hi; cases hi), fun v hv => (by cases hv), fun v hv => (by cases hv), fun v hv => (by cases hv)⟩ ⟨wf_start f l ht, his_start f l⟩
    rw [start_grp f l (by omega)] at hm'
    have := hw _ (hm i (by omega)) w hm'
    rw [hrl]
    exact this
  have hrr : (eveS f l).rides.length = f.rides.length := by rw [(fix_len hwf.fix).2, hrl]
  generalize eveS f l = s at *
  intro v hv
  have hr : v.ride < f.rides.length := by
    have := (hwf.vis v (hp.mem_iff.1 hv)).2
    omega
  refine ⟨hr, fun w hw' e1 e2 e3 e4 => hF.fair v (hp.mem_iff.1 hv) w (hp.mem_iff.1 hw') e3 e1 ?_ e4⟩
  rw [start_rd f l hr]
  exact e2
end Go.Proofs.Ytphhabknlcfelaa
