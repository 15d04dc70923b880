/- What is left of a drawn region, by an invariant: each operation is walked once, whatever has come up before it. No program. -/
import Derived.OrdersHeld
namespace Go.Proofs.Ytkmiapfkebdpbaa

section
variable {P : Program} {ops : Array Oper} {Q : Exit → Act → World → Prop} {md : Region.Mode} {S : World → Prop}

def leftN (listed : Array Bool) : Nat := listed.toList.count false
theorem count_set (l : List Bool) : ∀ i, l[i]? = some false → (l.set i true).count false + 1 = l.count false := by
  induction l with
  | nil => intro i h; simp at h
  | cons b l ih =>
    intro i h
    cases i with
    | zero =>
      simp at h
      subst h
      simp
    | succ i =>
      have := ih i (by simpa using h)
      simp only [List.set_cons_succ, List.count_cons]
      omega
theorem leftN_set {listed : Array Bool} {i : Nat} (h : listed.getD i true = false) : leftN (listed.setIfInBounds i true) + 1 = leftN listed := by
  have hi : listed.toList[i]? = some false := by
    rcases Nat.lt_or_ge i listed.size with h' | h'
    · simp [h'] at h
      simp [h', h]
    · simp [Array.getElem?_eq_none h'] at h
  have := count_set listed.toList i hi
  unfold leftN
  rw [Array.toList_setIfInBounds]
  exact this
theorem all_listed {listed : Array Bool} (hs : listed.size = ops.size) (hlex : ∀ i o, ops[i]? = some o → ∀ e ∈ o.after, Region.binds md e = true → e.on < i) (hr : Region.ready md ops listed = []) :
    ∀ k, k < ops.size → listed.getD k false = true := by
  intro k
  induction k using Nat.strongRecOn with
  | _ k ih =>
    intro hk
    cases hg : listed.getD k false with
    | true => rfl
    | false =>
      have hm : k ∈ Region.ready md ops listed := by
        rw [mem_ready]
        refine ⟨?_, ops[k], by simp [hk], fun e he hb => ?_⟩
        · have h' : k < listed.size := by omega
          simp [h'] at hg ⊢
          exact hg
        · have := hlex k ops[k] (by simp [hk]) e he hb
          exact ih e.on this (by omega)
      rw [hr] at hm
      cases hm

/-- The operations that have to come up before operation i, of those that had not in listed0. -/
def needs (md : Region.Mode) (ops : Array Oper) (listed0 : Array Bool) (i : Nat) : List Nat :=
  match ops[i]? with
  | some o => (o.after.toList.filter fun e => Region.binds md e && !listed0.getD e.on true).map (·.on)
  | none => []
def lexOk (md : Region.Mode) (ops : Array Oper) : Bool := (List.range ops.size).all fun i => match ops[i]? with | some o => o.after.all fun e => !Region.binds md e || decide (e.on < i) | none => true
theorem lexOk_spec (h : lexOk md ops = true) : ∀ i o, ops[i]? = some o → ∀ e ∈ o.after, Region.binds md e = true → e.on < i := by
  intro i o ho e he hb
  have h1 := List.all_eq_true.1 h i (List.mem_range.2 (Array.getElem?_eq_some_iff.1 ho).1)
  rw [ho] at h1
  have h2 := Array.all_eq_true_iff_forall_mem.1 h1 e he
  simpa [hb] using h2
def restOk (listed0 : Array Bool) (rest : List Nat) : Bool := (List.range listed0.size).all fun i => listed0.getD i true == !rest.contains i

/-- The law for all that has not come up in listed0: G holds throughout, R i from where operation i has come up. -/
theorem region_rest {listed0 : Array Bool} (rest : List Nat) (hs : listed0.size = ops.size) (hlex : lexOk md ops = true) (hrest : restOk listed0 rest = true) (hlt : rest.all (fun k => decide (k < listed0.size)) = true)
    (G : Act → World → Prop) (R : Nat → Act → World → Prop) (hGS : ∀ a w, G a w → S w)
    (hstep : ∀ i ∈ rest, ∀ a w, G a w → (∀ j, (needs md ops listed0 i).contains j = true → R j a w) →
      wpOp P ops Q i (fun a' w' => G a' w' ∧ R i a' w' ∧ ∀ k ∈ rest, k ≠ i → (needs md ops listed0 k).contains i = false → R k a w → R k a' w') a w)
    (hdone : ∀ a w, G a w → (∀ k ∈ rest, R k a w) → Q .normal a w) :
    ∀ fuel a w, leftN listed0 ≤ fuel → G a w → wpAnyH P md ops Q S fuel listed0 a w := by
  have hlex := lexOk_spec hlex
  have hin : ∀ i, listed0.getD i true = false ↔ i ∈ rest := by
    intro i
    rcases Nat.lt_or_ge i listed0.size with h | h
    · have h1 := List.all_eq_true.1 hrest i (List.mem_range.2 h)
      simp only [beq_iff_eq] at h1
      rw [h1]
      simp
    · constructor
      · intro h2
        simp [Array.getElem?_eq_none h] at h2
      · intro h2
        have := List.all_eq_true.1 hlt i h2
        simp at this
        omega
  have hneed : ∀ i o e, ops[i]? = some o → e ∈ o.after → Region.binds md e = true → listed0.getD e.on true = false → (needs md ops listed0 i).contains e.on = true := by
    intro i o e ho he hb hn
    unfold needs
    rw [ho]
    simp only [List.contains_eq_mem, decide_eq_true_eq, List.mem_map, List.mem_filter, Array.mem_toList_iff, Bool.and_eq_true, Bool.not_eq_true']
    exact ⟨e, ⟨he, hb, hn⟩, rfl⟩
  have hneed' : ∀ i j, (needs md ops listed0 i).contains j = true → ∃ o e, ops[i]? = some o ∧ e ∈ o.after ∧ Region.binds md e = true ∧ listed0.getD e.on true = false ∧ e.on = j := by
    intro i j h
    unfold needs at h
    cases ho : ops[i]? with
    | none => rw [ho] at h; simp at h
    | some o =>
      rw [ho] at h
      simp only [List.contains_eq_mem, decide_eq_true_eq, List.mem_map, List.mem_filter, Array.mem_toList_iff, Bool.and_eq_true, Bool.not_eq_true'] at h
      obtain ⟨e, ⟨h1, h2, h3⟩, h4⟩ := h
      exact ⟨o, e, rfl, h1, h2, h3, h4⟩
  have same : ∀ (listed : Array Bool) k, k < listed.size → listed.getD k false = listed.getD k true := by
    intro listed k hk
    simp [hk]
  have key : ∀ fuel (listed : Array Bool) a w, listed.size = ops.size → (∀ k, listed0.getD k false = true → listed.getD k false = true) → leftN listed ≤ fuel → G a w →
      (∀ k ∈ rest, listed.getD k false = true → R k a w) → (∀ k ∈ rest, listed.getD k false = true → ∀ j, (needs md ops listed0 k).contains j = true → listed.getD j false = true) → wpAnyH P md ops Q S fuel listed a w := by
    intro fuel
    induction fuel with
    | zero =>
      intro listed a w hsz _ hf hG hR _
      have all : ∀ k, k < ops.size → listed.getD k false = true := by
        intro k hk
        have h' : k < listed.toList.length := by simp; omega
        have h0 : listed.toList.count false = 0 := by unfold leftN at hf; omega
        have hb : listed.toList[k] ≠ false := fun e => by
          have := List.count_pos_iff.2 (e ▸ List.getElem_mem h' : false ∈ listed.toList)
          omega
        simp at h' hb
        simp [h', hb]
      refine ⟨?_, hdone a w hG fun k hk => hR k hk (all k ?_)⟩
      · rw [List.eq_nil_iff_forall_not_mem]
        intro k hk
        obtain ⟨h1, o, h2, _⟩ := mem_ready.1 hk
        have hk' : k < ops.size := (Array.getElem?_eq_some_iff.1 h2).1
        have h3 := all k hk'
        rw [same listed k (by omega), h1] at h3
        cases h3
      · have := List.all_eq_true.1 hlt k hk
        simp at this
        omega
    | succ fuel ih =>
      intro listed a w hsz hsub hf hG hR hcl
      refine ⟨fun hr => hdone a w hG fun k hk => hR k hk (all_listed hsz hlex hr k ?_), fun i hi => ?_⟩
      · have := List.all_eq_true.1 hlt k hk
        simp at this
        omega
      obtain ⟨h1, o, h2, h3⟩ := mem_ready.1 hi
      have hi' : i < ops.size := (Array.getElem?_eq_some_iff.1 h2).1
      have hir : i ∈ rest := by
        rw [← hin]
        cases hc : listed0.getD i true with
        | false => rfl
        | true =>
          have h6 := hsub i (by rw [same listed0 i (by omega)]; exact hc)
          rw [same listed i (by omega), h1] at h6
          cases h6
      have hdeps : ∀ j, (needs md ops listed0 i).contains j = true → listed.getD j false = true := by
        intro j hj
        obtain ⟨o', e, h4, h5, h6, h7, rfl⟩ := hneed' i j hj
        rw [h2] at h4
        injection h4 with h4
        subst h4
        exact h3 e h5 h6
      have hjr : ∀ j, (needs md ops listed0 i).contains j = true → j ∈ rest := by
        intro j hj
        obtain ⟨o', e, _, _, _, h7, rfl⟩ := hneed' i j hj
        exact (hin _).1 h7
      refine wpOp_mono ?_ (hstep i hir a w hG fun j hj => hR j (hjr j hj) (hdeps j hj))
      rintro a' w' ⟨hG', hRi, hkeep⟩
      refine ⟨hGS _ _ hG', ih _ a' w' (by simpa using hsz) (fun k hk => getD_set_true (hsub k hk)) (by have := leftN_set h1; omega) hG' ?_ ?_⟩
      · intro k hk hl
        by_cases e : k = i
        · subst e; exact hRi
        · have hl' : listed.getD k false = true := by rwa [getD_set_ne false (Ne.symm e)] at hl
          refine hkeep k hk e ?_ (hR k hk hl')
          cases hc : (needs md ops listed0 k).contains i with
          | false => rfl
          | true =>
            have h6 := hcl k hk hl' i hc
            rw [same listed i (by omega), h1] at h6
            cases h6
      · intro k hk hl j hj
        by_cases e : k = i
        · subst e; exact getD_set_true (hdeps j hj)
        · exact getD_set_true (hcl k hk (by rwa [getD_set_ne false (Ne.symm e)] at hl) j hj)
  intro fuel a w hf hG
  have hno : ∀ k ∈ rest, listed0.getD k false = false := by
    intro k hk
    have h1 := List.all_eq_true.1 hlt k hk
    simp only [decide_eq_true_eq] at h1
    rw [same listed0 k h1]
    exact (hin k).2 hk
  refine key fuel listed0 a w hs (fun k h => h) hf hG ?_ ?_
  · intro k hk hl
    rw [hno k hk] at hl
    cases hl
  · intro k hk hl
    rw [hno k hk] at hl
    cases hl
/-- What has come up ahead of i, by d steps back. -/
def before (md : Region.Mode) (ops : Array Oper) (listed0 : Array Bool) : Nat → Nat → List Nat
  | 0, i => needs md ops listed0 i
  | d + 1, i => needs md ops listed0 i ++ (needs md ops listed0 i).flatMap (before md ops listed0 d)
/-- Where k is still wanted when i comes up: k is an end, or an operation j that may come behind i uses it. -/
def liveK (md : Region.Mode) (ops : Array Oper) (listed0 : Array Bool) (d : Nat) (rest outs : List Nat) (U : Nat → List Nat) (i k : Nat) : Bool :=
  !(before md ops listed0 d k).contains i && (outs.contains k || rest.any fun j => j != i && (U j).contains k && !(before md ops listed0 d i).contains j)
/-- As region_rest; R k is kept for as long as it is wanted: U j says what operation j uses, outs what is wanted at the end. -/
theorem region_use {listed0 : Array Bool} (d : Nat) (rest outs : List Nat) (U : Nat → List Nat) (hs : listed0.size = ops.size) (hlex : lexOk md ops = true) (hrest : restOk listed0 rest = true) (hlt : rest.all (fun k => decide (k < listed0.size)) = true)
    (hU : rest.all (fun j => (U j).all fun k => (needs md ops listed0 j).contains k) = true) (hout : outs.all (fun k => rest.contains k) = true)
    (G : Act → World → Prop) (R : Nat → Act → World → Prop) (hGS : ∀ a w, G a w → S w)
    (hstep : ∀ i ∈ rest, ∀ a w, G a w → (∀ j ∈ U i, R j a w) →
      wpOp P ops Q i (fun a' w' => G a' w' ∧ R i a' w' ∧ ∀ k ∈ rest, k ≠ i → liveK md ops listed0 d rest outs U i k = true → R k a w → R k a' w') a w)
    (hdone : ∀ a w, G a w → (∀ k ∈ outs, R k a w) → Q .normal a w) :
    ∀ fuel a w, leftN listed0 ≤ fuel → G a w → wpAnyH P md ops Q S fuel listed0 a w := by
  have hlex := lexOk_spec hlex
  have hin : ∀ i, listed0.getD i true = false ↔ i ∈ rest := by
    intro i
    rcases Nat.lt_or_ge i listed0.size with h | h
    · have h1 := List.all_eq_true.1 hrest i (List.mem_range.2 h)
      simp only [beq_iff_eq] at h1
      rw [h1]
      simp
    · constructor
      · intro h2
        simp [Array.getElem?_eq_none h] at h2
      · intro h2
        have := List.all_eq_true.1 hlt i h2
        simp at this
        omega
  have hneed : ∀ i o e, ops[i]? = some o → e ∈ o.after → Region.binds md e = true → listed0.getD e.on true = false → (needs md ops listed0 i).contains e.on = true := by
    intro i o e ho he hb hn
    unfold needs
    rw [ho]
    simp only [List.contains_eq_mem, decide_eq_true_eq, List.mem_map, List.mem_filter, Array.mem_toList_iff, Bool.and_eq_true, Bool.not_eq_true']
    exact ⟨e, ⟨he, hb, hn⟩, rfl⟩
  have hneed' : ∀ i j, (needs md ops listed0 i).contains j = true → ∃ o e, ops[i]? = some o ∧ e ∈ o.after ∧ Region.binds md e = true ∧ listed0.getD e.on true = false ∧ e.on = j := by
    intro i j h
    unfold needs at h
    cases ho : ops[i]? with
    | none => rw [ho] at h; simp at h
    | some o =>
      rw [ho] at h
      simp only [List.contains_eq_mem, decide_eq_true_eq, List.mem_map, List.mem_filter, Array.mem_toList_iff, Bool.and_eq_true, Bool.not_eq_true'] at h
      obtain ⟨e, ⟨h1, h2, h3⟩, h4⟩ := h
      exact ⟨o, e, rfl, h1, h2, h3, h4⟩
  have hor : ∀ k ∈ outs, k ∈ rest := fun k hk => by
    have := List.all_eq_true.1 hout k hk
    simpa using this
  have hUn : ∀ j ∈ rest, ∀ k ∈ U j, (needs md ops listed0 j).contains k = true := fun j hj k hk => List.all_eq_true.1 (List.all_eq_true.1 hU j hj) k hk
  have same : ∀ (listed : Array Bool) k, k < listed.size → listed.getD k false = listed.getD k true := by
    intro listed k hk
    simp [hk]
  have key : ∀ fuel (listed : Array Bool) a w, listed.size = ops.size → (∀ k, listed0.getD k false = true → listed.getD k false = true) → leftN listed ≤ fuel → G a w →
      (∀ k ∈ rest, listed.getD k false = true → (k ∈ outs ∨ ∃ j ∈ rest, listed.getD j false = false ∧ k ∈ U j) → R k a w) → (∀ k ∈ rest, listed.getD k false = true → ∀ j, (needs md ops listed0 k).contains j = true → listed.getD j false = true) → wpAnyH P md ops Q S fuel listed a w := by
    intro fuel
    induction fuel with
    | zero =>
      intro listed a w hsz _ hf hG hR _
      have all : ∀ k, k < ops.size → listed.getD k false = true := by
        intro k hk
        have h' : k < listed.toList.length := by simp; omega
        have h0 : listed.toList.count false = 0 := by unfold leftN at hf; omega
        have hb : listed.toList[k] ≠ false := fun e => by
          have := List.count_pos_iff.2 (e ▸ List.getElem_mem h' : false ∈ listed.toList)
          omega
        simp at h' hb
        simp [h', hb]
      refine ⟨?_, hdone a w hG fun k hk => hR k (hor k hk) (all k ?_) (.inl hk)⟩
      · rw [List.eq_nil_iff_forall_not_mem]
        intro k hk
        obtain ⟨h1, o, h2, _⟩ := mem_ready.1 hk
        have hk' : k < ops.size := (Array.getElem?_eq_some_iff.1 h2).1
        have h3 := all k hk'
        rw [same listed k (by omega), h1] at h3
        cases h3
      · have := List.all_eq_true.1 hlt k (hor k hk)
        simp at this
        omega
    | succ fuel ih =>
      intro listed a w hsz hsub hf hG hR hcl
      refine ⟨fun hr => hdone a w hG fun k hk => hR k (hor k hk) (all_listed hsz hlex hr k ?_) (.inl hk), fun i hi => ?_⟩
      · have := List.all_eq_true.1 hlt k (hor k hk)
        simp at this
        omega
      obtain ⟨h1, o, h2, h3⟩ := mem_ready.1 hi
      have hi' : i < ops.size := (Array.getElem?_eq_some_iff.1 h2).1
      have hir : i ∈ rest := by
        rw [← hin]
        cases hc : listed0.getD i true with
        | false => rfl
        | true =>
          have h6 := hsub i (by rw [same listed0 i (by omega)]; exact hc)
          rw [same listed i (by omega), h1] at h6
          cases h6
      have hdeps : ∀ j, (needs md ops listed0 i).contains j = true → listed.getD j false = true := by
        intro j hj
        obtain ⟨o', e, h4, h5, h6, h7, rfl⟩ := hneed' i j hj
        rw [h2] at h4
        injection h4 with h4
        subst h4
        exact h3 e h5 h6
      have hjr : ∀ j, (needs md ops listed0 i).contains j = true → j ∈ rest := by
        intro j hj
        obtain ⟨o', e, _, _, _, h7, rfl⟩ := hneed' i j hj
        exact (hin _).1 h7
      have hbef : ∀ f m, (∀ j, (needs md ops listed0 m).contains j = true → listed.getD j false = true) → ∀ j ∈ before md ops listed0 f m, listed.getD j false = true := by
        intro f
        induction f with
        | zero => intro m hm j hj; exact hm j (by simpa [before] using hj)
        | succ f ihf =>
          intro m hm j hj
          rcases List.mem_append.1 hj with hj | hj
          · exact hm j (by simpa using hj)
          · obtain ⟨p, hp, hj⟩ := List.mem_flatMap.1 hj
            have hp' : (needs md ops listed0 m).contains p = true := by simpa using hp
            obtain ⟨_, _, _, _, _, h7, hpe⟩ := hneed' m p hp'
            exact ihf p (hcl p (hpe ▸ (hin _).1 h7) (hm p hp')) j hj
      refine wpOp_mono ?_ (hstep i hir a w hG fun j hj => hR j (hjr j (hUn i hir j hj)) (hdeps j (hUn i hir j hj)) (.inr ⟨i, hir, by rw [same listed i (by omega)]; exact h1, hj⟩))
      rintro a' w' ⟨hG', hRi, hkeep⟩
      refine ⟨hGS _ _ hG', ih _ a' w' (by simpa using hsz) (fun k hk => getD_set_true (hsub k hk)) (by have := leftN_set h1; omega) hG' ?_ ?_⟩
      · intro k hk hl hw
        by_cases e : k = i
        · subst e; exact hRi
        · have hl' : listed.getD k false = true := by rwa [getD_set_ne false (Ne.symm e)] at hl
          have hno : (before md ops listed0 d k).contains i = false := by
            cases hc : (before md ops listed0 d k).contains i with
            | false => rfl
            | true =>
              have h6 := hbef d k (hcl k hk hl') i (by simpa using hc)
              rw [same listed i (by omega), h1] at h6
              cases h6
          have hi2 : (listed.setIfInBounds i true).getD i false = true := by
            have : i < listed.size := by omega
            simp [this]
          refine hkeep k hk e ?_ (hR k hk hl' ?_)
          · unfold liveK
            rw [hno]
            rcases hw with hw | ⟨j, hj, hju, hjk⟩
            · simp [hw]
            · have hji : j ≠ i := fun e' => by rw [e', hi2] at hju; cases hju
              have hnj : (before md ops listed0 d i).contains j = false := by
                cases hc : (before md ops listed0 d i).contains j with
                | false => rfl
                | true =>
                  have h7 := hbef d i hdeps j (by simpa using hc)
                  rw [getD_set_ne false (Ne.symm hji), h7] at hju
                  cases hju
              simp only [Bool.not_false, Bool.true_and, Bool.or_eq_true, List.any_eq_true]
              exact .inr ⟨j, hj, by rw [hnj]; simp [hji, hjk]⟩
          · rcases hw with hw | ⟨j, hj, hju, hjk⟩
            · exact .inl hw
            · have hji : j ≠ i := fun e' => by rw [e', hi2] at hju; cases hju
              exact .inr ⟨j, hj, by rwa [getD_set_ne false (Ne.symm hji)] at hju, hjk⟩
      · intro k hk hl j hj
        by_cases e : k = i
        · subst e; exact getD_set_true (hdeps j hj)
        · exact getD_set_true (hcl k hk (by rwa [getD_set_ne false (Ne.symm e)] at hl) j hj)
  intro fuel a w hf hG
  have hno : ∀ k ∈ rest, listed0.getD k false = false := by
    intro k hk
    have h1 := List.all_eq_true.1 hlt k hk
    simp only [decide_eq_true_eq] at h1
    rw [same listed0 k h1]
    exact (hin k).2 hk
  refine key fuel listed0 a w hs (fun k h => h) hf hG ?_ ?_
  · intro k hk hl _
    rw [hno k hk] at hl
    cases hl
  · intro k hk hl
    rw [hno k hk] at hl
    cases hl
end
end Go.Proofs.Ytkmiapfkebdpbaa
