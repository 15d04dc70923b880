/- The rule for regions that draw their order, where one operation stores into what another laid. No program. -/
import Derived.Test.YtaocgkmobfocjaaRi
import Derived.Test.YtaocgkmobfocjaaRh
namespace Go.Proofs.Ytaocgkmobfocjaa
open Go Go.RowKit

def StepX (E : Nat → (Act → World → Prop) → Act → World → Prop) (ops : Array Oper) (a : Act) (ds : List (Nat × Tmp)) (m : Nat) (I : (Nat → Bool) → (Nat → Value) → World → Prop) (V : Nat → Value → World → Prop) (i : Nat) (dst : Option Tmp) : Prop :=
  ∀ (xs : Nat → Value) (done : Nat → Bool) (y : World), I done xs y → done i = false → (∀ j, aheadB ops 8 j i = true → done j = false) → (∀ j, aheadB ops 8 i j = true → done j = true) → (∀ j, aheadB ops 8 i j = true → V j (xs j) y) → ∀ K : Act → World → Prop,
    Shut (∀ v z, I (setD done i) (setX xs i v) z → V i v z → (∀ j u, j < m → j ≠ i → done j = true → V j u y → V j u z) → K ((putsF a ds xs).put dst v) z) → E i K (putsF a ds xs) y
section
variable {E : Nat → (Act → World → Prop) → Act → World → Prop} {ops : Array Oper} {Q0 : Act → World → Prop}
theorem rg_coreX (hmono : ∀ i K K' a w, (∀ a w, K a w → K' a w) → E i K a w → E i K' a w) {a : Act} {ord : List Nat} {ds : List (Nat × Tmp)} {m : Nat} {I : (Nat → Bool) → (Nat → Value) → World → Prop} {V : Nat → Value → World → Prop} (hok : rgB ops ord m ds = true) (hm : m ≤ ops.size) (hs : ∀ i o, i < m → ops[i]? = some o → StepX E ops a ds m I V i o.dst)
    (hend : ∀ xs done w', I done xs w' → (∀ j, j < m → done j = true) → (∀ j, m ≤ j → j < ops.size → done j = false) → (∀ j, j < m → V j (xs j) w') → opsE E Q0 (List.range' m (ops.size - m)) (putsF a ds xs) w') :
    ∀ (fuel : Nat) (listed : Array Bool) (xs : Nat → Value) (w : World), listed.size = ops.size → unl ops listed ≤ fuel → DC ops listed → (∀ j, m ≤ j → j < ops.size → listed.getD j true = false) → I (fun j => listed.getD j false) xs w → (∀ j, j < m → listed.getD j false = true → V j (xs j) w) →
      anyE E ops Q0 fuel listed (putsF a ds xs) w := by
  simp only [rgB, Bool.and_eq_true, List.all_eq_true, List.mem_range, Bool.or_eq_true, decide_eq_true_eq] at hok
  obtain ⟨⟨⟨hds, hord⟩, hdst⟩, hfin0⟩ := hok
  have hlex : ∀ (k : Nat) (o : Oper), m ≤ k → ops[k]? = some o → ∀ e ∈ o.after, Region.binds .any e = true → e.on < k := fun k o hmk ho e he hb => by
    rcases hfin0 k (Array.getElem?_eq_some_iff.1 ho).1 with h | h
    · omega
    · have h := h.1
      rw [ho] at h
      have h3 := (Array.all_eq_true_iff_forall_mem.1 h) e he
      rw [hb] at h3
      simpa using h3
  have hfin : ∀ k, m ≤ k → k < ops.size → ∀ j, j < k → aheadB ops 8 k j = true := fun k h1 h2 j hj => by
    rcases hfin0 k h2 with h | h
    · omega
    · exact h.2 j hj
  intro fuel
  induction fuel with
  | zero =>
    intro listed xs w hsz hu hdc hnot hI hV
    have hall : ∀ k, k < ops.size → listed.getD k true = true := fun k hk => by
      cases h : listed.getD k true with
      | true => rfl
      | false =>
        have := unl_set hk hsz h
        omega
    have hme : m = ops.size := by
      rcases Nat.lt_or_ge m ops.size with h | h
      · have h1 := hnot m (Nat.le_refl _) h
        rw [hall m h] at h1
        cases h1
      · omega
    have hall' : ∀ j, j < ops.size → listed.getD j false = true := fun j hj => by
      have := hall j hj
      have hl : j < listed.size := by omega
      simpa [hl] using this
    have h := hend xs _ w hI (fun j hj => hall' j (by omega)) (fun j h1 h2 => by omega) fun j hj => hV j hj (hall' j (by omega))
    exact fin_chainE hmono hlex hfin (ops.size - m) 0 m listed _ w (by omega) (by omega) (Nat.le_refl _) hsz hdc (fun j hj => hall' j (by omega)) (fun j h1 h2 => by omega) h
  | succ fuel ih =>
    intro listed xs w hsz hu hdc hnot hI hV
    refine ⟨fun hr => ?_, fun i hi => ?_⟩
    · have hall : ∀ k, k < ops.size → listed.getD k true = true := fun k hk => none_ready hsz hr ord [] hord.1 (fun _ h => by cases h) k (by simpa using hord.2 k hk)
      have hme : m = ops.size := by
        rcases Nat.lt_or_ge m ops.size with h | h
        · have h1 := hnot m (Nat.le_refl _) h
          rw [hall m h] at h1
          cases h1
        · omega
      have hd : ∀ j, j < m → listed.getD j false = true := fun j hj => by
        have h1 := hall j (by omega)
        have hl : j < listed.size := by omega
        simpa [hl] using h1
      have h := hend xs _ w hI hd (fun j h1 h2 => by omega) fun j hj => hV j hj (hd j hj)
      rw [show ops.size - m = 0 by omega] at h
      simpa [opsE] using h
    · obtain ⟨h1, o, h2, h3⟩ := mem_ready.1 hi
      have his := (Array.getElem?_eq_some_iff.1 h2).1
      rcases Nat.lt_or_ge i m with him | him
      · have hunl : ∀ j, aheadB ops 8 j i = true → listed.getD j false = false := fun j hj => by
          cases hl : listed.getD j false with
          | false => rfl
          | true =>
            exfalso
            cases ho : ops[j]? with
            | none => simp [aheadB, ho] at hj
            | some o' =>
              have hjl : j < listed.size := by rw [hsz]; exact (Array.getElem?_eq_some_iff.1 ho).1
              have h4 := ahead_listed hdc hsz 8 j i o' ho (hdc j o' ho (by simpa [hjl] using hl)) hj
              have : i < listed.size := by omega
              simp [this] at h1 h4
              rw [h1] at h4
              cases h4
        have h1f : listed.getD i false = false := by
          have : i < listed.size := by omega
          simpa [this] using h1
        refine hs i o him h2 xs _ w hI h1f hunl (fun j hj => ahead_listed hdc hsz 8 i j o h2 h3 hj) (fun j hj => hV j (by
          rcases Nat.lt_or_ge j m with h | h
          · exact h
          · have h4 := ahead_listed hdc hsz 8 i j o h2 h3 hj
            rcases Nat.lt_or_ge j ops.size with h' | h'
            · have h5 := hnot j h h'
              have : j < listed.size := by omega
              simp [this] at h4 h5
              rw [h5] at h4
              cases h4
            · simp [Array.getElem?_eq_none (show listed.size ≤ j by omega)] at h4) (ahead_listed hdc hsz 8 i j o h2 h3 hj)) _ ?_
        intro v w'' hI' hVi hkeep
        have hnew : (putsF a ds xs).put o.dst v = putsF a ds (setX xs i v) := by
          have hd0 := hdst i him
          rw [h2] at hd0
          have hd : (match o.dst with | none => !ds.any (fun p => p.1 == i) | some d => ds.contains (i, d)) = true := hd0
          clear hd0
          cases hod : o.dst with
          | none =>
            rw [hod] at hd
            show putsF a ds xs = _
            refine (putsF_other fun p hp hpi => ?_).symm
            simp only [Bool.not_eq_true', List.any_eq_false, beq_iff_eq] at hd
            exact hd p hp hpi
          | some d =>
            rw [hod] at hd
            exact putsF_set ds a xs i d v hds (by simpa using hd)
        rw [hnew]
        have hset : (fun j => (listed.setIfInBounds i true).getD j false) = setD (fun j => listed.getD j false) i := by
          funext j
          unfold setD
          by_cases hji : j = i
          · subst hji
            have : j < listed.size := by omega
            simp [this]
          · rw [if_neg hji, getD_set_ne false (Ne.symm hji)]
        refine ih _ (setX xs i v) w'' (by simpa using hsz) (by have := unl_set his hsz h1; omega) (dc_set h2 h3 hdc) (fun j hj hjs => ?_) (by rw [hset]; exact hI') (fun j hj hl => ?_)
        · rw [getD_set_ne true (by omega)]
          exact hnot j hj hjs
        · by_cases hji : j = i
          · subst hji
            simp only [setX, if_true]
            exact hVi
          · simp only [setX, if_neg hji]
            rw [getD_set_ne false (Ne.symm hji)] at hl
            exact hkeep j _ hj hji hl (hV j hj hl)
      · have hdone : ∀ j, j < i → listed.getD j false = true := fun j hj => ahead_listed hdc hsz 8 i j o h2 h3 (hfin i him his j hj)
        have hmi : m = i := by
          rcases Nat.lt_or_ge m i with h | h
          · have h4 := hdone m h
            have h5 := hnot m (Nat.le_refl _) (by omega)
            have : m < listed.size := by omega
            simp [this] at h4 h5
            rw [h5] at h4
            cases h4
          · omega
        subst hmi
        have h := hend xs _ w hI (fun j hj => hdone j hj) (fun j h1 h2 => by have h3 := hnot j h1 h2; have : j < listed.size := (by omega); simpa [this] using h3) fun j hj => hV j hj (hdone j hj)
        have h4 := fin_chainE hmono hlex hfin (ops.size - m) (fuel + 1) m listed _ w (by omega) (by
          have : ops.size - m ≤ unl ops listed := by
            have e : List.range' m (ops.size - m) = (List.range' m (ops.size - m)).filter fun i => !listed.getD i true := by
              rw [List.filter_eq_self.2]
              intro x hx
              rw [List.mem_range'_1] at hx
              rw [hnot x hx.1 (by omega)]
              rfl
            have e2 : List.range ops.size = List.range m ++ List.range' m (ops.size - m) := by
              have h9 : List.range' 0 m ++ List.range' (0 + m) (ops.size - m) = List.range' 0 (m + (ops.size - m)) := List.range'_append_1 ..
              rw [Nat.zero_add, show m + (ops.size - m) = ops.size by omega] at h9
              rw [List.range_eq_range', List.range_eq_range', h9]
            unfold unl
            rw [e2, List.filter_append, List.length_append, ← e]
            simp
          omega) (Nat.le_refl _) hsz hdc hdone hnot h
        exact h4.2 m hi

end
section
variable {E : Nat → (Act → World → Prop) → Act → World → Prop} {ops : Array Oper} {Q0 : Act → World → Prop}
theorem rg_startX (hmono : ∀ i K K' a w, (∀ a w, K a w → K' a w) → E i K a w → E i K' a w) {a : Act} {w : World} {ord : List Nat} {ds : List (Nat × Tmp)} {m : Nat} {I : (Nat → Bool) → (Nat → Value) → World → Prop} {V : Nat → Value → World → Prop} (hok : rgB ops ord m ds = true) (hm : m ≤ ops.size) (hI : ∀ xs, I (fun _ => false) xs w)
    (hs : ∀ i o, i < m → ops[i]? = some o → StepX E ops a ds m I V i o.dst)
    (hend : ∀ xs done w', I done xs w' → (∀ j, j < m → done j = true) → (∀ j, m ≤ j → j < ops.size → done j = false) → (∀ j, j < m → V j (xs j) w') → opsE E Q0 (List.range' m (ops.size - m)) (putsF a ds xs) w') :
    anyE E ops Q0 ops.size (Array.replicate ops.size false) a w := by
  have hds : dsOk ds = true := by
    simp only [rgB, Bool.and_eq_true] at hok
    exact hok.1.1.1
  obtain ⟨xs, hx⟩ := putsF_self ds a hds
  have hno : ∀ j, (Array.replicate ops.size false).getD j false = false := fun j => by
    by_cases hj : j < ops.size <;> simp [hj]
  have h := rg_coreX hmono hok hm hs hend ops.size (Array.replicate ops.size false) xs w (by simp) (by
      unfold unl
      exact Nat.le_trans (List.length_filter_le _ _) (by simp)) (fun k o ho hk => by
      have := (Array.getElem?_eq_some_iff.1 ho).1
      simp [this] at hk) (fun j _ hj => by simp [hj]) (by simp only [hno]; exact hI xs) (fun j _ h => by rw [hno] at h; cases h)
  rw [hx] at h
  exact h
end
/-- What is kept where this operation stores. -/
def KeepL (y z : World) : List (Value → World → Prop) → Prop
  | [] => True
  | p :: l => (∀ u, p u y → p u z) ∧ KeepL y z l
theorem KeepL.nil {y z : World} : KeepL y z [] := trivial
theorem KeepL.cons {y z : World} {p : Value → World → Prop} {l : List (Value → World → Prop)} (h : ∀ u, p u y → p u z) (hl : KeepL y z l) : KeepL y z (p :: l) := ⟨h, hl⟩
theorem KeepL.at {y z : World} : ∀ {l : List (Value → World → Prop)}, KeepL y z l → ∀ (j : Nat) (u : Value), vAt l j u y → vAt l j u z
  | [], _, _, _, _ => trivial
  | _ :: _, h, 0, u, hu => h.1 u hu
  | _ :: l, h, j + 1, u, hu => KeepL.at (l := l) h.2 j u hu
def StoreStep (P : Program) (ops : Array Oper) (Q : Exit → Act → World → Prop) (a : Act) (ds : List (Nat × Tmp)) (w0 : World) (l : List (Value → World → Prop)) (k s : Nat) (L : Value → World → Prop) : Prop :=
  ∀ o, ops[s]? = some o → o.dst = none ∧ o.guard = none ∧ ∀ (xs : Nat → Value) (y : World), Below w0.heap.size w0 y → (∀ j, aheadB ops 8 s j = true → vAt l j (xs j) y) → ∀ K : Act → World → Prop,
    Shut (∀ z, Below w0.heap.size w0 z → KeepL y z l → L (xs k) z → K (putsF a ds xs) z) → o.wp P (putsF a ds xs) y K Q
theorem wpOp_of {P : Program} {ops : Array Oper} {Q : Exit → Act → World → Prop} {i : Nat} {a : Act} {w : World} {o : Oper} {K : Act → World → Prop} (ho : ops[i]? = some o) (h : if Region.wanted o (yielded ops a.tmps) = true then o.wp P a w K Q else K (a.put o.dst undef) w) : wpOp P ops Q i K a w := by
  unfold wpOp
  rw [ho]
  show if Region.wanted o (yielded ops a.tmps) = true then _ else _
  by_cases hw : Region.wanted o (yielded ops a.tmps) = true
  · rw [if_pos hw] at h ⊢
    exact .inl h
  · rw [if_neg hw] at h ⊢
    exact h
theorem wp_region_st {P : Program} {ops : Array Oper} {Q : Exit → Act → World → Prop} {id : Nat} {a : Act} {w0 : World} {ord : List Nat} {ds : List (Nat × Tmp)} {l : List (Value → World → Prop)} (m k s : Nat) (L : Value → World → Prop) (hmx : P.follows .mixedOrders = true) (hok : rgB ops ord m ds = true) (hm : ops.size = m) (hks : aheadB ops 8 s k = true) (hne : (k == s) = false)
    (hs : ∀ i, i < m → i ≠ s → AddStep P ops Q a ds w0 l i) (hst : AllSt l) (hL : Stable L) (hss : StoreStep P ops Q a ds w0 l k s L) (hno : (vAt l s) = fun _ _ => True)
    (hend : ∀ (xs : Nat → Value) (y : World), Below w0.heap.size w0 y → (∀ j, j < m → vAt l j (xs j) y) → L (xs k) y → Q .normal (putsF a ds xs) y) (hsm : s < m) : (Code.region id ops true).wp P Q a w0 := by
  have hne : k ≠ s := by simpa using hne
  refine wp_region_any hmx (anyE_wp _ _ _ _ (rg_startX (E := wpOp P ops Q) (w := w0.drew) (m := m) (V := vAt l) (I := fun done xs y => Below w0.heap.size w0 y ∧ (done s = true → L (xs k) y)) (fun _ _ _ _ _ h => wpOp_mono h) hok (Nat.le_of_eq hm.symm) (fun _ => ⟨(Below.refl _ _).drew, fun h => by cases h⟩) (fun i o him ho => ?_) fun xs done y hy hd _ hV => ?_))
  · intro xs done y hy hdi hup hdn hV K hK
    by_cases his : i = s
    · subst his
      obtain ⟨h1, h2, h3⟩ := hss o ho
      refine wpOp_of ho ?_
      rw [if_pos (by simp [Region.wanted, h2])]
      refine h3 xs y hy.1 hV K fun z hz hkp hLz => ?_
      have h := hK.out undef z ⟨hz, fun _ => by simp only [setX, if_neg hne]; exact hLz⟩ (by rw [hno]; trivial) (fun j u _ _ _ hj => hkp.at j u hj)
      rw [h1] at h
      exact h
    · refine wpOp_of ho (hs i him his o ho xs y hy.1 hV K fun v z hz hv => ?_)
      refine hK.out v z ⟨hy.1.trans (hz.mono hy.1.size), fun hds => ?_⟩ hv (fun j u _ _ _ hj => stable_vAt l hst j u y z hj hz)
      have hdt : done s = true := by simpa only [setD, if_neg (Ne.symm his)] using hds
      have hki : k ≠ i := by
        rintro rfl
        rw [hup s hks] at hdt
        cases hdt
      simp only [setX, if_neg hki]
      exact hL _ _ _ (hy.2 hdt) hz
  · rw [hm, Nat.sub_self]
    exact hend xs y hy.1 hV (hy.2 (hd s hsm))
theorem StoreStep.go {P : Program} {ops : Array Oper} {Q : Exit → Act → World → Prop} {a : Act} {ds : List (Nat × Tmp)} {w0 : World} {l : List (Value → World → Prop)} {k s : Nat} {L : Value → World → Prop} {o : Oper} (ho : ops[s]? = some o) (hd : o.dst = none) (hg : o.guard = none)
    (h : ∀ (xs : Nat → Value) (y : World), Below w0.heap.size w0 y → (∀ j, aheadB ops 8 s j = true → vAt l j (xs j) y) → ∀ K : Act → World → Prop,
      Shut (∀ z, Below w0.heap.size w0 z → KeepL y z l → L (xs k) z → K (putsF a ds xs) z) → o.wp P (putsF a ds xs) y K Q) : StoreStep P ops Q a ds w0 l k s L := fun o' ho' => by
  rw [ho] at ho'
  injection ho' with ho'
  subst ho'
  exact ⟨hd, hg, h⟩
theorem wp_region_store {P : Program} {ops : Array Oper} {Q : Exit → Act → World → Prop} {id : Nat} {a : Act} {w0 : World} {ord : List Nat} {ds : List (Nat × Tmp)} {l : List (Value → World → Prop)} (m k s s' n2 : Nat) (L : Value → World → Prop) (hn : s' = s + 1) (hn2 : s + 1 + n2 = m) (hmx : P.follows .mixedOrders = true) (hok : rgB ops ord m ds = true) (hm : ops.size = m) (hks : aheadB ops 8 s k = true) (hne : (k == s) = false)
    (hs1 : AddSteps P ops Q a ds w0 l 0 s) (hss : StoreStep P ops Q a ds w0 l k s L) (hs2 : AddSteps P ops Q a ds w0 l s' n2) (hno : (vAt l s) = fun _ _ => True) (hst : AllSt l) (hL : Stable L)
    (hend : ∀ (xs : Nat → Value) (y : World), Below w0.heap.size w0 y → (∀ j, j < m → vAt l j (xs j) y) → L (xs k) y → Q .normal (putsF a ds xs) y) : (Code.region id ops true).wp P Q a w0 := by
  subst hn
  refine wp_region_st m k s L hmx hok hm hks hne (fun i him his => ?_) hst hL hss hno hend (by omega)
  rcases Nat.lt_or_ge i s with h | h
  · exact hs1.at s 0 i (Nat.zero_le _) (by omega)
  · exact hs2.at n2 (s + 1) i (by omega) (by omega)
/-- Nothing is asked. -/
def anyV : Value → World → Prop := fun _ _ => True
theorem stable_anyV : Stable anyV := fun _ _ _ h _ => h
/-- A slice of a program's own, wherever it lies. -/
def isMine (e : TypeId) (size n : Nat) (xs : List Value) : Value → World → Prop := fun u y => ∃ A c b, u = .slice A n c ∧ y.ownsRow b e size (.slice A n c) n xs
theorem stable_isMine (e : TypeId) (size n : Nat) (xs : List Value) : Stable (isMine e size n xs) := fun _ _ _ ⟨A, c, b, h1, h2⟩ hb => ⟨A, c, b, h1, own_below h2 hb⟩
/-- A place of a variable, laid above this. -/
def isPlace (base : Nat) (e : TypeId) (n : Nat) : Value → World → Prop := fun u y => ∃ g cs, u = .pointer (some ⟨g, 0, none⟩) ∧ base ≤ g ∧ Row y g e cs ∧ cs.length = n
theorem stable_isPlace (base : Nat) (e : TypeId) (n : Nat) : Stable (isPlace base e n) := fun _ _ _ ⟨g, cs, h1, h2, h3, h4⟩ hb => ⟨g, cs, h1, h2, h3.below hb h3.lt, h4⟩
def holdsRow (e : TypeId) (cs : List Value) : Value → World → Prop := fun u y => ∃ g, u = .pointer (some ⟨g, 0, none⟩) ∧ Row y g e cs
theorem stable_holdsRow (e : TypeId) (cs : List Value) : Stable (holdsRow e cs) := fun _ _ _ ⟨g, h1, h2⟩ hb => ⟨g, h1, h2.below hb h2.lt⟩
theorem heap_set3 (y : World) (g : Nat) (v0 v1 v2 : Value) (b : Nat) (h : b ≠ g) : (((y.setCell ⟨g, 0, none⟩ v0).setCell ⟨g, 1, none⟩ v1).setCell ⟨g, 2, none⟩ v2).heap[b]? = y.heap[b]? :=
  ((Below.heap_setCell _ _ _ b h).trans (Below.heap_setCell _ _ _ b h)).trans (Below.heap_setCell _ _ _ b h)
theorem row_set3 {y : World} {g : Nat} {t : TypeId} {a0 a1 a2 : Value} (h : Row y g t [a0, a1, a2]) (v0 v1 v2 : Value) : Row (((y.setCell ⟨g, 0, none⟩ v0).setCell ⟨g, 1, none⟩ v1).setCell ⟨g, 2, none⟩ v2) g t [v0, v1, v2] := by
  have h := ((h.set 0 v0).set 1 v1).set 2 v2
  simpa only [List.set_cons_zero, List.set_cons_succ] using h
theorem keep_mine {y : World} {e T : TypeId} {size n g : Nat} {xs cs : List Value} (hr : Row y g T cs) (hne : T ≠ e) (v0 v1 v2 : Value) : ∀ u, isMine e size n xs u y → isMine e size n xs u (((y.setCell ⟨g, 0, none⟩ v0).setCell ⟨g, 1, none⟩ v1).setCell ⟨g, 2, none⟩ v2) := by
  rintro u ⟨A, c, b, h1, h2⟩
  refine ⟨A, c, b, h1, h2.1, ?_⟩
  rcases h2.2 with h3 | ⟨g', cap, cur, hv, hb, hg, hx⟩
  · exact .inl h3
  · refine .inr ⟨g', cap, cur, hv, hb, ?_, hx⟩
    rw [heap_set3 y g v0 v1 v2 g' ?_]
    · exact hg
    · rintro rfl
      obtain ⟨cs', h4, _⟩ := hr
      rw [h4] at hg
      injection hg with hg
      injection hg with _ hg
      exact hne hg
theorem keep_place {y : World} {e : TypeId} {base g : Nat} (v0 v1 v2 : Value) : ∀ u, isPlace base e 3 u y → isPlace base e 3 u (((y.setCell ⟨g, 0, none⟩ v0).setCell ⟨g, 1, none⟩ v1).setCell ⟨g, 2, none⟩ v2) := by
  rintro u ⟨g', cs, h1, h2, h3, h4⟩
  by_cases h : g' = g
  · subst h
    match cs, h4, h3 with
    | [a0, a1, a2], _, h3 => exact ⟨g', [v0, v1, v2], h1, h2, row_set3 h3 v0 v1 v2, rfl⟩
  · exact ⟨g', cs, h1, h2, h3.keep (heap_set3 y g v0 v1 v2 g' h), h4⟩
end Go.Proofs.Ytaocgkmobfocjaa
