/- The rule for regions that draw their order, in general: what holds may speak of what has come up. For walks within a fence, too. No program. -/
import Derived.Test.YtaocgkmobfocjaaRg
import Derived.OrdersIn
namespace Go.Proofs.Ytaocgkmobfocjaa
open Go Go.RowKit

def setD (done : Nat → Bool) (i : Nat) : Nat → Bool := fun j => if j = i then true else done j
def anyE (E : Nat → (Act → World → Prop) → Act → World → Prop) (ops : Array Oper) (Q0 : Act → World → Prop) : Nat → Array Bool → Act → World → Prop
  | 0, listed, a, w => Region.ready .any ops listed = [] ∧ Q0 a w
  | fuel + 1, listed, a, w => (Region.ready .any ops listed = [] → Q0 a w) ∧ ∀ i ∈ Region.ready .any ops listed, E i (anyE E ops Q0 fuel (listed.setIfInBounds i true)) a w
def opsE (E : Nat → (Act → World → Prop) → Act → World → Prop) (Q0 : Act → World → Prop) : List Nat → Act → World → Prop
  | [], a, w => Q0 a w
  | i :: rest, a, w => E i (opsE E Q0 rest) a w
def StepE (E : Nat → (Act → World → Prop) → Act → World → Prop) (ops : Array Oper) (a : Act) (ds : List (Nat × Tmp)) (m : Nat) (I : (Nat → Bool) → World → Prop) (V : Nat → Value → World → Prop) (i : Nat) (dst : Option Tmp) : Prop :=
  ∀ (xs : Nat → Value) (done : Nat → Bool) (y : World), I done y → done i = false → (∀ j, aheadB ops 8 j i = true → done j = false) → (∀ j, aheadB ops 8 i j = true → done j = true) → (∀ j, aheadB ops 8 i j = true → V j (xs j) y) → ∀ K : Act → World → Prop,
    Shut (∀ v z, I (setD done i) z → V i v z → (∀ j u, j < m → j ≠ i → done j = true → V j u y → V j u z) → K ((putsF a ds xs).put dst v) z) → E i K (putsF a ds xs) y
section
variable {E : Nat → (Act → World → Prop) → Act → World → Prop} {ops : Array Oper} {Q0 : Act → World → Prop}
theorem fin_chainE (hmono : ∀ i K K' a w, (∀ a w, K a w → K' a w) → E i K a w → E i K' a w) {m : Nat} (hlex : ∀ (k : Nat) (o : Oper), m ≤ k → ops[k]? = some o → ∀ e ∈ o.after, Region.binds .any e = true → e.on < k) (hfin : ∀ k, m ≤ k → k < ops.size → ∀ j, j < k → aheadB ops 8 k j = true) :
    ∀ (n fuel k : Nat) (listed : Array Bool) (a : Act) (w : World), k + n = ops.size → n ≤ fuel → m ≤ k → listed.size = ops.size → DC ops listed → (∀ j, j < k → listed.getD j false = true) → (∀ j, k ≤ j → j < ops.size → listed.getD j true = false) →
      opsE E Q0 (List.range' k n) a w → anyE E ops Q0 fuel listed a w := by
  intro n
  induction n with
  | zero =>
    intro fuel k listed a w hk _ _ hsz _ hdone _ h
    have hr : Region.ready .any ops listed = [] := by
      cases hr : Region.ready .any ops listed with
      | nil => rfl
      | cons x l =>
        have hx : x ∈ Region.ready .any ops listed := by rw [hr]; exact List.mem_cons_self
        obtain ⟨h1, o, h2, _⟩ := mem_ready.1 hx
        have hxl := (Array.getElem?_eq_some_iff.1 h2).1
        have h3 := hdone x (by omega)
        have : x < listed.size := by omega
        simp [this] at h1 h3
        rw [h1] at h3
        cases h3
    have hq : Q0 a w := by simpa [opsE] using h
    cases fuel with
    | zero => exact ⟨hr, hq⟩
    | succ fuel => exact ⟨fun _ => hq, by rw [hr]; simp⟩
  | succ n ih =>
    intro fuel k listed a w hk hf hm hsz hdc hdone hnot h
    have hks : k < ops.size := by omega
    have ho : ops[k]? = some ops[k] := Array.getElem?_eq_getElem hks
    have hkr : k ∈ Region.ready .any ops listed := mem_ready.2 ⟨hnot k (Nat.le_refl _) hks, ops[k], ho, fun e he hb => hdone e.on (hlex k _ hm ho e he hb)⟩
    cases fuel with
    | zero => omega
    | succ fuel =>
      refine ⟨fun h0 => (by rw [h0] at hkr; cases hkr), fun i hi => ?_⟩
      obtain ⟨h1, o, h2, h3⟩ := mem_ready.1 hi
      have his := (Array.getElem?_eq_some_iff.1 h2).1
      have hik : i = k := by
        rcases Nat.lt_trichotomy i k with hlt | rfl | hgt
        · have h4 := hdone i hlt
          have : i < listed.size := by omega
          simp [this] at h1 h4
          rw [h1] at h4
          cases h4
        · rfl
        · have h4 := ahead_listed hdc hsz 8 i k o h2 h3 (hfin i (by omega) his k hgt)
          have h5 := hnot k (Nat.le_refl _) hks
          have : k < listed.size := by omega
          simp [this] at h4 h5
          rw [h5] at h4
          cases h4
      subst hik
      rw [show List.range' i (n + 1) = i :: List.range' (i + 1) n from rfl] at h
      refine hmono i _ _ a w (fun a' w' h' => ?_) h
      refine ih fuel (i + 1) _ a' w' (by omega) (by omega) (by omega) (by simpa using hsz) (dc_set h2 h3 hdc) (fun j hj => ?_) (fun j hj hjs => ?_) h'
      · rcases Nat.lt_or_ge j i with hlt | hge
        · exact getD_set_true (hdone j hlt)
        · obtain rfl : j = i := by omega
          simp [hsz, hks]
      · rw [getD_set_ne true (by omega)]
        exact hnot j (by omega) hjs

theorem rg_coreE (hmono : ∀ i K K' a w, (∀ a w, K a w → K' a w) → E i K a w → E i K' a w) {a : Act} {ord : List Nat} {ds : List (Nat × Tmp)} {m : Nat} {I : (Nat → Bool) → World → Prop} {V : Nat → Value → World → Prop} (hok : rgB ops ord m ds = true) (hm : m ≤ ops.size) (hs : ∀ i o, i < m → ops[i]? = some o → StepE E ops a ds m I V i o.dst)
    (hend : ∀ xs done w', I done w' → (∀ j, j < m → done j = true) → (∀ j, m ≤ j → j < ops.size → done j = false) → (∀ j, j < m → V j (xs j) w') → opsE E Q0 (List.range' m (ops.size - m)) (putsF a ds xs) w') :
    ∀ (fuel : Nat) (listed : Array Bool) (xs : Nat → Value) (w : World), listed.size = ops.size → unl ops listed ≤ fuel → DC ops listed → (∀ j, m ≤ j → j < ops.size → listed.getD j true = false) → I (fun j => listed.getD j false) w → (∀ j, j < m → listed.getD j false = true → V j (xs j) w) →
      anyE E ops Q0 fuel listed (putsF a ds xs) w := by
  simp only [rgB, Bool.and_eq_true, List.all_eq_true, List.mem_range, Bool.or_eq_true, decide_eq_true_eq] at hok
  obtain ⟨⟨⟨hds, hord⟩, hdst⟩, hfin0⟩ := hok
  have hlex : ∀ (k : Nat) (o : Oper), m ≤ k → ops[k]? = some o → ∀ e ∈ o.after, Region.binds .any e = true → e.on < k := fun k o hmk ho e he hb => by
    rcases hfin0 k (Array.getElem?_eq_some_iff.1 ho).1 with h | h
    · omega
    · have h := h.1
      rw [ho] at h
      have h3 := (Array.all_eq_true_iff_forall_mem.1 h) e he
      rw [hb] at h3
      simpa using h3
  have hfin : ∀ k, m ≤ k → k < ops.size → ∀ j, j < k → aheadB ops 8 k j = true := fun k h1 h2 j hj => by
    rcases hfin0 k h2 with h | h
    · omega
    · exact h.2 j hj
  intro fuel
  induction fuel with
  | zero =>
    intro listed xs w hsz hu hdc hnot hI hV
    have hall : ∀ k, k < ops.size → listed.getD k true = true := fun k hk => by
      cases h : listed.getD k true with
      | true => rfl
      | false =>
        have := unl_set hk hsz h
        omega
    have hme : m = ops.size := by
      rcases Nat.lt_or_ge m ops.size with h | h
      · have h1 := hnot m (Nat.le_refl _) h
        rw [hall m h] at h1
        cases h1
      · omega
    have hall' : ∀ j, j < ops.size → listed.getD j false = true := fun j hj => by
      have := hall j hj
      have hl : j < listed.size := by omega
      simpa [hl] using this
    have h := hend xs _ w hI (fun j hj => hall' j (by omega)) (fun j h1 h2 => by omega) fun j hj => hV j hj (hall' j (by omega))
    exact fin_chainE hmono hlex hfin (ops.size - m) 0 m listed _ w (by omega) (by omega) (Nat.le_refl _) hsz hdc (fun j hj => hall' j (by omega)) (fun j h1 h2 => by omega) h
  | succ fuel ih =>
    intro listed xs w hsz hu hdc hnot hI hV
    refine ⟨fun hr => ?_, fun i hi => ?_⟩
    · have hall : ∀ k, k < ops.size → listed.getD k true = true := fun k hk => none_ready hsz hr ord [] hord.1 (fun _ h => by cases h) k (by simpa using hord.2 k hk)
      have hme : m = ops.size := by
        rcases Nat.lt_or_ge m ops.size with h | h
        · have h1 := hnot m (Nat.le_refl _) h
          rw [hall m h] at h1
          cases h1
        · omega
      have hd : ∀ j, j < m → listed.getD j false = true := fun j hj => by
        have h1 := hall j (by omega)
        have hl : j < listed.size := by omega
        simpa [hl] using h1
      have h := hend xs _ w hI hd (fun j h1 h2 => by omega) fun j hj => hV j hj (hd j hj)
      rw [show ops.size - m = 0 by omega] at h
      simpa [opsE] using h
    · obtain ⟨h1, o, h2, h3⟩ := mem_ready.1 hi
      have his := (Array.getElem?_eq_some_iff.1 h2).1
      rcases Nat.lt_or_ge i m with him | him
      · have hunl : ∀ j, aheadB ops 8 j i = true → listed.getD j false = false := fun j hj => by
          cases hl : listed.getD j false with
          | false => rfl
          | true =>
            exfalso
            cases ho : ops[j]? with
            | none => simp [aheadB, ho] at hj
            | some o' =>
              have hjl : j < listed.size := by rw [hsz]; exact (Array.getElem?_eq_some_iff.1 ho).1
              have h4 := ahead_listed hdc hsz 8 j i o' ho (hdc j o' ho (by simpa [hjl] using hl)) hj
              have : i < listed.size := by omega
              simp [this] at h1 h4
              rw [h1] at h4
              cases h4
        have h1f : listed.getD i false = false := by
          have : i < listed.size := by omega
          simpa [this] using h1
        refine hs i o him h2 xs _ w hI h1f hunl (fun j hj => ahead_listed hdc hsz 8 i j o h2 h3 hj) (fun j hj => hV j (by
          rcases Nat.lt_or_ge j m with h | h
          · exact h
          · have h4 := ahead_listed hdc hsz 8 i j o h2 h3 hj
            rcases Nat.lt_or_ge j ops.size with h' | h'
            · have h5 := hnot j h h'
              have : j < listed.size := by omega
              simp [this] at h4 h5
              rw [h5] at h4
              cases h4
            · simp [Array.getElem?_eq_none (show listed.size ≤ j by omega)] at h4) (ahead_listed hdc hsz 8 i j o h2 h3 hj)) _ ?_
        intro v w'' hI' hVi hkeep
        have hnew : (putsF a ds xs).put o.dst v = putsF a ds (setX xs i v) := by
          have hd0 := hdst i him
          rw [h2] at hd0
          have hd : (match o.dst with | none => !ds.any (fun p => p.1 == i) | some d => ds.contains (i, d)) = true := hd0
          clear hd0
          cases hod : o.dst with
          | none =>
            rw [hod] at hd
            show putsF a ds xs = _
            refine (putsF_other fun p hp hpi => ?_).symm
            simp only [Bool.not_eq_true', List.any_eq_false, beq_iff_eq] at hd
            exact hd p hp hpi
          | some d =>
            rw [hod] at hd
            exact putsF_set ds a xs i d v hds (by simpa using hd)
        rw [hnew]
        have hset : (fun j => (listed.setIfInBounds i true).getD j false) = setD (fun j => listed.getD j false) i := by
          funext j
          unfold setD
          by_cases hji : j = i
          · subst hji
            have : j < listed.size := by omega
            simp [this]
          · rw [if_neg hji, getD_set_ne false (Ne.symm hji)]
        refine ih _ (setX xs i v) w'' (by simpa using hsz) (by have := unl_set his hsz h1; omega) (dc_set h2 h3 hdc) (fun j hj hjs => ?_) (by rw [hset]; exact hI') (fun j hj hl => ?_)
        · rw [getD_set_ne true (by omega)]
          exact hnot j hj hjs
        · by_cases hji : j = i
          · subst hji
            simp only [setX, if_true]
            exact hVi
          · simp only [setX, if_neg hji]
            rw [getD_set_ne false (Ne.symm hji)] at hl
            exact hkeep j _ hj hji hl (hV j hj hl)
      · have hdone : ∀ j, j < i → listed.getD j false = true := fun j hj => ahead_listed hdc hsz 8 i j o h2 h3 (hfin i him his j hj)
        have hmi : m = i := by
          rcases Nat.lt_or_ge m i with h | h
          · have h4 := hdone m h
            have h5 := hnot m (Nat.le_refl _) (by omega)
            have : m < listed.size := by omega
            simp [this] at h4 h5
            rw [h5] at h4
            cases h4
          · omega
        subst hmi
        have h := hend xs _ w hI (fun j hj => hdone j hj) (fun j h1 h2 => by have h3 := hnot j h1 h2; have : j < listed.size := (by omega); simpa [this] using h3) fun j hj => hV j hj (hdone j hj)
        have h4 := fin_chainE hmono hlex hfin (ops.size - m) (fuel + 1) m listed _ w (by omega) (by
          have : ops.size - m ≤ unl ops listed := by
            have e : List.range' m (ops.size - m) = (List.range' m (ops.size - m)).filter fun i => !listed.getD i true := by
              rw [List.filter_eq_self.2]
              intro x hx
              rw [List.mem_range'_1] at hx
              rw [hnot x hx.1 (by omega)]
              rfl
            have e2 : List.range ops.size = List.range m ++ List.range' m (ops.size - m) := by
              have h9 : List.range' 0 m ++ List.range' (0 + m) (ops.size - m) = List.range' 0 (m + (ops.size - m)) := List.range'_append_1 ..
              rw [Nat.zero_add, show m + (ops.size - m) = ops.size by omega] at h9
              rw [List.range_eq_range', List.range_eq_range', h9]
            unfold unl
            rw [e2, List.filter_append, List.length_append, ← e]
            simp
          omega) (Nat.le_refl _) hsz hdc hdone hnot h
        exact h4.2 m hi

end
theorem anyE_wp {P : Program} {ops : Array Oper} {Q : Exit → Act → World → Prop} : ∀ (fuel : Nat) (listed : Array Bool) (a : Act) (w : World), anyE (wpOp P ops Q) ops (Q .normal) fuel listed a w → wpAny P .any ops Q fuel listed a w
  | 0, _, _, _, h => h
  | fuel + 1, _, _, _, h => ⟨h.1, fun i hi => wpOp_mono (fun a' w' h' => anyE_wp fuel _ a' w' h') (h.2 i hi)⟩
theorem anyE_wpIn {F : Fence} {n : Nat} {P : Program} {ops : Array Oper} {Q : Exit → Act → World → Prop} : ∀ (fuel : Nat) (listed : Array Bool) (a : Act) (w : World), anyE (wpOpIn F n P ops Q) ops (Q .normal) fuel listed a w → wpAnyIn F n P .any ops Q fuel listed a w
  | 0, _, _, _, h => h
  | fuel + 1, _, _, _, h => ⟨h.1, fun i hi => wpOpIn_mono (fun a' w' h' => anyE_wpIn fuel _ a' w' h') (h.2 i hi)⟩
section
variable {E : Nat → (Act → World → Prop) → Act → World → Prop} {ops : Array Oper} {Q0 : Act → World → Prop}
theorem rg_start (hmono : ∀ i K K' a w, (∀ a w, K a w → K' a w) → E i K a w → E i K' a w) {a : Act} {w : World} {ord : List Nat} {ds : List (Nat × Tmp)} {m : Nat} {I : (Nat → Bool) → World → Prop} {V : Nat → Value → World → Prop} (hok : rgB ops ord m ds = true) (hm : m ≤ ops.size) (hI : I (fun _ => false) w)
    (hs : ∀ i o, i < m → ops[i]? = some o → StepE E ops a ds m I V i o.dst)
    (hend : ∀ xs done w', I done w' → (∀ j, j < m → done j = true) → (∀ j, m ≤ j → j < ops.size → done j = false) → (∀ j, j < m → V j (xs j) w') → opsE E Q0 (List.range' m (ops.size - m)) (putsF a ds xs) w') :
    anyE E ops Q0 ops.size (Array.replicate ops.size false) a w := by
  have hds : dsOk ds = true := by
    simp only [rgB, Bool.and_eq_true] at hok
    exact hok.1.1.1
  obtain ⟨xs, hx⟩ := putsF_self ds a hds
  have hno : ∀ j, (Array.replicate ops.size false).getD j false = false := fun j => by
    by_cases hj : j < ops.size <;> simp [hj]
  have h := rg_coreE hmono hok hm hs hend ops.size (Array.replicate ops.size false) xs w (by simp) (by
      unfold unl
      exact Nat.le_trans (List.length_filter_le _ _) (by simp)) (fun k o ho hk => by
      have := (Array.getElem?_eq_some_iff.1 ho).1
      simp [this] at hk) (fun j _ hj => by simp [hj]) (by simp only [hno]; exact hI) (fun j _ h => by rw [hno] at h; cases h)
  rw [hx] at h
  exact h
end
/-- Within a fence: each operation is looked at once. -/
theorem wpIn_region_rg {F : Fence} {n : Nat} {P : Program} {ops : Array Oper} {Q : Exit → Act → World → Prop} {id : Nat} {a : Act} {w : World} {ord : List Nat} {ds : List (Nat × Tmp)} {I : (Nat → Bool) → World → Prop} {V : Nat → Value → World → Prop} (m : Nat) (hmx : P.follows .mixedOrders = true) (hok : rgB ops ord m ds = true) (hm : ops.size = m) (hI : I (fun _ => false) w.drew)
    (hs : ∀ i o, i < m → ops[i]? = some o → StepE (wpOpIn F n P ops Q) ops a ds m I V i o.dst)
    (hend : ∀ xs done y, I done y → (∀ j, j < m → done j = true) → (∀ j, j < m → V j (xs j) y) → Q .normal (putsF a ds xs) y) : (Code.region id ops true).wpIn F n P Q a w := by
  refine wpIn_region_any hmx (anyE_wpIn _ _ _ _ (rg_start (E := wpOpIn F n P ops Q) (w := w.drew) (fun _ _ _ _ _ h => wpOpIn_mono h) hok (Nat.le_of_eq hm.symm) hI hs fun xs done y hy hd _ hV => ?_))
  rw [hm, Nat.sub_self]
  exact hend xs done y hy hd hV
theorem wp_region_rgD {P : Program} {ops : Array Oper} {Q : Exit → Act → World → Prop} {id : Nat} {a : Act} {w : World} {ord : List Nat} {ds : List (Nat × Tmp)} {I : (Nat → Bool) → World → Prop} {V : Nat → Value → World → Prop} (m : Nat) (hmx : P.follows .mixedOrders = true) (hok : rgB ops ord m ds = true) (hm : ops.size = m) (hI : I (fun _ => false) w.drew)
    (hs : ∀ i o, i < m → ops[i]? = some o → StepE (wpOp P ops Q) ops a ds m I V i o.dst)
    (hend : ∀ xs done y, I done y → (∀ j, j < m → done j = true) → (∀ j, j < m → V j (xs j) y) → Q .normal (putsF a ds xs) y) : (Code.region id ops true).wp P Q a w := by
  refine wp_region_any hmx (anyE_wp _ _ _ _ (rg_start (E := wpOp P ops Q) (w := w.drew) (fun _ _ _ _ _ h => wpOp_mono h) hok (Nat.le_of_eq hm.symm) hI hs fun xs done y hy hd _ hV => ?_))
  rw [hm, Nat.sub_self]
  exact hend xs done y hy hd hV
theorem wpOpIn_go {F : Fence} {n : Nat} {P : Program} {ops : Array Oper} {Q : Exit → Act → World → Prop} {i : Nat} {a : Act} {w : World} {o : Oper} {K : Act → World → Prop} (ho : ops[i]? = some o) (hg : o.guard = none) (h : o.wpIn F n P a w K Q) : wpOpIn F n P ops Q i K a w := by
  unfold wpOpIn
  rw [ho]
  show if Region.wanted o (yielded ops a.tmps) = true then _ else _
  rw [if_pos (by simp [Region.wanted, hg])]
  exact h
/-- The steps, one after the other. -/
def StepsE (E : Nat → (Act → World → Prop) → Act → World → Prop) (ops : Array Oper) (a : Act) (ds : List (Nat × Tmp)) (m : Nat) (I : (Nat → Bool) → World → Prop) (V : Nat → Value → World → Prop) : Nat → Nat → Prop
  | _, 0 => True
  | k, n + 1 => (∀ o, ops[k]? = some o → StepE E ops a ds m I V k o.dst) ∧ StepsE E ops a ds m I V (k + 1) n
section
variable {E : Nat → (Act → World → Prop) → Act → World → Prop} {ops : Array Oper} {a : Act} {ds : List (Nat × Tmp)} {m : Nat} {I : (Nat → Bool) → World → Prop} {V : Nat → Value → World → Prop}
theorem StepsE.nil {k : Nat} : StepsE E ops a ds m I V k 0 := trivial
theorem StepsE.cons {k k' n : Nat} {o : Oper} (hk : k' = k + 1) (ho : ops[k]? = some o) (h : StepE E ops a ds m I V k o.dst) (hs : StepsE E ops a ds m I V k' n) : StepsE E ops a ds m I V k (n + 1) := by
  subst hk
  exact ⟨fun o' ho' => by rw [ho] at ho'; injection ho' with ho'; subst ho'; exact h, hs⟩
theorem StepsE.at : ∀ (n k : Nat), StepsE E ops a ds m I V k n → ∀ i o, k ≤ i → i < k + n → ops[i]? = some o → StepE E ops a ds m I V i o.dst
  | 0, k, _, i, _, h1, h2, _ => by omega
  | n + 1, k, h, i, o, h1, h2, ho => by
    rcases Nat.lt_or_ge k i with h3 | h3
    · exact StepsE.at n (k + 1) h.2 i o h3 (by omega) ho
    · obtain rfl : i = k := by omega
      exact h.1 o ho
end
theorem wpIn_region_steps {F : Fence} {n : Nat} {P : Program} {ops : Array Oper} {Q : Exit → Act → World → Prop} {id : Nat} {a : Act} {w : World} {ord : List Nat} {ds : List (Nat × Tmp)} {I : (Nat → Bool) → World → Prop} {V : Nat → Value → World → Prop} (m : Nat) (hmx : P.follows .mixedOrders = true) (hok : rgB ops ord m ds = true) (hm : ops.size = m) (hI : I (fun _ => false) w.drew)
    (hs : StepsE (wpOpIn F n P ops Q) ops a ds m I V 0 m)
    (hend : ∀ xs done y, I done y → (∀ j, j < m → done j = true) → (∀ j, j < m → V j (xs j) y) → Q .normal (putsF a ds xs) y) : (Code.region id ops true).wpIn F n P Q a w :=
  wpIn_region_rg m hmx hok hm hI (fun i o hi ho => StepsE.at m 0 hs i o (Nat.zero_le _) (by omega) ho) hend
theorem wp_region_steps {P : Program} {ops : Array Oper} {Q : Exit → Act → World → Prop} {id : Nat} {a : Act} {w : World} {ord : List Nat} {ds : List (Nat × Tmp)} {I : (Nat → Bool) → World → Prop} {V : Nat → Value → World → Prop} (m : Nat) (hmx : P.follows .mixedOrders = true) (hok : rgB ops ord m ds = true) (hm : ops.size = m) (hI : I (fun _ => false) w.drew)
    (hs : StepsE (wpOp P ops Q) ops a ds m I V 0 m)
    (hend : ∀ xs done y, I done y → (∀ j, j < m → done j = true) → (∀ j, j < m → V j (xs j) y) → Q .normal (putsF a ds xs) y) : (Code.region id ops true).wp P Q a w :=
  wp_region_rgD m hmx hok hm hI (fun i o hi ho => StepsE.at m 0 hs i o (Nat.zero_le _) (by omega) ho) hend
theorem wpOp_go {P : Program} {ops : Array Oper} {Q : Exit → Act → World → Prop} {i : Nat} {a : Act} {w : World} {o : Oper} {K : Act → World → Prop} (ho : ops[i]? = some o) (hg : o.guard = none) (h : o.wp P a w K Q) : wpOp P ops Q i K a w := by
  unfold wpOp
  rw [ho]
  show if Region.wanted o (yielded ops a.tmps) = true then _ else _
  rw [if_pos (by simp [Region.wanted, hg])]
  exact .inl h
end Go.Proofs.Ytaocgkmobfocjaa
