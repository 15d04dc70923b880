/- A rule for regions that draw their order: each operation is looked at once, in whatever world the others may have left. Plain facts on the walk, no program. -/
import Derived.Deep.RegionHeld
import Derived.Below
namespace Go.Proofs.Ytaocgkmobfocjaa
open Go Go.RowKit

def putsF (a : Act) (ds : List (Nat × Tmp)) (xs : Nat → Value) : Act := ds.foldl (fun b p => b.put (some p.2) (xs p.1)) a
def setX (xs : Nat → Value) (i : Nat) (v : Value) : Nat → Value := fun j => if j = i then v else xs j
def dsOk : List (Nat × Tmp) → Bool
  | [] => true
  | p :: ds => ds.all (fun q => p.1 != q.1 && p.2 != q.2) && dsOk ds
theorem dsOk_cons {p : Nat × Tmp} {ds : List (Nat × Tmp)} (h : dsOk (p :: ds) = true) : (∀ q ∈ ds, p.1 ≠ q.1 ∧ p.2 ≠ q.2) ∧ dsOk ds = true := by
  simp only [dsOk, Bool.and_eq_true, List.all_eq_true, bne_iff_ne] at h
  exact h
theorem put_put (a : Act) (d : Tmp) (u v : Value) : (a.put (some d) u).put (some d) v = a.put (some d) v := by
  simp [Act.put, Array.setIfInBounds_setIfInBounds]
theorem put_swap (a : Act) {d e : Tmp} (u v : Value) (h : d ≠ e) : (a.put (some d) u).put (some e) v = (a.put (some e) v).put (some d) u :=
  Act.put_comm a u v fun x hx hy => h (by injection hx with hx; injection hy with hy; rw [hx, hy])
theorem putsF_put : ∀ (ds : List (Nat × Tmp)) (a : Act) (d : Tmp) (v : Value) (xs : Nat → Value), (∀ p ∈ ds, d ≠ p.2) → (putsF a ds xs).put (some d) v = putsF (a.put (some d) v) ds xs
  | [], _, _, _, _, _ => rfl
  | p :: ds, a, d, v, xs, h => by
    show (putsF (a.put (some p.2) (xs p.1)) ds xs).put (some d) v = putsF ((a.put (some d) v).put (some p.2) (xs p.1)) ds xs
    rw [putsF_put ds _ d v xs fun q hq => h q (List.mem_cons_of_mem _ hq), put_swap _ _ _ (Ne.symm (h p List.mem_cons_self))]
theorem putsF_ext : ∀ (ds : List (Nat × Tmp)) (a : Act) (xs ys : Nat → Value), (∀ p ∈ ds, xs p.1 = ys p.1) → putsF a ds xs = putsF a ds ys
  | [], _, _, _, _ => rfl
  | p :: ds, a, xs, ys, h => by
    show putsF (a.put (some p.2) (xs p.1)) ds xs = putsF (a.put (some p.2) (ys p.1)) ds ys
    rw [h p List.mem_cons_self]
    exact putsF_ext ds _ xs ys fun q hq => h q (List.mem_cons_of_mem _ hq)
theorem putsF_set : ∀ (ds : List (Nat × Tmp)) (a : Act) (xs : Nat → Value) (i : Nat) (d : Tmp) (v : Value), dsOk ds = true → (i, d) ∈ ds → (putsF a ds xs).put (some d) v = putsF a ds (setX xs i v)
  | [], _, _, _, _, _, _, hm => by cases hm
  | p :: ds, a, xs, i, d, v, hok, hm => by
    obtain ⟨h1, h2⟩ := dsOk_cons hok
    show (putsF (a.put (some p.2) (xs p.1)) ds xs).put (some d) v = putsF (a.put (some p.2) (setX xs i v p.1)) ds (setX xs i v)
    rcases List.mem_cons.1 hm with rfl | hm
    · rw [putsF_put ds _ d v xs fun q hq => (h1 q hq).2, put_put]
      simp only [setX, if_true]
      exact putsF_ext ds _ xs _ fun q hq => by
        have h3 : i ≠ q.1 := (h1 q hq).1
        show xs q.1 = if q.1 = i then v else xs q.1
        rw [if_neg (Ne.symm h3)]
    · have hne : p.1 ≠ i := (h1 _ hm).1
      rw [putsF_set ds _ xs i d v h2 hm]
      simp only [setX, if_neg hne]
theorem putsF_other {ds : List (Nat × Tmp)} {a : Act} {xs : Nat → Value} {i : Nat} {v : Value} (h : ∀ p ∈ ds, p.1 ≠ i) : putsF a ds (setX xs i v) = putsF a ds xs :=
  putsF_ext ds a _ _ fun p hp => by simp only [setX, if_neg (h p hp)]
theorem put_self (a : Act) (d : Tmp) : a.put (some d) ((a.tmps[d]?).getD undef) = a := by
  obtain ⟨t, ds⟩ := a
  simp only [Act.put, Act.mk.injEq, and_true]
  apply Array.ext_getElem?
  intro j
  by_cases h : d = j
  · subst h
    by_cases hl : d < t.size
    · simp [hl]
    · rw [Array.getElem?_eq_none (Nat.le_of_not_lt hl), Array.getElem?_eq_none (by simpa using Nat.le_of_not_lt hl)]
  · rw [Array.getElem?_setIfInBounds_ne h]
theorem putsF_self : ∀ (ds : List (Nat × Tmp)) (a : Act), dsOk ds = true → ∃ xs, putsF a ds xs = a
  | [], _, _ => ⟨fun _ => undef, rfl⟩
  | p :: ds, a, hok => by
    obtain ⟨h1, h2⟩ := dsOk_cons hok
    obtain ⟨xs, hx⟩ := putsF_self ds a h2
    refine ⟨setX xs p.1 ((a.tmps[p.2]?).getD undef), ?_⟩
    show putsF (a.put (some p.2) (setX xs p.1 _ p.1)) ds (setX xs p.1 _) = a
    simp only [setX, if_true]
    rw [put_self]
    exact (putsF_other fun q hq => Ne.symm (h1 q hq).1).trans hx

section
variable {P : Program} {ops : Array Oper} {Q : Exit → Act → World → Prop}

/-- Operation j stands ahead of k, in every order. -/
def aheadB (ops : Array Oper) : Nat → Nat → Nat → Bool
  | 0, _, _ => false
  | n + 1, k, j => match ops[k]? with
    | none => false
    | some o => o.after.any (fun e => Region.binds .any e && e.on == j) || o.after.any (fun e => Region.binds .any e && aheadB ops n e.on j)
/-- Each of a list waits for those before it alone. -/
def ordB (ops : Array Oper) : List Nat → List Nat → Bool
  | _, [] => true
  | seen, k :: rest => (match ops[k]? with | none => false | some o => o.after.all (fun e => !Region.binds .any e || seen.contains e.on)) && ordB ops (k :: seen) rest
/-- What is asked of the region's text: there is an order in which all can come; from m on each waits for all before it. -/
def rgB (ops : Array Oper) (ord : List Nat) (m : Nat) (ds : List (Nat × Tmp)) : Bool :=
  dsOk ds &&
  (ordB ops [] ord && (List.range ops.size).all (fun k => ord.contains k)) &&
  (List.range m).all (fun k => match ops[k]? with | none => true | some o => match o.dst with | none => !ds.any (fun p => p.1 == k) | some d => ds.contains (k, d)) &&
  (List.range ops.size).all (fun k => decide (k < m) || ((match ops[k]? with | none => false | some o => o.after.all (fun e => !Region.binds .any e || decide (e.on < k))) && (List.range k).all (fun j => aheadB ops 8 k j)))
def DC (ops : Array Oper) (listed : Array Bool) : Prop := ∀ k o, ops[k]? = some o → listed.getD k true = true → ∀ e ∈ o.after, Region.binds .any e = true → listed.getD e.on false = true
theorem ahead_listed {listed : Array Bool} (hdc : DC ops listed) (hsz : listed.size = ops.size) : ∀ (n k j : Nat) (o : Oper), ops[k]? = some o → (∀ e ∈ o.after, Region.binds .any e = true → listed.getD e.on false = true) → aheadB ops n k j = true → listed.getD j false = true
  | 0, _, _, _, _, _, h => by simp [aheadB] at h
  | n + 1, k, j, o, ho, hall, h => by
    simp only [aheadB, ho, Bool.or_eq_true, Array.any_eq_true'] at h
    rcases h with ⟨e, he, h⟩ | ⟨e, he, h⟩
    · simp only [Bool.and_eq_true, beq_iff_eq] at h
      rw [← h.2]
      exact hall e he h.1
    · simp only [Bool.and_eq_true] at h
      have hl := hall e he h.1
      cases ho' : ops[e.on]? with
      | none => exact absurd h.2 (by cases n <;> simp [aheadB, ho'])
      | some o' =>
        have hlt : e.on < listed.size := by rw [hsz]; exact (Array.getElem?_eq_some_iff.1 ho').1
        exact ahead_listed hdc hsz n e.on j o' ho' (hdc e.on o' ho' (by simpa [hlt] using hl)) h.2

def RgStep (P : Program) (ops : Array Oper) (Q : Exit → Act → World → Prop) (a : Act) (ds : List (Nat × Tmp)) (m : Nat) (I : World → Prop) (V : Nat → Value → World → Prop) (i : Nat) : Prop :=
  ∀ o, ops[i]? = some o → ∀ (xs : Nat → Value) (w' : World), I w' → (∀ j, aheadB ops 8 i j = true → V j (xs j) w') → ∀ K : Act → World → Prop,
    Shut (∀ v w'', I w'' → V i v w'' → (∀ j u, j < m → j ≠ i → V j u w' → V j u w'') → K ((putsF a ds xs).put o.dst v) w'') →
    if Region.wanted o (yielded ops (putsF a ds xs).tmps) = true then o.wp P (putsF a ds xs) w' K Q else K ((putsF a ds xs).put o.dst undef) w'

def unl (ops : Array Oper) (listed : Array Bool) : Nat := ((List.range ops.size).filter fun i => !listed.getD i true).length
theorem filter_lt {l : List Nat} {p q : Nat → Bool} (h : ∀ x, q x = true → p x = true) {x : Nat} (hx : x ∈ l) (hp : p x = true) (hq : q x = false) : (l.filter q).length < (l.filter p).length := by
  have hle : ∀ l : List Nat, (l.filter q).length ≤ (l.filter p).length := by
    intro l
    induction l with
    | nil => exact Nat.le_refl _
    | cons y l ih =>
      simp only [List.filter_cons]
      by_cases hy : q y = true
      · rw [if_pos hy, if_pos (h y hy)]; simp only [List.length_cons]; omega
      · rw [if_neg hy]; split
        · simp only [List.length_cons]; omega
        · exact ih
  induction l with
  | nil => cases hx
  | cons y l ih =>
    simp only [List.filter_cons]
    rcases List.mem_cons.1 hx with rfl | hx
    · rw [if_neg (by simp [hq]), if_pos hp]
      have := hle l
      simp only [List.length_cons]
      omega
    · have := ih hx
      by_cases hy : q y = true
      · rw [if_pos hy, if_pos (h y hy)]; simp only [List.length_cons]; omega
      · rw [if_neg hy]; split
        · simp only [List.length_cons]; omega
        · exact this
theorem unl_set {listed : Array Bool} {i : Nat} (hi : i < ops.size) (hsz : listed.size = ops.size) (h : listed.getD i true = false) : unl ops (listed.setIfInBounds i true) < unl ops listed := by
  refine filter_lt (x := i) (fun x hx => ?_) (List.mem_range.2 hi) (by simp [h]) ?_
  · by_cases hxi : i = x
    · subst hxi; simp [hsz, hi] at hx
    · rw [getD_set_ne true hxi] at hx; exact hx
  · simp [hsz, hi]
theorem dc_set {listed : Array Bool} {i : Nat} {o : Oper} (ho : ops[i]? = some o) (hall : ∀ e ∈ o.after, Region.binds .any e = true → listed.getD e.on false = true) (h : DC ops listed) : DC ops (listed.setIfInBounds i true) := by
  intro k o' ho' hk e he hb
  by_cases hki : i = k
  · subst hki
    rw [ho] at ho'
    injection ho' with ho'
    subst ho'
    exact getD_set_true (hall e he hb)
  · rw [getD_set_ne true hki] at hk
    exact getD_set_true (h k o' ho' hk e he hb)
/-- Where nothing may come up, all has come up. -/
theorem none_ready {listed : Array Bool} (hsz : listed.size = ops.size) (hr : Region.ready .any ops listed = []) : ∀ (ord seen : List Nat), ordB ops seen ord = true → (∀ k ∈ seen, listed.getD k false = true) → ∀ k ∈ ord, listed.getD k true = true
  | [], _, _, _, _, h => by cases h
  | x :: ord, seen, hB, hs, k, hk => by
    simp only [ordB, Bool.and_eq_true] at hB
    obtain ⟨h1, h2⟩ := hB
    have hx : listed.getD x true = true := by
      cases hl : listed.getD x true with
      | true => rfl
      | false =>
        cases ho : ops[x]? with
        | none => rw [ho] at h1; cases h1
        | some o =>
          rw [ho] at h1
          have : x ∈ Region.ready .any ops listed := mem_ready.2 ⟨hl, o, ho, fun e he hb => hs e.on (by
            have h3 := (Array.all_eq_true_iff_forall_mem.1 h1) e he
            rw [hb] at h3
            simpa using h3)⟩
          rw [hr] at this
          cases this
    have hxf : listed.getD x false = true := by
      cases ho : ops[x]? with
      | none => rw [ho] at h1; cases h1
      | some o =>
        have : x < listed.size := by rw [hsz]; exact (Array.getElem?_eq_some_iff.1 ho).1
        simpa [this] using hx
    rcases List.mem_cons.1 hk with rfl | hk
    · exact hx
    · exact none_ready hsz hr ord (x :: seen) h2 (fun y hy => by
        rcases List.mem_cons.1 hy with rfl | hy
        · exact hxf
        · exact hs y hy) k hk

theorem fin_chain {m : Nat} (hlex : ∀ (k : Nat) (o : Oper), m ≤ k → ops[k]? = some o → ∀ e ∈ o.after, Region.binds .any e = true → e.on < k) (hfin : ∀ k, m ≤ k → k < ops.size → ∀ j, j < k → aheadB ops 8 k j = true) :
    ∀ (n fuel k : Nat) (listed : Array Bool) (a : Act) (w : World), k + n = ops.size → n ≤ fuel → m ≤ k → listed.size = ops.size → DC ops listed → (∀ j, j < k → listed.getD j false = true) → (∀ j, k ≤ j → j < ops.size → listed.getD j true = false) →
      wpOps P ops Q (List.range' k n) a w → wpAny P .any ops Q fuel listed a w := by
  intro n
  induction n with
  | zero =>
    intro fuel k listed a w hk _ _ hsz _ hdone _ h
    have hr : Region.ready .any ops listed = [] := by
      cases hr : Region.ready .any ops listed with
      | nil => rfl
      | cons x l =>
        have hx : x ∈ Region.ready .any ops listed := by rw [hr]; exact List.mem_cons_self
        obtain ⟨h1, o, h2, _⟩ := mem_ready.1 hx
        have hxl := (Array.getElem?_eq_some_iff.1 h2).1
        have h3 := hdone x (by omega)
        have : x < listed.size := by omega
        simp [this] at h1 h3
        rw [h1] at h3
        cases h3
    have hq : Q .normal a w := by simpa [wpOps] using h
    cases fuel with
    | zero => exact ⟨hr, hq⟩
    | succ fuel => exact ⟨fun _ => hq, by rw [hr]; simp⟩
  | succ n ih =>
    intro fuel k listed a w hk hf hm hsz hdc hdone hnot h
    have hks : k < ops.size := by omega
    have ho : ops[k]? = some ops[k] := Array.getElem?_eq_getElem hks
    have hkr : k ∈ Region.ready .any ops listed := mem_ready.2 ⟨hnot k (Nat.le_refl _) hks, ops[k], ho, fun e he hb => hdone e.on (hlex k _ hm ho e he hb)⟩
    cases fuel with
    | zero => omega
    | succ fuel =>
      refine ⟨fun h0 => (by rw [h0] at hkr; cases hkr), fun i hi => ?_⟩
      obtain ⟨h1, o, h2, h3⟩ := mem_ready.1 hi
      have his := (Array.getElem?_eq_some_iff.1 h2).1
      have hik : i = k := by
        rcases Nat.lt_trichotomy i k with hlt | rfl | hgt
        · have h4 := hdone i hlt
          have : i < listed.size := by omega
          simp [this] at h1 h4
          rw [h1] at h4
          cases h4
        · rfl
        · have h4 := ahead_listed hdc hsz 8 i k o h2 h3 (hfin i (by omega) his k hgt)
          have h5 := hnot k (Nat.le_refl _) hks
          have : k < listed.size := by omega
          simp [this] at h4 h5
          rw [h5] at h4
          cases h4
      subst hik
      rw [show List.range' i (n + 1) = i :: List.range' (i + 1) n from rfl, wpOps_cons] at h
      refine wpOp_mono (fun a' w' h' => ?_) h
      refine ih fuel (i + 1) _ a' w' (by omega) (by omega) (by omega) (by simpa using hsz) (dc_set h2 h3 hdc) (fun j hj => ?_) (fun j hj hjs => ?_) h'
      · rcases Nat.lt_or_ge j i with hlt | hge
        · exact getD_set_true (hdone j hlt)
        · obtain rfl : j = i := by omega
          simp [hsz, hks]
      · rw [getD_set_ne true (by omega)]
        exact hnot j (by omega) hjs

theorem rg_core {a : Act} {ord : List Nat} {ds : List (Nat × Tmp)} {m : Nat} {I : World → Prop} {V : Nat → Value → World → Prop} (hok : rgB ops ord m ds = true) (hm : m ≤ ops.size) (hs : ∀ i, i < m → RgStep P ops Q a ds m I V i)
    (hend : ∀ xs w', I w' → (∀ j, j < m → V j (xs j) w') → wpOps P ops Q (List.range' m (ops.size - m)) (putsF a ds xs) w') :
    ∀ (fuel : Nat) (listed : Array Bool) (xs : Nat → Value) (w : World), listed.size = ops.size → unl ops listed ≤ fuel → DC ops listed → (∀ j, m ≤ j → j < ops.size → listed.getD j true = false) → I w → (∀ j, j < m → listed.getD j false = true → V j (xs j) w) →
      wpAny P .any ops Q fuel listed (putsF a ds xs) w := by
  simp only [rgB, Bool.and_eq_true, List.all_eq_true, List.mem_range, Bool.or_eq_true, decide_eq_true_eq] at hok
  obtain ⟨⟨⟨hds, hord⟩, hdst⟩, hfin0⟩ := hok
  have hlex : ∀ (k : Nat) (o : Oper), m ≤ k → ops[k]? = some o → ∀ e ∈ o.after, Region.binds .any e = true → e.on < k := fun k o hmk ho e he hb => by
    rcases hfin0 k (Array.getElem?_eq_some_iff.1 ho).1 with h | h
    · omega
    · have h := h.1
      rw [ho] at h
      have h3 := (Array.all_eq_true_iff_forall_mem.1 h) e he
      rw [hb] at h3
      simpa using h3
  have hfin : ∀ k, m ≤ k → k < ops.size → ∀ j, j < k → aheadB ops 8 k j = true := fun k h1 h2 j hj => by
    rcases hfin0 k h2 with h | h
    · omega
    · exact h.2 j hj
  intro fuel
  induction fuel with
  | zero =>
    intro listed xs w hsz hu hdc hnot hI hV
    have hall : ∀ k, k < ops.size → listed.getD k true = true := fun k hk => by
      cases h : listed.getD k true with
      | true => rfl
      | false =>
        have := unl_set hk hsz h
        omega
    have hme : m = ops.size := by
      rcases Nat.lt_or_ge m ops.size with h | h
      · have h1 := hnot m (Nat.le_refl _) h
        rw [hall m h] at h1
        cases h1
      · omega
    have hall' : ∀ j, j < ops.size → listed.getD j false = true := fun j hj => by
      have := hall j hj
      have hl : j < listed.size := by omega
      simpa [hl] using this
    have h := hend xs w hI fun j hj => hV j hj (hall' j (by omega))
    exact fin_chain hlex hfin (ops.size - m) 0 m listed _ w (by omega) (by omega) (Nat.le_refl _) hsz hdc (fun j hj => hall' j (by omega)) (fun j h1 h2 => by omega) h
  | succ fuel ih =>
    intro listed xs w hsz hu hdc hnot hI hV
    refine ⟨fun hr => ?_, fun i hi => ?_⟩
    · have hall : ∀ k, k < ops.size → listed.getD k true = true := fun k hk => none_ready hsz hr ord [] hord.1 (fun _ h => by cases h) k (by simpa using hord.2 k hk)
      have hme : m = ops.size := by
        rcases Nat.lt_or_ge m ops.size with h | h
        · have h1 := hnot m (Nat.le_refl _) h
          rw [hall m h] at h1
          cases h1
        · omega
      have h := hend xs w hI fun j hj => hV j hj (by
        have h1 := hall j (by omega)
        have hl : j < listed.size := by omega
        simpa [hl] using h1)
      rw [show ops.size - m = 0 by omega] at h
      simpa [wpOps] using h
    · obtain ⟨h1, o, h2, h3⟩ := mem_ready.1 hi
      have his := (Array.getElem?_eq_some_iff.1 h2).1
      rcases Nat.lt_or_ge i m with him | him
      · have hst := hs i him o h2 xs w hI (fun j hj => hV j (by
          rcases Nat.lt_or_ge j m with h | h
          · exact h
          · have h4 := ahead_listed hdc hsz 8 i j o h2 h3 hj
            rcases Nat.lt_or_ge j ops.size with h' | h'
            · have h5 := hnot j h h'
              have : j < listed.size := by omega
              simp [this] at h4 h5
              rw [h5] at h4
              cases h4
            · simp [Array.getElem?_eq_none (show listed.size ≤ j by omega)] at h4) (ahead_listed hdc hsz 8 i j o h2 h3 hj))
        refine wpOp_step h2 fun K' hK' => ?_
        refine hst K' (fun v w'' hI' hVi hkeep => hK' _ _ ?_)
        have hnew : (putsF a ds xs).put o.dst v = putsF a ds (setX xs i v) := by
          have hd0 := hdst i him
          rw [h2] at hd0
          have hd : (match o.dst with | none => !ds.any (fun p => p.1 == i) | some d => ds.contains (i, d)) = true := hd0
          clear hd0
          cases hod : o.dst with
          | none =>
            rw [hod] at hd
            show putsF a ds xs = _
            refine (putsF_other fun p hp hpi => ?_).symm
            simp only [Bool.not_eq_true', List.any_eq_false, beq_iff_eq] at hd
            exact hd p hp hpi
          | some d =>
            rw [hod] at hd
            exact putsF_set ds a xs i d v hds (by simpa using hd)
        rw [hnew]
        refine ih _ (setX xs i v) w'' (by simpa using hsz) (by have := unl_set his hsz h1; omega) (dc_set h2 h3 hdc) (fun j hj hjs => ?_) hI' (fun j hj hl => ?_)
        · rw [getD_set_ne true (by omega)]
          exact hnot j hj hjs
        · by_cases hji : j = i
          · subst hji
            simp only [setX, if_true]
            exact hVi
          · simp only [setX, if_neg hji]
            rw [getD_set_ne false (Ne.symm hji)] at hl
            exact hkeep j _ hj hji (hV j hj hl)
      · have hdone : ∀ j, j < i → listed.getD j false = true := fun j hj => ahead_listed hdc hsz 8 i j o h2 h3 (hfin i him his j hj)
        have hmi : m = i := by
          rcases Nat.lt_or_ge m i with h | h
          · have h4 := hdone m h
            have h5 := hnot m (Nat.le_refl _) (by omega)
            have : m < listed.size := by omega
            simp [this] at h4 h5
            rw [h5] at h4
            cases h4
          · omega
        subst hmi
        have h := hend xs w hI fun j hj => hV j hj (hdone j hj)
        have h4 := fin_chain hlex hfin (ops.size - m) (fuel + 1) m listed _ w (by omega) (by
          have : ops.size - m ≤ unl ops listed := by
            have e : List.range' m (ops.size - m) = (List.range' m (ops.size - m)).filter fun i => !listed.getD i true := by
              rw [List.filter_eq_self.2]
              intro x hx
              rw [List.mem_range'_1] at hx
              rw [hnot x hx.1 (by omega)]
              rfl
            have e2 : List.range ops.size = List.range m ++ List.range' m (ops.size - m) := by
              have h9 : List.range' 0 m ++ List.range' (0 + m) (ops.size - m) = List.range' 0 (m + (ops.size - m)) := List.range'_append_1 ..
              rw [Nat.zero_add, show m + (ops.size - m) = ops.size by omega] at h9
              rw [List.range_eq_range', List.range_eq_range', h9]
            unfold unl
            rw [e2, List.filter_append, List.length_append, ← e]
            simp
          omega) (Nat.le_refl _) hsz hdc hdone hnot h
        exact h4.2 m hi

/-- A region that draws its order: each operation is looked at once. -/
theorem wp_region_rg {id : Nat} {a : Act} {w : World} {ord : List Nat} {ds : List (Nat × Tmp)} {m : Nat} {I : World → Prop} {V : Nat → Value → World → Prop} (hmx : P.follows .mixedOrders = true) (hok : rgB ops ord m ds = true) (hm : decide (m ≤ ops.size) = true) (hI : I w.drew)
    (hs : ∀ i, i < m → RgStep P ops Q a ds m I V i)
    (hend : ∀ xs w', I w' → (∀ j, j < m → V j (xs j) w') → wpOps P ops Q (List.range' m (ops.size - m)) (putsF a ds xs) w') : (Code.region id ops true).wp P Q a w := by
  refine wp_region_any hmx ?_
  have hds : dsOk ds = true := by
    simp only [rgB, Bool.and_eq_true] at hok
    exact hok.1.1.1
  obtain ⟨xs, hx⟩ := putsF_self ds a hds
  have hno : ∀ j, (Array.replicate ops.size false).getD j false = true → False := fun j h => by
    by_cases hj : j < ops.size <;> simp [hj] at h
  have h := rg_core hok (of_decide_eq_true hm) hs hend ops.size (Array.replicate ops.size false) xs w.drew (by simp) (by
      unfold unl
      exact Nat.le_trans (List.length_filter_le _ _) (by simp)) (fun k o ho hk => by
      have := (Array.getElem?_eq_some_iff.1 ho).1
      simp [this] at hk) (fun j _ hj => by simp [hj]) hI (fun j _ h => (hno j h).elim)
  rw [hx] at h
  exact h

/-! ### Regions whose operations leave all that was there as it was -/
def Stable (p : Value → World → Prop) : Prop := ∀ u w w', p u w → Below w.heap.size w w' → p u w'
def AllSt : List (Value → World → Prop) → Prop
  | [] => True
  | p :: l => Stable p ∧ AllSt l
theorem AllSt.nil : AllSt [] := trivial
theorem AllSt.cons {p : Value → World → Prop} {l : List (Value → World → Prop)} (h : Stable p) (hl : AllSt l) : AllSt (p :: l) := ⟨h, hl⟩
def vAt (l : List (Value → World → Prop)) (i : Nat) : Value → World → Prop := l.getD i fun _ _ => True
def isV (c : Value) : Value → World → Prop := fun u _ => u = c
theorem stable_isV (c : Value) : Stable (isV c) := fun _ _ _ h _ => h
theorem stable_vAt : ∀ (l : List (Value → World → Prop)), AllSt l → ∀ i, Stable (vAt l i)
  | [], _, _ => fun _ _ _ _ _ => trivial
  | _ :: _, h, 0 => h.1
  | _ :: l, h, i + 1 => stable_vAt l h.2 i
def AddStep (P : Program) (ops : Array Oper) (Q : Exit → Act → World → Prop) (a : Act) (ds : List (Nat × Tmp)) (w0 : World) (l : List (Value → World → Prop)) (i : Nat) : Prop :=
  ∀ o, ops[i]? = some o → ∀ (xs : Nat → Value) (y : World), Below w0.heap.size w0 y → (∀ j, aheadB ops 8 i j = true → vAt l j (xs j) y) → ∀ K : Act → World → Prop,
    Shut (∀ v z, Below y.heap.size y z → vAt l i v z → K ((putsF a ds xs).put o.dst v) z) →
    if Region.wanted o (yielded ops (putsF a ds xs).tmps) = true then o.wp P (putsF a ds xs) y K Q else K ((putsF a ds xs).put o.dst undef) y
theorem AddStep.mk {a : Act} {ds : List (Nat × Tmp)} {w0 : World} {l : List (Value → World → Prop)} {i : Nat} {o : Oper} (ho : ops[i]? = some o)
    (h : ∀ (xs : Nat → Value) (y : World), Below w0.heap.size w0 y → (∀ j, aheadB ops 8 i j = true → vAt l j (xs j) y) → ∀ K : Act → World → Prop,
      Shut (∀ v z, Below y.heap.size y z → vAt l i v z → K ((putsF a ds xs).put o.dst v) z) →
      if Region.wanted o (yielded ops (putsF a ds xs).tmps) = true then o.wp P (putsF a ds xs) y K Q else K ((putsF a ds xs).put o.dst undef) y) : AddStep P ops Q a ds w0 l i := fun o' ho' => by
  rw [ho] at ho'
  injection ho' with ho'
  subst ho'
  exact h
theorem AddStep.go {a : Act} {ds : List (Nat × Tmp)} {w0 : World} {l : List (Value → World → Prop)} {i : Nat} {o : Oper} (ho : ops[i]? = some o) (hg : o.guard = none)
    (h : ∀ (xs : Nat → Value) (y : World), Below w0.heap.size w0 y → (∀ j, aheadB ops 8 i j = true → vAt l j (xs j) y) → ∀ K : Act → World → Prop,
      Shut (∀ v z, Below y.heap.size y z → vAt l i v z → K ((putsF a ds xs).put o.dst v) z) → o.wp P (putsF a ds xs) y K Q) : AddStep P ops Q a ds w0 l i :=
  AddStep.mk ho fun xs y hy hV K hK => by
    rw [if_pos (by simp [Region.wanted, hg])]
    exact h xs y hy hV K hK
/-- The steps from number k on. -/
def AddSteps (P : Program) (ops : Array Oper) (Q : Exit → Act → World → Prop) (a : Act) (ds : List (Nat × Tmp)) (w0 : World) (l : List (Value → World → Prop)) : Nat → Nat → Prop
  | _, 0 => True
  | k, n + 1 => AddStep P ops Q a ds w0 l k ∧ AddSteps P ops Q a ds w0 l (k + 1) n
theorem AddSteps.nil {a : Act} {ds : List (Nat × Tmp)} {w0 : World} {l : List (Value → World → Prop)} {k : Nat} : AddSteps P ops Q a ds w0 l k 0 := trivial
theorem AddSteps.cons {a : Act} {ds : List (Nat × Tmp)} {w0 : World} {l : List (Value → World → Prop)} {k k' n : Nat} (hk : k' = k + 1) (h : AddStep P ops Q a ds w0 l k) (hs : AddSteps P ops Q a ds w0 l k' n) : AddSteps P ops Q a ds w0 l k (n + 1) := by subst hk; exact ⟨h, hs⟩
theorem AddSteps.at {a : Act} {ds : List (Nat × Tmp)} {w0 : World} {l : List (Value → World → Prop)} : ∀ (n k : Nat), AddSteps P ops Q a ds w0 l k n → ∀ i, k ≤ i → i < k + n → AddStep P ops Q a ds w0 l i
  | 0, k, _, i, h1, h2 => by omega
  | n + 1, k, h, i, h1, h2 => by
    rcases Nat.lt_or_ge k i with h3 | h3
    · exact AddSteps.at n (k + 1) h.2 i h3 (by omega)
    · obtain rfl : i = k := by omega
      exact h.1
theorem wp_region_add {id : Nat} {a : Act} {w0 : World} {ord : List Nat} {ds : List (Nat × Tmp)} {m : Nat} {l : List (Value → World → Prop)} (hmx : P.follows .mixedOrders = true) (hok : rgB ops ord m ds = true) (hm : decide (m ≤ ops.size) = true)
    (hs : AddSteps P ops Q a ds w0 l 0 m) (hst : AllSt l)
    (hend : ∀ (xs : Nat → Value) (y : World), Below w0.heap.size w0 y → (∀ j, j < m → vAt l j (xs j) y) → wpOps P ops Q (List.range' m (ops.size - m)) (putsF a ds xs) y) : (Code.region id ops true).wp P Q a w0 := by
  refine wp_region_rg (I := fun y => Below w0.heap.size w0 y) (V := vAt l) hmx hok hm (Below.refl _ _).drew (fun i hi o ho xs y hy hV K hK => ?_) hend
  refine hs.at m 0 i (Nat.zero_le _) (by omega) o ho xs y hy hV K fun v z hz hv => ?_
  exact hK v z (hy.trans (hz.mono hy.size)) hv fun j u _ _ hj => stable_vAt l hst j u y z hj hz
/-- The same, where all operations leave what was there. -/
theorem wp_region_all {id : Nat} {a : Act} {w0 : World} {ord : List Nat} {ds : List (Nat × Tmp)} {l : List (Value → World → Prop)} (m : Nat) (hmx : P.follows .mixedOrders = true) (hok : rgB ops ord m ds = true) (hm : ops.size = m)
    (hs : AddSteps P ops Q a ds w0 l 0 m) (hst : AllSt l)
    (hend : ∀ (xs : Nat → Value) (y : World), Below w0.heap.size w0 y → (∀ j, j < m → vAt l j (xs j) y) → Q .normal (putsF a ds xs) y) : (Code.region id ops true).wp P Q a w0 :=
  wp_region_add hmx hok (decide_eq_true (Nat.le_of_eq hm.symm)) hs hst fun xs y hy hV => by
    rw [hm, Nat.sub_self]
    exact hend xs y hy hV
theorem wpOps_nil {a : Act} {w : World} (h : Q .normal a w) : wpOps P ops Q [] a w := h
theorem wpOps_next {i : Nat} {rest : List Nat} {a : Act} {w : World} {o : Oper} (ho : ops[i]? = some o)
    (h : ∀ K : Act → World → Prop, Shut (∀ a w, wpOps P ops Q rest a w → K a w) → if Region.wanted o (yielded ops a.tmps) = true then o.wp P a w K Q else K (a.put o.dst undef) w) : wpOps P ops Q (i :: rest) a w := by
  rw [wpOps_cons]
  exact wpOp_step ho h
theorem wpOps_go {i : Nat} {rest : List Nat} {a : Act} {w : World} {o : Oper} (ho : ops[i]? = some o) (hg : o.guard = none)
    (h : ∀ K : Act → World → Prop, Shut (∀ a w, wpOps P ops Q rest a w → K a w) → o.wp P a w K Q) : wpOps P ops Q (i :: rest) a w :=
  wpOps_next ho fun K hK => by
    rw [if_pos (by simp [Region.wanted, hg])]
    exact h K hK
end
end Go.Proofs.Ytaocgkmobfocjaa
