/- An evening of layer 7, plainly: the numbers of its visits are small. No program, no memory. -/
import Derived.Test.YtijbhcdnbaaobaaHf
namespace Go.Proofs.Ytijbhcdnbaaobaa

/-- It is tick n, and all visits ended in ticks from 0 to n. -/
def EraS (n : Int) (s : EvS) : Prop := s.now = n ∧ ∀ v ∈ s.visits, 0 ≤ v.left ∧ v.left ≤ n
theorem era_same {n : Int} {s t : EvS} (h : EraS n s) (h1 : t.now = s.now) (h2 : t.visits = s.visits) : EraS n t := ⟨h1.trans h.1, fun v hv => h.2 v (by rw [← h2]; exact hv)⟩
theorem era_leave {n : Int} (h0 : 0 ≤ n) {s : EvS} (h : EraS n s) (i : Nat) (on : Bool) : EraS n (leaveS s i on) := by
  refine ⟨h.1, fun v hv => ?_⟩
  unfold leaveS at hv
  rcases List.mem_append.1 hv with hv | hv
  · exact h.2 v hv
  · rw [List.mem_singleton] at hv
    subst hv
    have := h.1
    show 0 ≤ s.now ∧ s.now ≤ n
    omega
theorem era_stand {n : Int} {s : EvS} (h : EraS n s) (i : Nat) : EraS n (standS s i) := era_same h (by simp [standS, EvS.modG, EvS.modR]) (by simp [standS, EvS.modG, EvS.modR])
theorem era_goOn {n : Int} {s : EvS} (h : EraS n s) (i : Nat) : EraS n (goOnS s i) := by
  unfold goOnS
  dsimp only
  split
  · exact era_same h rfl rfl
  · split
    · exact era_stand (era_same (t := s.modG i fun g => { g with want := g.want + 1 }) h rfl rfl) i
    · exact era_same h rfl rfl
theorem era_giveUp {n : Int} (h0 : 0 ≤ n) {s : EvS} (h : EraS n s) (i : Nat) : EraS n (giveUpS s i) := era_goOn (era_leave h0 h i false) i
theorem era_getOn {n : Int} (h0 : 0 ≤ n) {s : EvS} (h : EraS n s) (i : Nat) : EraS n (getOnS s i) := era_same (era_leave h0 h i true) rfl rfl
theorem era_due {n : Int} {f : EvS → Nat → EvS} (hf : ∀ s i, EraS n s → EraS n (f s i)) (p : Nat) {s : EvS} (h : EraS n s) : EraS n (forDueS p f s) := by
  unfold forDueS
  generalize List.range s.groups.length = l
  induction l generalizing s with
  | nil => exact h
  | cons i l ih =>
    rw [List.foldl_cons]
    refine ih ?_
    split
    · exact hf _ _ h
    · exact h
theorem era_fill {n : Int} (h0 : 0 ≤ n) (r : Nat) : ∀ (l : List Nat) (left : Int) (s : EvS), EraS n s → EraS n (fillS r l left s).1 := by
  intro l
  induction l with
  | nil => intro left s h; exact h
  | cons i l ih =>
    intro left s h
    simp only [fillS]
    split
    · exact ih _ _ (era_giveUp h0 h i)
    · split
      · exact ih _ _ (era_getOn h0 h i)
      · split
        · exact h
        · exact ih _ _ h
theorem era_rbeg {n : Int} (h0 : 0 ≤ n) {s : EvS} (h : EraS n s) (r : Nat) : EraS n (rbegS s r) := by
  unfold rbegS
  split
  · have hw := era_fill h0 r (s.rd r).q (s.rd r).b.seats s h
    generalize fillS r (s.rd r).q (s.rd r).b.seats s = t at hw
    obtain ⟨t, left⟩ := t
    dsimp only at hw ⊢
    split
    · exact era_same hw rfl rfl
    · exact hw
  · exact h
theorem era_rbegs {n : Int} (h0 : 0 ≤ n) {s : EvS} (h : EraS n s) : EraS n (rbegsS s) := by
  unfold rbegsS
  generalize List.range s.rides.length = l
  induction l generalizing s with
  | nil => exact h
  | cons r l ih => exact ih (era_rbeg h0 h r)
theorem era_tick {n : Int} (h0 : 0 ≤ n) {s : EvS} (h : EraS n s) : EraS n (tickS s) := by
  have h1 : EraS n (forDueS 3 goOnS s) := era_due (fun s i h => era_goOn h i) 3 h
  have h2 : EraS n (forDueS 0 goOnS (forDueS 3 goOnS s)) := era_due (fun s i h => era_goOn h i) 0 h1
  have h3 : EraS n (forDueS 1 standS (forDueS 0 goOnS (forDueS 3 goOnS s))) := era_due (fun s i h => era_stand h i) 1 h2
  have h4 : EraS n (forDueS 2 giveUpS (forDueS 1 standS (forDueS 0 goOnS (forDueS 3 goOnS s)))) := era_due (fun s i h => era_giveUp h0 h i) 2 h3
  have hb := era_rbegs h0 h4
  unfold tickS
  clear h1 h2 h3 h4
  generalize rbegsS (forDueS 2 giveUpS (forDueS 1 standS (forDueS 0 goOnS (forDueS 3 goOnS s)))) = t at hb ⊢
  exact era_same hb rfl rfl
theorem era_ticks : ∀ (m : Nat) (n : Int) (s : EvS), 0 ≤ n → EraS n s → ∀ v ∈ (ticksS m s).visits, 0 ≤ v.left ∧ v.left ≤ n + m := by
  intro m
  induction m with
  | zero => intro n s _ h v hv; have := h.2 v hv; omega
  | succ m ih =>
    intro n s h0 h v hv
    simp only [ticksS] at hv
    split at hv
    · have := h.2 v hv
      omega
    · have ht := era_tick h0 h
      have hn := h.1
      generalize tickS s = t at ht hv
      have he : EraS (n + 1) { t with now := s.now + 1 } := ⟨by rw [← hn], fun v hv => (by have := ht.2 v hv; omega)⟩
      have := ih (n + 1) _ (by omega) he v hv
      omega
/-- The visits of an evening: small numbers. -/
def SmallV (v : VisZ) : Prop := (0 ≤ v.left ∧ v.left ≤ 100000) ∧ v.group ≤ 1000 ∧ (0 ≤ v.want ∧ v.want ≤ 1000)
theorem play_small (f : EveZ) (l : List GrpZ) (hl : l.length ≤ 60) (ht : ∀ g ∈ l, 0 ≤ g.tokens) (hpt : ∀ g ∈ l, 0 ≤ g.patience) (hw : ∀ g ∈ l, ∀ w ∈ g.wants, 0 ≤ w ∧ w < (f.rides.length : Int)) (hwl : ∀ g ∈ l, g.wants.length ≤ 10) : ∀ v ∈ (eveS f l).visits, SmallV v := by
  intro v hv
  have h1 := play_tri f l ht hpt hw
  have h2 := h1.2.vis v hv
  have h3 := (h1.1.1.vis v hv).1
  have h4 : 0 ≤ v.left ∧ v.left ≤ 0 + ((4001 : Nat) : Int) := by
    unfold eveS at hv
    generalize 4001 = m at hv ⊢
    exact era_ticks m 0 (startS f l) (by omega) ⟨rfl, fun v hv => by cases hv⟩ v hv
  have hlen : (eveS f l).groups.length = l.length := by
    rw [(fix_len h1.1.1.fix).1]; simp [startS]
  have hg : v.group < l.length := by omega
  obtain ⟨w1, w2, _⟩ := h2
  rw [start_grp f l hg] at w2
  have hm : l.getD v.group default ∈ l := by
    rw [List.getD_eq_getElem?_getD, List.getElem?_eq_getElem hg]
    exact List.getElem_mem hg
  have h5 := hwl _ hm
  have w2' : v.want < ((l.getD v.group default).wants.length : Int) := w2
  refine ⟨by omega, by omega, by omega⟩
end Go.Proofs.Ytijbhcdnbaaobaa
