/- An evening of layer 7, plainly: the whole evening, as the specification's machine and the program's play it. No memory. -/
import Derived.Test.YtijbhcdnbaaobaaDg
import Derived.Test.YtijbhcdnbaaobaaJx
import Derived.Test.YtijbhcdnbaaobaaEz
import Derived.Test.YtijbhcdnbaaobaaDj
/- An evening of layer 7, plainly: the program's machine and the specification's own, step by step. No memory. -/
namespace Go.Proofs.Ytijbhcdnbaaobaa

/-- A valid evening is what the walks ask for. -/
theorem stat_ok {f : EveZ} {l : List GrpZ} (h1 : eveB f = true) (h2 : grpsB f.rides.length l = true) : ∀ E : RfE, E.f = f → E.l = l → StatE E := by
  rintro E rfl rfl
  obtain ⟨a1, a2, a3⟩ := eve_valid h1
  have g := grp_valid h2
  refine ⟨a1, grpsB_len h2, a2, fun i hi => ?_, fun r hr => a3 _ (getD_mem' hr)⟩
  obtain ⟨g1, g2, g3, -, g5, g6⟩ := g _ (getD_mem' hi)
  exact ⟨g1, g2, g3, g5, g6⟩
/-- The program's evening s and the specification's x say the same; P: what holds of who rides (the ride, and when it ends for them). -/
structure RelB (E : RfE) (P : Nat → Int → Prop) (s : EvS) (x : RawR) : Prop where
  now : x.now = s.now
  walk : s.walk = E.f.walk
  nG : s.groups.length = E.l.length
  nR : s.rides.length = E.f.rides.length
  g : ∀ i, i < s.groups.length → (s.grp i).g = E.l.getD i default
  b : ∀ r, r < s.rides.length → (s.rd r).b = E.bt r
  pl : ∀ i, i < s.groups.length → x.gu i 0 = ((s.grp i).place : Int)
  wa : ∀ i, i < s.groups.length → x.gu i 1 = (s.grp i).want
  tk : ∀ i, i < s.groups.length → x.gu i 3 = (s.grp i).tok
  out : ∀ i, i < s.groups.length → (s.grp i).place = 0 → (s.grp i).til = (s.grp i).g.at_
  wk : ∀ i, i < s.groups.length → (s.grp i).place = 1 → (s.grp i).til = x.gu i 2 + s.walk
  st : ∀ i, i < s.groups.length → (s.grp i).place = 2 → (s.grp i).came = x.gu i 2 ∧ (s.grp i).til = x.gu i 2 + (s.grp i).g.patience + 1
  rid : ∀ i, i < s.groups.length → (s.grp i).place = 3 → P (s.grp i).goal (s.grp i).til
  q : ∀ r, r < s.rides.length → x.q r = (s.rd r).q
  ta : ∀ r, r < s.rides.length → x.tab 2 r = (s.rd r).taken
  li : ∀ r, r < s.rides.length → x.tab 3 r = (s.rd r).longest
  ho : ∀ i, i < s.groups.length → x.tab 4 i = (s.grp i).home
  vis : x.vis = s.visits
  n0 : 0 ≤ s.now
  si : ∀ i, i < s.groups.length → 0 ≤ x.gu i 2 ∧ x.gu i 2 ≤ s.now
  wb : ∀ i, i < s.groups.length → -1 ≤ (s.grp i).want ∧ (s.grp i).want ≤ ((s.grp i).g.wants.length : Int)
section
variable {E : RfE} {P : Nat → Int → Prop} {s : EvS} {x : RawR}
theorem RelB.goal (h : RelB E P s x) {i : Nat} (hi : i < s.groups.length) : E.goal i (x.gu i 1) = (s.grp i).goal := by
  unfold RfE.goal GpS.goal
  rw [h.wa i hi, h.g i hi]
theorem upd_ne {g : Nat → Nat → Int} {i j a b : Nat} {v : Int} (h : a ≠ i) : upd2 g i j v a b = g a b := upd2_ne _ _ _ _ (fun e => h e.1)
theorem upd_nj {g : Nat → Nat → Int} {i j a b : Nat} {v : Int} (h : b ≠ j) : upd2 g i j v a b = g a b := upd2_ne _ _ _ _ (fun e => h e.2)
/-- One group is turned, on both sides; nothing else but the tables that do not matter for it. -/
theorem RelB.turn (h : RelB E P s x) {i : Nat} (hi : i < s.groups.length) (f : GpS → GpS) (y : RawR) (hg : (f (s.grp i)).g = (s.grp i).g)
    (hy : ∀ a b, a ≠ i → y.gu a b = x.gu a b) (hn : y.now = x.now) (hq : y.q = x.q) (hv : y.vis = x.vis) (ht : ∀ k a, k = 2 ∨ k = 3 ∨ k = 4 ∧ a ≠ i → y.tab k a = x.tab k a) (hh : y.tab 4 i = (f (s.grp i)).home)
    (h0 : y.gu i 0 = ((f (s.grp i)).place : Int)) (h1 : y.gu i 1 = (f (s.grp i)).want) (h3 : y.gu i 3 = (f (s.grp i)).tok)
    (p0 : (f (s.grp i)).place = 0 → (f (s.grp i)).til = (s.grp i).g.at_) (p1 : (f (s.grp i)).place = 1 → (f (s.grp i)).til = y.gu i 2 + s.walk)
    (p2 : (f (s.grp i)).place = 2 → (f (s.grp i)).came = y.gu i 2 ∧ (f (s.grp i)).til = y.gu i 2 + (s.grp i).g.patience + 1) (p3 : (f (s.grp i)).place = 3 → P (f (s.grp i)).goal (f (s.grp i)).til) (h2 : y.gu i 2 = s.now ∨ y.gu i 2 = x.gu i 2) (hw : -1 ≤ (f (s.grp i)).want ∧ (f (s.grp i)).want ≤ ((s.grp i).g.wants.length : Int)) : RelB E P (s.modG i f) y := by
  have hl : (s.modG i f).groups.length = s.groups.length := by simp [EvS.modG]
  have hgr : ∀ a, a ≠ i → (s.modG i f).grp a = s.grp a := fun a ha => by rw [grp_modG s i a f hi, if_neg ha]
  have hgi : (s.modG i f).grp i = f (s.grp i) := by rw [grp_modG s i i f hi, if_pos rfl]
  have hsi : ∀ a, a < (s.modG i f).groups.length → 0 ≤ y.gu a 2 ∧ y.gu a 2 ≤ s.now := fun a ha => by
    rw [hl] at ha
    by_cases e : a = i
    · subst e
      rcases h2 with h2 | h2
      · rw [h2]; exact ⟨h.n0, Int.le_refl _⟩
      · rw [h2]; exact h.si a hi
    · rw [hy a 2 e]; exact h.si a ha
  refine ⟨hn.trans h.now, h.walk, hl.trans h.nG, h.nR, fun a ha => ?_, h.b, fun a ha => ?_, fun a ha => ?_, fun a ha => ?_, fun a ha hp => ?_, fun a ha hp => ?_, fun a ha hp => ?_, fun a ha hp => ?_, fun r hr => (congrFun hq r).trans (h.q r hr), fun r hr => (ht 2 r (.inl rfl)).trans (h.ta r hr), fun r hr => (ht 3 r (.inr (.inl rfl))).trans (h.li r hr), fun a ha => ?_, hv.trans h.vis, h.n0, hsi, fun a ha => ?_⟩
  all_goals
    rw [hl] at ha
    by_cases e : a = i
    · subst e
      rw [hgi] at *
      first | exact hg.trans (h.g a hi) | exact h0 | exact h1 | exact h3 | (rw [hg]; exact p0 hp) | exact p1 hp | (rw [hg]; exact p2 hp) | exact p3 hp | exact hh | (rw [hg]; exact hw)
    · rw [hgr a e] at *
      first | exact h.g a ha | exact (hy a _ e).trans (h.pl a ha) | exact (hy a _ e).trans (h.wa a ha) | exact (hy a _ e).trans (h.tk a ha) | exact h.out a ha hp | exact (h.wk a ha hp).trans (by rw [hy a 2 e]; rfl) | (rw [hy a 2 e]; exact h.st a ha hp) | exact h.rid a ha hp | exact (ht 4 a (.inr (.inr ⟨rfl, e⟩))).trans (h.ho a ha) | exact h.wb a ha
/-- One ride is turned. -/
theorem RelB.turnR (h : RelB E P s x) {r : Nat} (hr : r < s.rides.length) (f : RdS → RdS) (y : RawR) (hb : (f (s.rd r)).b = (s.rd r).b) (hg : y.gu = x.gu) (hn : y.now = x.now) (hv : y.vis = x.vis)
    (hq : ∀ a, a ≠ r → y.q a = x.q a) (hq' : y.q r = (f (s.rd r)).q) (ht : ∀ k a, k = 4 ∨ a ≠ r → y.tab k a = x.tab k a) (h2 : y.tab 2 r = (f (s.rd r)).taken) (h3 : y.tab 3 r = (f (s.rd r)).longest) : RelB E P (s.modR r f) y := by
  have hl : (s.modR r f).rides.length = s.rides.length := by simp [EvS.modR]
  have hgr : ∀ a, a ≠ r → (s.modR r f).rd a = s.rd a := fun a ha => by rw [rd_modR s r a f hr, if_neg ha]
  have hgi : (s.modR r f).rd r = f (s.rd r) := by rw [rd_modR s r r f hr, if_pos rfl]
  refine ⟨hn.trans h.now, h.walk, h.nG, hl.trans h.nR, h.g, fun a ha => ?_, fun a ha => by rw [hg]; exact h.pl a ha, fun a ha => by rw [hg]; exact h.wa a ha, fun a ha => by rw [hg]; exact h.tk a ha, h.out, fun a ha hp => by rw [hg]; exact h.wk a ha hp, fun a ha hp => by rw [hg]; exact h.st a ha hp, h.rid, fun a ha => ?_, fun a ha => ?_, fun a ha => ?_, fun a ha => (ht 4 a (.inl rfl)).trans (h.ho a ha), hv.trans h.vis, h.n0, fun a ha => by rw [hg]; exact h.si a ha, h.wb⟩
  all_goals
    rw [hl] at ha
    by_cases e : a = r
    · subst e
      rw [hgi] at *
      first | exact hb.trans (h.b a hr) | exact hq' | exact h2 | exact h3
    · rw [hgr a e] at *
      first | exact h.b a ha | exact (hq a e).trans (h.q a ha) | exact (ht 2 a (.inr e)).trans (h.ta a ha) | exact (ht 3 a (.inr e)).trans (h.li a ha)
theorem setQ_at (x : RawR) (r : Nat) (l : List Nat) : (x.setQ r l).q r = l := if_pos rfl
theorem setQ_ne (x : RawR) (r : Nat) (l : List Nat) {a : Nat} (h : a ≠ r) : (x.setQ r l).q a = x.q a := if_neg h
theorem RelB.queue (h : RelB E P s x) {r : Nat} (hr : r < s.rides.length) (f : List Nat → List Nat) : RelB E P (s.modR r fun z => { z with q := f z.q }) (x.setQ r (f (x.q r))) :=
  h.turnR hr _ _ rfl rfl rfl rfl (fun _ ha => setQ_ne x r _ ha) (by rw [setQ_at, h.q r hr]) (fun _ _ _ => rfl) (h.ta r hr) (h.li r hr)
theorem modG_two (s : EvS) (i : Nat) (f g : GpS → GpS) : (s.modG i f).modG i g = s.modG i fun z => g (f z) := by
  unfold EvS.modG
  rw [List.modify_modify_eq]
  rfl
theorem RelB.stand (h : RelB E P s x) {i : Nat} (hi : i < s.groups.length) (hr : (s.grp i).goal < s.rides.length) : RelB E P (standS s i) (standR E x i) := by
  have k := h.queue hr fun q => q ++ [i]
  have hgo := h.goal hi
  have e : standR E x i = ((x.setQ (s.grp i).goal (x.q (s.grp i).goal ++ [i])).setGu i 0 2).setGu i 2 x.now := by unfold standR; rw [hgo]; rfl
  rw [e]
  refine k.turn (i := i) hi (fun g => { g with place := 2, came := s.now, til := s.now + g.g.patience + 1 }) _ rfl (fun a b ha => ?_) rfl rfl rfl (fun _ _ _ => rfl) (h.ho i hi) ?_ ?_ ?_ (fun h => by cases h) (fun h => by cases h) (fun _ => ?_) (fun h => by cases h) (.inl (by show upd2 (upd2 x.gu i 0 2) i 2 x.now i 2 = _; rw [upd2_at]; exact h.now)) (h.wb i hi)
  · show upd2 (upd2 x.gu i 0 2) i 2 x.now a b = x.gu a b
    rw [upd_ne ha, upd_ne ha]
  · show upd2 (upd2 x.gu i 0 2) i 2 x.now i 0 = _
    rw [upd_nj (by omega), upd2_at]
    rfl
  · show upd2 (upd2 x.gu i 0 2) i 2 x.now i 1 = _
    rw [upd_nj (by omega), upd_nj (by omega)]
    exact h.wa i hi
  · show upd2 (upd2 x.gu i 0 2) i 2 x.now i 3 = _
    rw [upd_nj (by omega), upd_nj (by omega)]
    exact h.tk i hi
  · show s.now = upd2 (upd2 x.gu i 0 2) i 2 x.now i 2 ∧ _ = upd2 (upd2 x.gu i 0 2) i 2 x.now i 2 + _ + 1
    rw [upd2_at, h.now]
    exact ⟨rfl, rfl⟩
/-- The ride that comes next for a group. -/
def GpS.next (g : GpS) : Nat := (g.g.wants.getD (g.want + 1).toNat 0).toNat
theorem RelB.on (h : RelB E P s x) {i : Nat} (hi : i < s.groups.length) (h1 : (s.grp i).want + 1 ≤ ((s.grp i).g.wants.length : Int)) (hr : (s.grp i).want + 1 < ((s.grp i).g.wants.length : Int) → (s.grp i).next < s.rides.length) : RelB E P (goOnS s i) (onR E x i) := by
  have hw := h.wa i hi
  have hg := h.g i hi
  have hwb := h.wb i hi
  have hs1 : (s.modG i fun g => { g with want := g.want + 1 }).grp i = { s.grp i with want := (s.grp i).want + 1 } := by rw [grp_modG s i i _ hi, if_pos rfl]
  unfold goOnS onR
  simp only [hs1, hw, ← hg, ← h.walk]
  by_cases he : (s.grp i).want + 1 = ((s.grp i).g.wants.length : Int)
  · have hle : ((s.grp i).g.wants.length : Int) ≤ (s.grp i).want + 1 := by omega
    rw [if_pos he, if_pos hle, modG_two]
    refine h.turn hi _ _ rfl (fun a b ha => ?_) rfl rfl rfl (fun k a hk => ?_) ?_ ?_ ?_ ?_ (fun h => by cases h) (fun h => by cases h) (fun h => by cases h) (fun h => by cases h) (.inl (by show upd2 (upd2 (upd2 x.gu i 1 _) i 2 x.now) i 0 4 i 2 = _; rw [upd_nj (by omega), upd2_at]; exact h.now)) ⟨by show -1 ≤ (s.grp i).want + 1; omega, h1⟩
    · show upd2 (upd2 (upd2 x.gu i 1 _) i 2 x.now) i 0 4 a b = _
      rw [upd_ne ha, upd_ne ha, upd_ne ha]
    · show upd2 x.tab 4 i x.now k a = _
      rw [upd2_ne _ _ _ _ (by omega)]
    · show upd2 x.tab 4 i x.now 4 i = _
      rw [upd2_at]
      exact h.now
    · show upd2 (upd2 (upd2 x.gu i 1 _) i 2 x.now) i 0 4 i 0 = _
      rw [upd2_at]
      rfl
    · show upd2 (upd2 (upd2 x.gu i 1 _) i 2 x.now) i 0 4 i 1 = _
      rw [upd_nj (by omega), upd_nj (by omega), upd2_at]
    · show upd2 (upd2 (upd2 x.gu i 1 _) i 2 x.now) i 0 4 i 3 = _
      rw [upd_nj (by omega), upd_nj (by omega), upd_nj (by omega)]
      exact h.tk i hi
  · have hle : ¬ ((s.grp i).g.wants.length : Int) ≤ (s.grp i).want + 1 := by omega
    rw [if_neg he, if_neg hle]
    by_cases hw0 : s.walk = 0
    · rw [if_pos hw0, if_pos hw0]
      have hlt : (s.grp i).want + 1 < ((s.grp i).g.wants.length : Int) := by omega
      have k := h.queue (hr hlt) fun q => q ++ [i]
      have e1 : standS (s.modG i fun g => { g with want := g.want + 1 }) i = (s.modR (s.grp i).next fun z => { z with q := z.q ++ [i] }).modG i fun g => { g with want := g.want + 1, place := 2, came := s.now, til := s.now + g.g.patience + 1 } := by
        unfold standS
        rw [hs1]
        exact modG_two (s.modR (s.grp i).next fun z => { z with q := z.q ++ [i] }) i (fun g => { g with want := g.want + 1 }) _
      have e2 : standR E ((x.setGu i 1 ((s.grp i).want + 1)).setGu i 2 x.now |>.setGu i 0 1) i = ((((((x.setQ (s.grp i).next (x.q (s.grp i).next ++ [i])).setGu i 1 ((s.grp i).want + 1)).setGu i 2 x.now).setGu i 0 1).setGu i 0 2).setGu i 2 x.now) := by
        have hgo : E.goal i (((x.setGu i 1 ((s.grp i).want + 1)).setGu i 2 x.now |>.setGu i 0 1).gu i 1) = (s.grp i).next := by
          have : ((x.setGu i 1 ((s.grp i).want + 1)).setGu i 2 x.now |>.setGu i 0 1).gu i 1 = (s.grp i).want + 1 := by
            show upd2 (upd2 (upd2 x.gu i 1 _) i 2 x.now) i 0 1 i 1 = _
            rw [upd_nj (by omega), upd_nj (by omega), upd2_at]
          rw [this]
          unfold RfE.goal GpS.next
          rw [hg]
        unfold standR
        rw [hgo]
        rfl
      rw [e1, e2]
      refine k.turn (i := i) hi _ _ rfl (fun a b ha => ?_) rfl rfl rfl (fun _ _ _ => rfl) (h.ho i hi) ?_ ?_ ?_ (fun h => by cases h) (fun h => by cases h) (fun _ => ?_) (fun h => by cases h) (.inl (by show upd2 (upd2 (upd2 (upd2 (upd2 x.gu i 1 _) i 2 x.now) i 0 1) i 0 2) i 2 x.now i 2 = _; rw [upd2_at]; exact h.now)) ⟨by show -1 ≤ (s.grp i).want + 1; omega, h1⟩
      · show upd2 (upd2 (upd2 (upd2 (upd2 x.gu i 1 _) i 2 x.now) i 0 1) i 0 2) i 2 x.now a b = x.gu a b
        rw [upd_ne ha, upd_ne ha, upd_ne ha, upd_ne ha, upd_ne ha]
      · show upd2 (upd2 (upd2 (upd2 (upd2 x.gu i 1 _) i 2 x.now) i 0 1) i 0 2) i 2 x.now i 0 = _
        rw [upd_nj (by omega), upd2_at]
        rfl
      · show upd2 (upd2 (upd2 (upd2 (upd2 x.gu i 1 _) i 2 x.now) i 0 1) i 0 2) i 2 x.now i 1 = _
        rw [upd_nj (by omega), upd_nj (by omega), upd_nj (by omega), upd_nj (by omega), upd2_at]
        rfl
      · show upd2 (upd2 (upd2 (upd2 (upd2 x.gu i 1 _) i 2 x.now) i 0 1) i 0 2) i 2 x.now i 3 = _
        rw [upd_nj (by omega), upd_nj (by omega), upd_nj (by omega), upd_nj (by omega), upd_nj (by omega)]
        exact h.tk i hi
      · show s.now = upd2 (upd2 (upd2 (upd2 (upd2 x.gu i 1 _) i 2 x.now) i 0 1) i 0 2) i 2 x.now i 2 ∧ _ = upd2 (upd2 (upd2 (upd2 (upd2 x.gu i 1 _) i 2 x.now) i 0 1) i 0 2) i 2 x.now i 2 + _ + 1
        rw [upd2_at, h.now]
        exact ⟨rfl, rfl⟩
    · rw [if_neg hw0, if_neg hw0, modG_two]
      refine h.turn hi _ _ rfl (fun a b ha => ?_) rfl rfl rfl (fun _ _ _ => rfl) (h.ho i hi) ?_ ?_ ?_ (fun h => by cases h) (fun _ => ?_) (fun h => by cases h) (fun h => by cases h) (.inl (by show upd2 (upd2 (upd2 x.gu i 1 _) i 2 x.now) i 0 1 i 2 = _; rw [upd_nj (by omega), upd2_at]; exact h.now)) ⟨by show -1 ≤ (s.grp i).want + 1; omega, h1⟩
      · show upd2 (upd2 (upd2 x.gu i 1 _) i 2 x.now) i 0 1 a b = _
        rw [upd_ne ha, upd_ne ha, upd_ne ha]
      · show upd2 (upd2 (upd2 x.gu i 1 _) i 2 x.now) i 0 1 i 0 = _
        rw [upd2_at]
        rfl
      · show upd2 (upd2 (upd2 x.gu i 1 _) i 2 x.now) i 0 1 i 1 = _
        rw [upd_nj (by omega), upd_nj (by omega), upd2_at]
      · show upd2 (upd2 (upd2 x.gu i 1 _) i 2 x.now) i 0 1 i 3 = _
        rw [upd_nj (by omega), upd_nj (by omega), upd_nj (by omega)]
        exact h.tk i hi
      · show s.now + s.walk = upd2 (upd2 (upd2 x.gu i 1 _) i 2 x.now) i 0 1 i 2 + s.walk
        rw [upd_nj (by omega), upd2_at, h.now]
theorem RelB.left (h : RelB E P s x) {i : Nat} (hi : i < s.groups.length) (hp : (s.grp i).place = 2) (hr : (s.grp i).goal < s.rides.length) (on : Bool) : RelB E P (leaveS s i on) (leftR E x i on) := by
  have k := h.queue hr fun q => q.filter (· ≠ i)
  have hgo := h.goal hi
  have e : leftR E x i on = (x.setQ (s.grp i).goal ((x.q (s.grp i).goal).filter (· ≠ i))).addV ⟨i, (s.grp i).want, (s.grp i).goal, on, (s.grp i).came, s.now⟩ := by
    unfold leftR
    rw [hgo, h.wa i hi, (h.st i hi hp).1, h.now]
  rw [e]
  refine ⟨k.now, k.walk, k.nG, k.nR, k.g, k.b, k.pl, k.wa, k.tk, k.out, k.wk, k.st, k.rid, k.q, k.ta, k.li, k.ho, ?_, k.n0, k.si, k.wb⟩
  show x.vis ++ _ = s.visits ++ _
  rw [h.vis]
theorem RelB.giveUp (h : RelB E P s x) {i : Nat} (hi : i < s.groups.length) (hp : (s.grp i).place = 2) (hr : (s.grp i).goal < s.rides.length) (h1 : (s.grp i).want + 1 ≤ ((s.grp i).g.wants.length : Int)) (h2 : (s.grp i).want + 1 < ((s.grp i).g.wants.length : Int) → (s.grp i).next < s.rides.length) : RelB E P (giveUpS s i) (leaveR E x i false) := by
  have k := h.left hi hp hr false
  have hl : (leaveS s i false).rides.length = s.rides.length := by simp [leaveS, EvS.modR]
  exact k.on hi h1 (fun hlt => by rw [hl]; exact h2 hlt)
theorem RelB.getOn (h : RelB E P s x) {i : Nat} (hi : i < s.groups.length) (hp : (s.grp i).place = 2) (hr : (s.grp i).goal < s.rides.length) (hP : P (s.grp i).goal (s.now + (s.rd (s.grp i).goal).b.cycle)) : RelB E P (getOnS s i) (leaveR E x i true) := by
  have k := h.left hi hp hr true
  have hgo := h.goal hi
  have hc : (E.f.rides.getD (s.grp i).goal default).price * (E.l.getD i default).size = costS s i (s.grp i).goal := by
    unfold costS
    rw [h.b _ hr, h.g i hi]
    rfl
  have e : leaveR E x i true = (((((leftR E x i true).setGu i 0 3).setGu i 2 x.now).setGu i 3 (x.gu i 3 - costS s i (s.grp i).goal)).setT 2 (s.grp i).goal (x.tab 2 (s.grp i).goal + costS s i (s.grp i).goal)) := by
    unfold leaveR
    rw [if_pos rfl, hgo, hc]
  have hl : (leaveS s i true).rides.length = s.rides.length := by simp [leaveS, EvS.modR]
  rw [e]
  have k1 := k.turn (i := i) hi (fun g => { g with tok := g.tok - costS s i (s.grp i).goal, place := 3, til := s.now + (s.rd (s.grp i).goal).b.cycle }) (((leftR E x i true).setGu i 0 3).setGu i 2 x.now |>.setGu i 3 (x.gu i 3 - costS s i (s.grp i).goal)) rfl (fun a b ha => by
      show upd2 (upd2 (upd2 x.gu i 0 3) i 2 x.now) i 3 _ a b = x.gu a b
      rw [upd_ne ha, upd_ne ha, upd_ne ha]) rfl rfl rfl (fun _ _ _ => rfl) (h.ho i hi) (by
      show upd2 (upd2 (upd2 x.gu i 0 3) i 2 x.now) i 3 _ i 0 = _
      rw [upd_nj (by omega), upd_nj (by omega), upd2_at]
      rfl) (by
      show upd2 (upd2 (upd2 x.gu i 0 3) i 2 x.now) i 3 _ i 1 = _
      rw [upd_nj (by omega), upd_nj (by omega), upd_nj (by omega)]
      exact h.wa i hi) (by
      show upd2 (upd2 (upd2 x.gu i 0 3) i 2 x.now) i 3 _ i 3 = _
      rw [upd2_at, h.tk i hi]
      rfl) (fun h => by cases h) (fun h => by cases h) (fun h => by cases h) (fun _ => hP) (.inl (by show upd2 (upd2 (upd2 x.gu i 0 3) i 2 x.now) i 3 _ i 2 = _; rw [upd_nj (by omega), upd2_at]; exact h.now)) (h.wb i hi)
  have hta : (leftR E x i true).tab 2 (s.grp i).goal = ((leaveS s i true).rd (s.grp i).goal).taken := k.ta _ (by rw [hl]; exact hr)
  refine k1.turnR (r := (s.grp i).goal) (by show _ < (leaveS s i true).rides.length; rw [hl]; exact hr) (fun z => { z with taken := z.taken + costS s i (s.grp i).goal }) _ rfl rfl rfl rfl (fun _ _ => rfl) (k.q _ (by rw [hl]; exact hr)) (fun k a hk => ?_) ?_ ?_
  · show upd2 x.tab 2 (s.grp i).goal (x.tab 2 (s.grp i).goal + costS s i (s.grp i).goal) k a = x.tab k a
    rw [upd2_ne _ _ _ _ (by rintro ⟨rfl, rfl⟩; rcases hk with h | h; omega; exact h rfl)]
  · show upd2 x.tab 2 (s.grp i).goal _ 2 (s.grp i).goal = _
    rw [upd2_at]
    show x.tab 2 (s.grp i).goal + _ = ((leaveS s i true).rd (s.grp i).goal).taken + _
    rw [← hta]
    rfl
  · show upd2 x.tab 2 (s.grp i).goal (x.tab 2 (s.grp i).goal + costS s i (s.grp i).goal) 3 (s.grp i).goal = _
    rw [upd_ne (by omega)]
    exact k.li _ (by rw [hl]; exact hr)
theorem next_lt (hv : ValS s) {i : Nat} (hi : i < s.groups.length) (h0 : -1 ≤ (s.grp i).want) (h1 : (s.grp i).want + 1 < ((s.grp i).g.wants.length : Int)) : (s.grp i).next < s.rides.length := by
  have hlt : ((s.grp i).want + 1).toNat < (s.grp i).g.wants.length := by omega
  have hm : (s.grp i).g.wants.getD ((s.grp i).want + 1).toNat 0 ∈ (s.grp i).g.wants := by
    rw [List.getD_eq_getElem?_getD, List.getElem?_eq_getElem hlt]
    exact List.getElem_mem hlt
  have := hv i hi _ hm
  unfold GpS.next
  omega
theorem RelB.leavePre {a : EvS} (h : RelB E P s x) (hB : BigS a) (hb : BothS a s) {i : Nat} (hi : i < s.groups.length) (hp : (s.grp i).place = 2) : LeavePre E x i := by
  have F := fit_of hB hb
  have hat := hb.1.at_ i hi (by simp) (.inr (.inl hp))
  have hv := vis_600 hB hb
  have ht := F.tok i hi
  refine ⟨by rw [h.wa i hi]; exact hat.1, by rw [h.wa i hi, ← h.g i hi]; exact hat.2, fun r hr => ?_, by rw [h.vis]; omega, by rw [h.tk i hi]; omega, fun r hr => ?_⟩
  · rw [← h.nR] at hr
    rw [h.q r hr]
    have := (F.que r).1
    omega
  · rw [← h.nR] at hr
    rw [h.ta r hr]
    have := F.taken r hr
    omega
theorem RelB.fill {a : EvS} (hB : BigS a) (r : Nat) (n : Int) (hP : P r (n + (E.bt r).cycle)) : ∀ (l : List Nat) (left : Int) (s : EvS) (x : RawR), RelB E P s x → BothS a s → s.now = n → r < s.rides.length → l.Nodup → (∀ j ∈ l, j < s.groups.length ∧ (s.grp j).place = 2 ∧ (s.grp j).goal = r) →
    RelB E P (fillS r l left s).1 (fillLR E r l left x).1 ∧ (fillLR E r l left x).2 = (fillS r l left s).2 ∧ FillGo E r l left x := by
  intro l
  induction l with
  | nil => intro left s x h _ _ _ _ _; exact ⟨h, rfl, trivial⟩
  | cons i l ih =>
    intro left s x h hb hn hr hnd hl
    obtain ⟨hi, hp, hg⟩ := hl i List.mem_cons_self
    rw [List.nodup_cons] at hnd
    have rest : ∀ t : EvS, t.groups.length = s.groups.length → (∀ j, j ≠ i → t.grp j = s.grp j) → ∀ j ∈ l, j < t.groups.length ∧ (t.grp j).place = 2 ∧ (t.grp j).goal = r := fun t hlen ho j hj => by
      have hji : j ≠ i := fun e => hnd.1 (e ▸ hj)
      rw [hlen, ho j hji]
      exact hl j (List.mem_cons_of_mem _ hj)
    have hv := hB.wish
    have F := fit_of hB hb
    have hat := hb.1.at_ i hi (by simp) (.inr (.inl hp))
    have hpre := h.leavePre hB hb hi hp
    have hil : i < E.l.length := by rw [← h.nG]; exact hi
    have c1 : (s.grp i).g.size = E.sz i := by unfold RfE.sz; rw [h.g i hi]
    have c2 : (s.rd r).b = E.bt r := h.b r hr
    have c3 : costS s i r = E.sz i * (E.bt r).price := by unfold costS; rw [c2, c1, Int.mul_comm]
    have hgr : (s.grp i).goal < s.rides.length := by rw [hg]; exact hr
    have hwg := wf_giveUp hb.1 hv hi hp
    have kg := h.giveUp hi hp hgr (by omega) (fun hlt => next_lt F.wish hi (by omega) hlt)
    simp only [fillS, fillLR, FillGo, gt_iff_lt, c1, c2, c3, h.tk i hi]
    by_cases C : (E.bt r).seats < E.sz i ∨ (s.grp i).tok < E.sz i * (E.bt r).price
    · simp only [if_pos C]
      have hb2 : BothS a (giveUpS s i) := ⟨hwg, all_giveUp hb.1 hb.2 hi hp⟩
      obtain ⟨k1, k2, k3⟩ := ih left _ _ kg hb2 ((goOn_same _ i).2.trans hn) (by rw [(fix_len hwg.fix).2, ← (fix_len hb.1.fix).2]; exact hr) hnd.2 (rest _ (by rw [(fix_len hwg.fix).1, (fix_len hb.1.fix).1]) fun j hj => giveUp_other s hi hj)
      exact ⟨k1, k2, ⟨hil, hpre⟩, k3⟩
    · simp only [if_neg C]
      by_cases D : E.sz i ≤ left
      · simp only [if_pos D]
        have hwo := wf_getOn hb.1 hv hi hp (by rw [hg, c3]; omega)
        have ko := h.getOn hi hp hgr (by rw [hg, c2, hn]; exact hP)
        have hb2 : BothS a (getOnS s i) := ⟨hwo, all_getOn hb.1 hb.2 hi hp⟩
        obtain ⟨k1, k2, k3⟩ := ih (left - E.sz i) _ _ ko hb2 hn (by rw [(fix_len hwo.fix).2, ← (fix_len hb.1.fix).2]; exact hr) hnd.2 (rest _ (by rw [(fix_len hwo.fix).1, (fix_len hb.1.fix).1]) fun j hj => getOn_other s hi hj)
        exact ⟨k1, k2, ⟨hil, hpre⟩, k3⟩
      · simp only [if_neg D]
        by_cases G : (E.bt r).fill = false
        · simp only [if_pos G]
          exact ⟨h, trivial, ⟨hil, hpre⟩, trivial⟩
        · simp only [if_neg G]
          obtain ⟨k1, k2, k3⟩ := ih left s x h hb hn hr hnd.2 (rest s rfl fun _ _ => rfl)
          exact ⟨k1, k2, ⟨hil, hpre⟩, k3⟩
end
end Go.Proofs.Ytijbhcdnbaaobaa
/- An evening of layer 7, plainly: the loops of the specification's tick beside the program's. No memory. -/
namespace Go.Proofs.Ytijbhcdnbaaobaa

theorem tab_on (E : RfE) (x : RawR) (i : Nat) {k a : Nat} (hk : k < 4) : (onR E x i).tab k a = x.tab k a := by
  unfold onR
  dsimp only
  split
  · show upd2 x.tab 4 i _ k a = _
    rw [upd_ne (by omega)]
  · split <;> rfl
theorem tab_leave (E : RfE) (x : RawR) (i : Nat) (on : Bool) {k a : Nat} (hk : k < 2) : (leaveR E x i on).tab k a = x.tab k a := by
  unfold leaveR
  split
  · show upd2 x.tab 2 _ _ k a = _
    rw [upd_ne (by omega)]
  · exact tab_on E (leftR E x i false) i (by omega)
/-- A moment within a tick: the two machines say the same; when the rides began and ended is T0, T1. -/
structure Mid (E : RfE) (P : Nat → Int → Prop) (a : EvS) (n : Int) (T0 T1 : Nat → Int) (s : EvS) (x : RawR) : Prop where
  rel : RelB E P s x
  both : BothS a s
  now : s.now = n
  tab : ∀ r, r < E.f.rides.length → x.tab 0 r = T0 r ∧ x.tab 1 r = T1 r
/-- What a tick's numbers are bound by. -/
structure TabB (E : RfE) (n : Int) (T0 T1 : Nat → Int) : Prop where
  n : n ≤ 4000
  b0 : ∀ r, r < E.f.rides.length → -1 ≤ T0 r ∧ T0 r ≤ 4000
  b1 : ∀ r, r < E.f.rides.length → -1 ≤ T1 r ∧ T1 r ≤ 4000
section
variable {E : RfE} {P : Nat → Int → Prop} {a s : EvS} {x : RawR} {n : Int} {T0 T1 : Nat → Int}
theorem Mid.fine (h : Mid E P a n T0 T1 s x) (hB : BigS a) (hT : TabB E n T0 T1) : Fine E x := by
  have F := fit_of hB h.both
  have R := h.rel
  have hv := vis_600 hB h.both
  have hn := h.now
  have h0 := R.n0
  have hn2 := hT.n
  refine ⟨by rw [R.now]; omega, fun r hr => by rw [(h.tab r hr).1]; exact hT.b0 r hr, fun r hr => by rw [(h.tab r hr).2]; exact hT.b1 r hr, fun r hr => ?_, fun r hr => ?_, fun r hr i hi => ?_, by rw [R.vis]; omega, fun i hi => ?_, fun i hi => ?_, fun i hi => ?_, fun i hi hp => ?_⟩
  · rw [← R.nR] at hr
    rw [R.ta r hr]
    have := F.taken r hr
    omega
  · rw [← R.nR] at hr
    rw [R.q r hr]
    have := (F.que r).1
    omega
  · rw [← R.nR] at hr
    rw [R.q r hr] at hi
    rw [← R.nG]
    exact (F.que r).2 i hi
  · rw [← R.nG] at hi
    rw [R.wa i hi]
    have h1 := R.wb i hi
    have h2 := (F.gp i hi).2.2
    omega
  · rw [← R.nG] at hi
    have := R.si i hi
    omega
  · rw [← R.nG] at hi
    rw [R.tk i hi]
    have := F.tok i hi
    omega
  · rw [← R.nG] at hi
    rw [R.pl i hi] at hp
    rw [R.wa i hi, ← R.g i hi]
    exact h.both.1.at_ i hi (by simp) (by omega)
theorem mid_loop {step : EvS → Nat → EvS} {stepR : RawR → Nat → RawR} (hB : BigS a) (hT : TabB E n T0 T1) (hstep : ∀ s x i, Mid E P a n T0 T1 s x → i < E.l.length → Mid E P a n T0 T1 (step s i) (stepR x i)) :
    ∀ (l : List Nat) (s : EvS) (x : RawR), Mid E P a n T0 T1 s x → (∀ i, i ∈ l → i < E.l.length) → Mid E P a n T0 T1 (l.foldl step s) (l.foldl stepR x) ∧ LoopGo E stepR noPre l x := by
  intro l
  induction l with
  | nil => intro s x h _; exact ⟨h, trivial⟩
  | cons i l ih =>
    intro s x h hl
    obtain ⟨k1, k2⟩ := ih _ _ (hstep s x i h (hl i List.mem_cons_self)) (fun j hj => hl j (List.mem_cons_of_mem _ hj))
    exact ⟨k1, h.fine hB hT, trivial, k2⟩
/-- A group goes on to what it wants next. -/
theorem Mid.on (h : Mid E P a n T0 T1 s x) (hB : BigS a) {i : Nat} (hi : i < E.l.length) (hp : (s.grp i).place = 0 ∨ (s.grp i).place = 3) (ht : (s.grp i).til = s.now) : Mid E P a n T0 T1 (goOnS s i) (onR E x i) := by
  have hi' : i < s.groups.length := by rw [h.rel.nG]; exact hi
  have F := fit_of hB h.both
  have hw : -1 ≤ (s.grp i).want ∧ (s.grp i).want + 1 ≤ ((s.grp i).g.wants.length : Int) := by
    rcases hp with hp | hp
    · have := h.both.1.out i hi' (by simp) hp
      omega
    · have := h.both.1.at_ i hi' (by simp) (.inr (.inr hp))
      omega
  exact ⟨h.rel.on hi' hw.2 (fun hlt => next_lt F.wish hi' hw.1 hlt), both_go hB.wish h.both hi' hp ht, (goOn_same s i).2.trans h.now, fun r hr => by rw [tab_on E x i (by omega), tab_on E x i (by omega)]; exact h.tab r hr⟩
theorem Mid.stand (h : Mid E P a n T0 T1 s x) (hB : BigS a) {i : Nat} (hi : i < E.l.length) (hp : (s.grp i).place = 1) (ht : (s.grp i).til = s.now) : Mid E P a n T0 T1 (standS s i) (standR E x i) := by
  have hi' : i < s.groups.length := by rw [h.rel.nG]; exact hi
  have hat := h.both.1.at_ i hi' (by simp) (.inl hp)
  exact ⟨h.rel.stand hi' (goal_lt hB.wish h.both.1.fix hi' hat.1 hat.2), both_st hB.wish h.both hi' hp ht, h.now, h.tab⟩
theorem Mid.giveUp (h : Mid E P a n T0 T1 s x) (hB : BigS a) {i : Nat} (hi : i < E.l.length) (hp : (s.grp i).place = 2) : Mid E P a n T0 T1 (giveUpS s i) (leaveR E x i false) := by
  have hi' : i < s.groups.length := by rw [h.rel.nG]; exact hi
  have hat := h.both.1.at_ i hi' (by simp) (.inr (.inl hp))
  have F := fit_of hB h.both
  exact ⟨h.rel.giveUp hi' hp (goal_lt hB.wish h.both.1.fix hi' hat.1 hat.2) (by omega) (fun hlt => next_lt F.wish hi' (by omega) hlt), both_gu hB.wish h.both hi' hp, (goOn_same _ i).2.trans h.now, fun r hr => by rw [tab_leave E x i false (by omega), tab_leave E x i false (by omega)]; exact h.tab r hr⟩
/-- Who rides, behind the loop in which rides end: those whose ride has ended now, and those whose ride goes on. -/
def PB (E : RfE) (n : Int) (T0 T1 : Nat → Int) (r : Nat) (t : Int) : Prop := (T1 r = n → t = n) ∧ (T1 r ≠ n → t ≠ n ∧ 0 ≤ T0 r ∧ t = T0 r + (E.bt r).cycle)
def step3 (s : EvS) (i : Nat) : EvS := if (s.grp i).place = 3 ∧ (s.grp i).til = s.now then goOnS s i else s
def stepM (s : EvS) (i : Nat) : EvS := if (s.grp i).place = 0 ∧ (s.grp i).til = s.now then goOnS s i else if (s.grp i).place = 1 ∧ (s.grp i).til = s.now then standS s i else s
theorem Mid.off (h : Mid E (PB E n T0 T1) a n T0 T1 s x) (hB : BigS a) {i : Nat} (hi : i < E.l.length) : Mid E (PB E n T0 T1) a n T0 T1 (step3 s i) (offS E x i) := by
  have R := h.rel
  have hi' : i < s.groups.length := by rw [R.nG]; exact hi
  unfold step3 offS
  rw [R.pl i hi', R.goal hi', R.now, h.now]
  by_cases hp : (s.grp i).place = 3
  · have hat := h.both.1.at_ i hi' (by simp) (.inr (.inr hp))
    have hg := goal_lt hB.wish h.both.1.fix hi' hat.1 hat.2
    rw [R.nR] at hg
    rw [(h.tab _ hg).2]
    have hr := R.rid i hi' hp
    by_cases ht : T1 (s.grp i).goal = n
    · have htil := hr.1 ht
      rw [if_pos ⟨hp, htil⟩, if_pos ⟨by omega, ht⟩]
      exact h.on hB hi (.inr hp) (htil.trans h.now.symm)
    · have htil := (hr.2 ht).1
      rw [if_neg (fun e => htil e.2), if_neg (fun e => ht e.2)]
      exact h
  · rw [if_neg (fun e => hp e.1), if_neg (fun e => hp (by have := e.1; omega))]
    exact h
theorem Mid.mix (h : Mid E P a n T0 T1 s x) (hB : BigS a) {i : Nat} (hi : i < E.l.length) : Mid E P a n T0 T1 (stepM s i) (mixR E x i) := by
  have R := h.rel
  have hi' : i < s.groups.length := by rw [R.nG]; exact hi
  unfold stepM mixR
  rw [R.pl i hi', R.now, h.now, ← R.walk, ← R.g i hi']
  have i0 : (((s.grp i).place : Int) = 0 ∧ (s.grp i).g.at_ = n) ↔ ((s.grp i).place = 0 ∧ (s.grp i).til = n) := by
    constructor
    · rintro ⟨e1, e2⟩
      have e3 : (s.grp i).place = 0 := by omega
      exact ⟨e3, (R.out i hi' e3).trans e2⟩
    · rintro ⟨e1, e2⟩
      exact ⟨by omega, (R.out i hi' e1).symm.trans e2⟩
  have i1 : (((s.grp i).place : Int) = 1 ∧ n - x.gu i 2 = s.walk) ↔ ((s.grp i).place = 1 ∧ (s.grp i).til = n) := by
    constructor
    · rintro ⟨e1, e2⟩
      have e3 : (s.grp i).place = 1 := by omega
      have := R.wk i hi' e3
      exact ⟨e3, by omega⟩
    · rintro ⟨e1, e2⟩
      have := R.wk i hi' e1
      exact ⟨by omega, by omega⟩
  simp only [i0, i1]
  by_cases A0 : (s.grp i).place = 0 ∧ (s.grp i).til = n
  · simp only [if_pos A0]
    exact h.on hB hi (.inl A0.1) (A0.2.trans h.now.symm)
  · simp only [if_neg A0]
    by_cases A1 : (s.grp i).place = 1 ∧ (s.grp i).til = n
    · simp only [if_pos A1]
      exact h.stand hB hi A1.1 (A1.2.trans h.now.symm)
    · simp only [if_neg A1]
      exact h
theorem RelB.tabs (h : RelB E P s x) (t : Nat → Nat → Int) (ht : ∀ k r, 2 ≤ k → t k r = x.tab k r) : RelB E P s { x with tab := t } :=
  ⟨h.now, h.walk, h.nG, h.nR, h.g, h.b, h.pl, h.wa, h.tk, h.out, h.wk, h.st, h.rid, h.q, fun r hr => (ht 2 r (by omega)).trans (h.ta r hr), fun r hr => (ht 3 r (by omega)).trans (h.li r hr), fun i hi => (ht 4 i (by omega)).trans (h.ho i hi), h.vis, h.n0, h.si, h.wb⟩
theorem Mid.mono {Q : Nat → Int → Prop} (h : Mid E P a n T0 T1 s x) (hB : BigS a) (hPQ : ∀ r t, r < E.f.rides.length → P r t → Q r t) : Mid E Q a n T0 T1 s x := by
  have R := h.rel
  refine ⟨⟨R.now, R.walk, R.nG, R.nR, R.g, R.b, R.pl, R.wa, R.tk, R.out, R.wk, R.st, fun i hi hp => ?_, R.q, R.ta, R.li, R.ho, R.vis, R.n0, R.si, R.wb⟩, h.both, h.now, h.tab⟩
  have hat := h.both.1.at_ i hi (by simp) (.inr (.inr hp))
  exact hPQ _ _ (by rw [← R.nR]; exact goal_lt hB.wish h.both.1.fix hi hat.1 hat.2) (R.rid i hi hp)
/-- A ride ends now. -/
def hitR (E : RfE) (n : Int) (T0 : Nat → Int) (r : Nat) : Prop := 0 ≤ T0 r ∧ n - T0 r = (E.bt r).cycle
instance (E : RfE) (n : Int) (T0 : Nat → Int) (r : Nat) : Decidable (hitR E n T0 r) := inferInstanceAs (Decidable (_ ∧ _))
def T0e (E : RfE) (n : Int) (T0 : Nat → Int) (j r : Nat) : Int := if r < j ∧ hitR E n T0 r then -1 else T0 r
def T1e (E : RfE) (n : Int) (T0 T1 : Nat → Int) (j r : Nat) : Int := if r < j ∧ hitR E n T0 r then n else T1 r
theorem T0e_succ (E : RfE) (n : Int) (T0 : Nat → Int) (j r : Nat) : T0e E n T0 (j + 1) r = if r = j ∧ hitR E n T0 j then -1 else T0e E n T0 j r := by
  unfold T0e
  by_cases e : r = j
  · subst e
    by_cases hh : hitR E n T0 r
    · rw [if_pos ⟨by omega, hh⟩, if_pos ⟨rfl, hh⟩]
    · rw [if_neg (fun e => hh e.2), if_neg (fun e => hh e.2), if_neg (fun e => hh e.2)]
  · rw [if_neg (c := r = j ∧ _) (fun h => e h.1)]
    have : (r < j + 1 ∧ hitR E n T0 r) ↔ (r < j ∧ hitR E n T0 r) := ⟨fun h => ⟨by have := h.1; omega, h.2⟩, fun h => ⟨by have := h.1; omega, h.2⟩⟩
    simp only [this]
theorem T1e_succ (E : RfE) (n : Int) (T0 T1 : Nat → Int) (j r : Nat) : T1e E n T0 T1 (j + 1) r = if r = j ∧ hitR E n T0 j then n else T1e E n T0 T1 j r := by
  unfold T1e
  by_cases e : r = j
  · subst e
    by_cases hh : hitR E n T0 r
    · rw [if_pos ⟨by omega, hh⟩, if_pos ⟨rfl, hh⟩]
    · rw [if_neg (fun e => hh e.2), if_neg (fun e => hh e.2), if_neg (fun e => hh e.2)]
  · rw [if_neg (c := r = j ∧ _) (fun h => e h.1)]
    have : (r < j + 1 ∧ hitR E n T0 r) ↔ (r < j ∧ hitR E n T0 r) := ⟨fun h => ⟨by have := h.1; omega, h.2⟩, fun h => ⟨by have := h.1; omega, h.2⟩⟩
    simp only [this]
theorem tabB_e (hT : TabB E n T0 T1) (h0 : 0 ≤ n) (j : Nat) : TabB E n (T0e E n T0 j) (T1e E n T0 T1 j) := by
  have hn := hT.n
  refine ⟨hn, fun r hr => ?_, fun r hr => ?_⟩
  · unfold T0e
    have := hT.b0 r hr
    split <;> omega
  · unfold T1e
    have := hT.b1 r hr
    split <;> omega
theorem rends_ok (hB : BigS a) (hT : TabB E n T0 T1) : ∀ (m j : Nat) (x : RawR), Mid E P a n (T0e E n T0 j) (T1e E n T0 T1 j) s x → j + m = E.f.rides.length → Mid E P a n (T0e E n T0 (j + m)) (T1e E n T0 T1 (j + m)) s ((List.range' j m).foldl (endS E) x) ∧ LoopGo E (endS E) noPre (List.range' j m) x := by
  intro m
  induction m with
  | zero => intro j x h _; exact ⟨h, trivial⟩
  | succ m ih =>
    intro j x h hjm
    have hj : j < E.f.rides.length := by omega
    have h0 : 0 ≤ n := by have := h.rel.n0; have := h.now; omega
    have ht0 : x.tab 0 j = T0 j := (h.tab j hj).1.trans (if_neg (fun e => by omega))
    have hxn : x.now = n := h.rel.now.trans h.now
    have hc : (x.tab 0 j < 0 ∨ x.now - x.tab 0 j ≠ (E.bt j).cycle) ↔ ¬ hitR E n T0 j := by
      rw [ht0, hxn]
      unfold hitR
      omega
    have key : Mid E P a n (T0e E n T0 (j + 1)) (T1e E n T0 T1 (j + 1)) s (endS E x j) := by
      unfold endS
      by_cases hh : hitR E n T0 j
      · rw [if_neg (fun e => hc.1 e hh)]
        refine ⟨h.rel.tabs _ (fun k r hk => ?_), h.both, h.now, fun r hr => ?_⟩
        · show upd2 (upd2 x.tab 0 j (-1)) 1 j x.now k r = _
          rw [upd_ne (by omega), upd_ne (by omega)]
        · rw [T0e_succ, T1e_succ]
          by_cases e : r = j
          · subst e
            rw [if_pos ⟨rfl, hh⟩, if_pos ⟨rfl, hh⟩]
            constructor
            · show upd2 (upd2 x.tab 0 r (-1)) 1 r x.now 0 r = _
              rw [upd_ne (by omega), upd2_at]
            · show upd2 (upd2 x.tab 0 r (-1)) 1 r x.now 1 r = _
              rw [upd2_at, hxn]
          · rw [if_neg (fun h => e h.1), if_neg (fun h => e h.1)]
            constructor
            · show upd2 (upd2 x.tab 0 j (-1)) 1 j x.now 0 r = _
              rw [upd_nj e, upd_nj e]
              exact (h.tab r hr).1
            · show upd2 (upd2 x.tab 0 j (-1)) 1 j x.now 1 r = _
              rw [upd_nj e, upd_nj e]
              exact (h.tab r hr).2
      · rw [if_pos (hc.2 hh)]
        refine ⟨h.rel, h.both, h.now, fun r hr => ?_⟩
        rw [T0e_succ, T1e_succ, if_neg (fun h => hh h.2), if_neg (fun h => hh h.2)]
        exact h.tab r hr
    obtain ⟨k1, k2⟩ := ih (j + 1) _ key (by omega)
    rw [show j + (m + 1) = j + 1 + m from by omega]
    exact ⟨k1, h.fine hB (tabB_e hT h0 j), trivial, k2⟩
theorem guests_sum (R : RelB E P s x) (q : List Nat) (hq : ∀ i, i ∈ q → i < s.groups.length) : guestsS s q = (q.map E.sz).sum := by
  have key : ∀ (q : List Nat) (m : Int), (∀ i, i ∈ q → i < s.groups.length) → q.foldl (fun n i => n + (s.grp i).g.size) m = m + (q.map E.sz).sum := by
    intro q
    induction q with
    | nil => intro m _; simp
    | cons i q ih =>
      intro m h
      have e : (s.grp i).g.size = E.sz i := by unfold RfE.sz; rw [R.g i (h i List.mem_cons_self)]
      rw [List.foldl_cons, ih _ (fun j hj => h j (List.mem_cons_of_mem _ hj)), List.map_cons, List.sum_cons, e]
      omega
  unfold guestsS
  rw [key q 0 hq]
  omega
theorem lin_ok (hB : BigS a) (hT : TabB E n T0 T1) : ∀ (m j : Nat) (x : RawR), Mid E P a n T0 T1 (measK s j) x → j + m = E.f.rides.length → Mid E P a n T0 T1 (measK s (j + m)) ((List.range' j m).foldl (linR E) x) ∧ LoopGo E (linR E) noPre (List.range' j m) x := by
  intro m
  induction m with
  | zero => intro j x h _; exact ⟨h, trivial⟩
  | succ m ih =>
    intro j x h hjm
    have R := h.rel
    have hnr := R.nR
    rw [measK_len] at hnr
    have hj : j < s.rides.length := by omega
    have hj2 : j < (measK s j).rides.length := by rw [measK_len]; exact hj
    have hrd := measK_rd s j j hj (Nat.le_refl _)
    have F := fit_of hB h.both
    have hq : x.q j = (s.rd j).q := by rw [R.q j hj2, hrd]
    have hl : x.tab 3 j = (s.rd j).longest := by rw [R.li j hj2, hrd]
    have hs : guestsS s (s.rd j).q = ((s.rd j).q.map E.sz).sum := by
      have := guests_sum R (s.rd j).q (fun i hi => by rw [← hrd] at hi; exact (F.que j).2 i hi)
      exact this
    have key : Mid E P a n T0 T1 (measK s (j + 1)) (linR E x j) := by
      rw [measK_succ s j hj]
      refine ⟨R.turnR hj2 _ _ rfl rfl rfl rfl (fun _ _ => rfl) (R.q j hj2) (fun k r hk => ?_) ?_ ?_, both_modR h.both j _ (fun _ => rfl) (fun _ => rfl) (fun _ => rfl), h.now, fun r hr => ?_⟩
      · show upd2 x.tab 3 j _ k r = x.tab k r
        rw [upd2_ne _ _ _ _ (by rintro ⟨rfl, rfl⟩; rcases hk with h | h; omega; exact h rfl)]
      · show upd2 x.tab 3 j (max (x.tab 3 j) ((x.q j).map E.sz).sum) 2 j = _
        rw [upd_ne (by omega)]
        exact R.ta j hj2
      · show upd2 x.tab 3 j (max (x.tab 3 j) ((x.q j).map E.sz).sum) 3 j = _
        rw [upd2_at, hl, hq, hs]
      · have := h.tab r hr
        constructor
        · show upd2 x.tab 3 j (max (x.tab 3 j) ((x.q j).map E.sz).sum) 0 r = _
          rw [upd_ne (by omega)]
          exact this.1
        · show upd2 x.tab 3 j (max (x.tab 3 j) ((x.q j).map E.sz).sum) 1 r = _
          rw [upd_ne (by omega)]
          exact this.2
    obtain ⟨k1, k2⟩ := ih (j + 1) _ key (by omega)
    rw [show j + (m + 1) = j + 1 + m from by omega]
    exact ⟨k1, h.fine hB hT, trivial, k2⟩
end
end Go.Proofs.Ytijbhcdnbaaobaa
/- An evening of layer 7, plainly: the rides that begin, in the specification's machine beside the program's. No memory. -/
namespace Go.Proofs.Ytijbhcdnbaaobaa

theorem rdy_fold (step : EvS → Nat → EvS) (h : ∀ s i k, ((step s i).rd k).ready = (s.rd k).ready) (k : Nat) : ∀ (l : List Nat) (s : EvS), ((l.foldl step s).rd k).ready = (s.rd k).ready := by
  intro l
  induction l with
  | nil => intro s; rfl
  | cons i l ih => intro s; exact (ih _).trans (h s i k)
theorem tab_fill (E : RfE) (r : Nat) {k a : Nat} (hk : k < 2) : ∀ (l : List Nat) (left : Int) (x : RawR), (fillLR E r l left x).1.tab k a = x.tab k a := by
  intro l
  induction l with
  | nil => intro left x; rfl
  | cons i l ih =>
    intro left x
    simp only [fillLR]
    split
    · exact (ih _ _).trans (tab_leave E x i false hk)
    · split
      · exact (ih _ _).trans (tab_leave E x i true hk)
      · split
        · rfl
        · exact ih _ _
section
variable {E : RfE} {P : Nat → Int → Prop} {a s : EvS} {x : RawR} {n : Int} {T0 T1 : Nat → Int}
theorem mem_rest {r i : Nat} {l : List Nat} {s : EvS} (hnd : i ∉ l) (hl : ∀ j ∈ i :: l, j < s.groups.length ∧ (s.grp j).place = 2 ∧ (s.grp j).goal = r) (t : EvS) (hlen : t.groups.length = s.groups.length) (ho : ∀ j, j ≠ i → t.grp j = s.grp j) : ∀ j ∈ l, j < t.groups.length ∧ (t.grp j).place = 2 ∧ (t.grp j).goal = r := fun j hj => by
  have hji : j ≠ i := fun e => hnd (e ▸ hj)
  rw [hlen, ho j hji]
  exact hl j (List.mem_cons_of_mem _ hj)
theorem fill_le {a : EvS} (hB : BigS a) (r : Nat) : ∀ (l : List Nat) (left : Int) (s : EvS), BothS a s → l.Nodup → (∀ j ∈ l, j < s.groups.length ∧ (s.grp j).place = 2 ∧ (s.grp j).goal = r) → (fillS r l left s).2 ≤ left := by
  have hv := hB.wish
  intro l
  induction l with
  | nil => intro left s _ _ _; exact Int.le_refl _
  | cons i l ih =>
    intro left s hb hnd hl
    obtain ⟨hi, hp, hg⟩ := hl i List.mem_cons_self
    rw [List.nodup_cons] at hnd
    have hz := ((fit_of hB hb).gp i hi).2.1
    simp only [fillS]
    split
    · have hw := wf_giveUp hb.1 hv hi hp
      exact ih left _ ⟨hw, all_giveUp hb.1 hb.2 hi hp⟩ hnd.2 (mem_rest hnd.1 hl _ (by rw [(fix_len hw.fix).1, (fix_len hb.1.fix).1]) fun j hj => giveUp_other s hi hj)
    · rename_i hc
      split
      · have hw := wf_getOn hb.1 hv hi hp (by rw [hg]; omega)
        have := ih (left - (s.grp i).g.size) _ ⟨hw, all_getOn hb.1 hb.2 hi hp⟩ hnd.2 (mem_rest hnd.1 hl _ (by rw [(fix_len hw.fix).1, (fix_len hb.1.fix).1]) fun j hj => getOn_other s hi hj)
        omega
      · split
        · exact Int.le_refl _
        · exact ih left s hb hnd.2 (mem_rest hnd.1 hl s rfl fun _ _ => rfl)
/-- Nobody gets on: then who rides is who rode; and never more seats are left than there were. -/
theorem RelB.fill_none {a : EvS} (hB : BigS a) (r : Nat) : ∀ (l : List Nat) (left : Int) (s : EvS) (x : RawR), RelB E P s x → BothS a s → r < s.rides.length → l.Nodup → (∀ j ∈ l, j < s.groups.length ∧ (s.grp j).place = 2 ∧ (s.grp j).goal = r) →
    ((fillS r l left s).2 = left → RelB E P (fillS r l left s).1 (fillLR E r l left x).1) := by
  have hv := hB.wish
  intro l
  induction l with
  | nil => intro left s x h _ _ _ _ _; exact h
  | cons i l ih =>
    intro left s x h hb hr hnd hl
    obtain ⟨hi, hp, hg⟩ := hl i List.mem_cons_self
    rw [List.nodup_cons] at hnd
    have F := fit_of hB hb
    have hat := hb.1.at_ i hi (by simp) (.inr (.inl hp))
    have hz := (F.gp i hi).2.1
    have c1 : (s.grp i).g.size = E.sz i := by unfold RfE.sz; rw [h.g i hi]
    have c2 : (s.rd r).b = E.bt r := h.b r hr
    have c3 : costS s i r = E.sz i * (E.bt r).price := by unfold costS; rw [c2, c1, Int.mul_comm]
    have hgr : (s.grp i).goal < s.rides.length := by rw [hg]; exact hr
    rw [c1] at hz
    have hwg := wf_giveUp hb.1 hv hi hp
    have kg := h.giveUp hi hp hgr (by omega) (fun hlt => next_lt F.wish hi (by omega) hlt)
    simp only [fillS, fillLR, gt_iff_lt, c1, c2, c3, h.tk i hi]
    by_cases C : (E.bt r).seats < E.sz i ∨ (s.grp i).tok < E.sz i * (E.bt r).price
    · simp only [if_pos C]
      exact ih left _ _ kg ⟨hwg, all_giveUp hb.1 hb.2 hi hp⟩ (by rw [(fix_len hwg.fix).2, ← (fix_len hb.1.fix).2]; exact hr) hnd.2 (mem_rest hnd.1 hl _ (by rw [(fix_len hwg.fix).1, (fix_len hb.1.fix).1]) fun j hj => giveUp_other s hi hj)
    · simp only [if_neg C]
      by_cases D : E.sz i ≤ left
      · simp only [if_pos D]
        intro he
        have hwo := wf_getOn hb.1 hv hi hp (by rw [hg, c3]; omega)
        have := fill_le hB r l (left - E.sz i) _ ⟨hwo, all_getOn hb.1 hb.2 hi hp⟩ hnd.2 (mem_rest hnd.1 hl _ (by rw [(fix_len hwo.fix).1, (fix_len hb.1.fix).1]) fun j hj => getOn_other s hi hj)
        omega
      · simp only [if_neg D]
        by_cases G : (E.bt r).fill = false
        · simp only [if_pos G]
          intro _
          exact h
        · simp only [if_neg G]
          exact ih left s x h hb hr hnd.2 (mem_rest hnd.1 hl s rfl fun _ _ => rfl)
/-- When each ride is ready again, of when it began and ended (behind the loop in which rides end). -/
def RdyR (E : RfE) (n : Int) (T0 T1 : Nat → Int) (s : EvS) : Prop := ∀ r, r < E.f.rides.length → (T0 r < 0 → T1 r < 0 ∧ (s.rd r).ready ≤ 0 ∨ 0 ≤ T1 r ∧ (s.rd r).ready = T1 r + (E.bt r).pause) ∧ (0 ≤ T0 r → n < T0 r + (E.bt r).cycle ∧ (s.rd r).ready = T0 r + (E.bt r).cycle + (E.bt r).pause)
def PC (E : RfE) (T0 : Nat → Int) (r : Nat) (t : Int) : Prop := 0 ≤ T0 r ∧ t = T0 r + (E.bt r).cycle
def setF (T : Nat → Int) (j : Nat) (v : Int) (r : Nat) : Int := if r = j then v else T r
theorem Mid.beg (h : Mid E (PC E T0) a n T0 T1 s x) (hB : BigS a) (S : StatE E) (hR : RdyR E n T0 T1 s) {r : Nat} (hr : r < E.f.rides.length) :
    begPre E x r ∧ ∃ T, Mid E (PC E T) a n T T1 (rbegS s r) (begR E x r) ∧ RdyR E n T T1 (rbegS s r) ∧ (∀ k, T k = T0 k ∨ T k = n) := by
  have R := h.rel
  have hr' : r < s.rides.length := by rw [R.nR]; exact hr
  have hn0 : 0 ≤ n := by have := R.n0; have := h.now; omega
  obtain ⟨r1, r2⟩ := hR r hr
  obtain ⟨-, -, hcy, hpa⟩ := S.rd r hr
  have hcy : 1 ≤ (E.bt r).cycle ∧ (E.bt r).cycle ≤ 100 := hcy
  have hpa : 0 ≤ (E.bt r).pause ∧ (E.bt r).pause ≤ 100 := hpa
  have hxn : x.now = n := R.now.trans h.now
  have hq : begQ E x r ↔ ¬ (s.rd r).ready ≤ s.now := by
    unfold begQ
    rw [(h.tab r hr).1, (h.tab r hr).2, hxn, h.now]
    rcases Int.lt_or_le (T0 r) 0 with h0 | h0
    · rcases r1 h0 with h1 | h1 <;> omega
    · have := r2 h0
      omega
  have hqr := R.q r hr'
  have c2 : (s.rd r).b = E.bt r := R.b r hr'
  by_cases hb : begQ E x r
  · refine ⟨fun hnb => absurd hb hnb, T0, ?_, ?_, fun k => .inl rfl⟩
    · unfold begR rbegS
      rw [if_pos hb, if_neg (hq.1 hb)]
      exact h
    · unfold rbegS
      rw [if_neg (hq.1 hb)]
      exact hR
  · have hrdy : (s.rd r).ready ≤ s.now := Decidable.of_not_not (fun e => hb (hq.2 e))
    have hT0 : T0 r < 0 := by
      rcases Int.lt_or_le (T0 r) 0 with h0 | h0
      · exact h0
      · have := r2 h0; have := h.now; omega
    have hmem : ∀ j ∈ (s.rd r).q, j < s.groups.length ∧ (s.grp j).place = 2 ∧ (s.grp j).goal = r := fun j hj => by
      obtain ⟨h1, _, h3, h4⟩ := h.both.1.que r j hj
      exact ⟨h1, h3, h4⟩
    have hsame : ∀ k, k ≠ r → setF T0 r n k = T0 k := fun k hk => if_neg hk
    have hat : setF T0 r n r = n := if_pos rfl
    have h2 : Mid E (PC E (setF T0 r n)) a n T0 T1 s x := h.mono hB fun k t _ hp => by
      by_cases e : k = r
      · subst e; have := hp.1; omega
      · unfold PC; rw [hsame k e]; exact hp
    obtain ⟨f1, f2, f3⟩ := h2.rel.fill hB r n ⟨by rw [hat]; exact hn0, by rw [hat]⟩ (s.rd r).q (E.bt r).seats s x h.both h.now hr' (h.both.1.nod r) hmem
    have f4 := R.fill_none hB r (s.rd r).q (E.bt r).seats s x h.both hr' (h.both.1.nod r) hmem
    have fb := both_fill hB.wish r (s.rd r).q (E.bt r).seats s h.both (h.both.1.nod r) hmem
    have fn := now_fill r (s.rd r).q (E.bt r).seats s
    have fr := fun k => rdy_fill r k (s.rd r).q (E.bt r).seats s
    have ft := fun k a (hk : k < 2) => tab_fill E r (a := a) hk (s.rd r).q (E.bt r).seats x
    refine ⟨fun _ => by rw [hqr]; exact f3, ?_⟩
    have e1 : begR E x r = if (fillLR E r (s.rd r).q (E.bt r).seats x).2 < (E.bt r).seats then (fillLR E r (s.rd r).q (E.bt r).seats x).1.setT 0 r (fillLR E r (s.rd r).q (E.bt r).seats x).1.now else (fillLR E r (s.rd r).q (E.bt r).seats x).1 := by
      unfold begR
      rw [if_neg hb, hqr]
    have e2 : rbegS s r = if (fillS r (s.rd r).q (E.bt r).seats s).2 < (E.bt r).seats then (fillS r (s.rd r).q (E.bt r).seats s).1.modR r fun z => { z with ready := s.now + z.b.cycle + z.b.pause } else (fillS r (s.rd r).q (E.bt r).seats s).1 := by
      unfold rbegS
      rw [if_pos hrdy, c2]
    have hle := fill_le hB r (s.rd r).q (E.bt r).seats s h.both (h.both.1.nod r) hmem
    rw [e1, e2, f2]
    generalize fillS r (s.rd r).q (E.bt r).seats s = p at *
    generalize fillLR E r (s.rd r).q (E.bt r).seats x = y at *
    have hlp : r < p.1.rides.length := by rw [(fix_len fb.1.fix).2, ← (fix_len h.both.1.fix).2]; exact hr'
    have hyn : y.1.now = n := f1.now.trans (fn.trans h.now)
    by_cases C : p.2 < (E.bt r).seats
    · rw [if_pos C, if_pos C]
      have hbp : (p.1.rd r).b = E.bt r := f1.b r hlp
      refine ⟨setF T0 r n, ⟨f1.turnR hlp _ _ rfl rfl rfl rfl (fun _ _ => rfl) (f1.q r hlp) (fun k b hk => ?_) ?_ ?_, both_modR fb r _ (fun _ => rfl) (fun _ => rfl) (fun _ => rfl), fn.trans h.now, fun k hk => ?_⟩, fun k hk => ?_, fun k => ?_⟩
      · show upd2 y.1.tab 0 r y.1.now k b = y.1.tab k b
        rw [upd2_ne _ _ _ _ (by rintro ⟨rfl, rfl⟩; rcases hk with h | h; omega; exact h rfl)]
      · show upd2 y.1.tab 0 r y.1.now 2 r = _
        rw [upd_ne (by omega)]
        exact f1.ta r hlp
      · show upd2 y.1.tab 0 r y.1.now 3 r = _
        rw [upd_ne (by omega)]
        exact f1.li r hlp
      · constructor
        · show upd2 y.1.tab 0 r y.1.now 0 k = _
          by_cases e : k = r
          · subst e; rw [upd2_at, hat, hyn]
          · rw [upd_nj e, hsame k e, ft 0 k (by omega)]; exact (h.tab k hk).1
        · show upd2 y.1.tab 0 r y.1.now 1 k = _
          rw [upd_ne (by omega), ft 1 k (by omega)]; exact (h.tab k hk).2
      · by_cases e : k = r
        · subst e
          rw [hat, rd_modR p.1 k k _ hlp, if_pos rfl]
          dsimp only
          rw [hbp, h.now]
          exact ⟨fun h => by omega, fun _ => ⟨by omega, rfl⟩⟩
        · rw [hsame k e, rd_modR p.1 r k _ hlp, if_neg e, fr k]
          exact hR k hk
      · by_cases e : k = r
        · subst e; exact .inr hat
        · exact .inl (hsame k e)
    · rw [if_neg C, if_neg C]
      refine ⟨T0, ⟨f4 (by omega), fb, fn.trans h.now, fun k hk => ?_⟩, fun k hk => ?_, fun k => .inl rfl⟩
      · rw [ft 0 k (by omega), ft 1 k (by omega)]; exact h.tab k hk
      · rw [fr k]; exact hR k hk
theorem begs_ok (hB : BigS a) (S : StatE E) (h0 : 0 ≤ n) : ∀ (l : List Nat) (s : EvS) (x : RawR) (T0 : Nat → Int), Mid E (PC E T0) a n T0 T1 s x → RdyR E n T0 T1 s → TabB E n T0 T1 → (∀ r, r ∈ l → r < E.f.rides.length) →
    (∃ T, Mid E (PC E T) a n T T1 (l.foldl rbegS s) (l.foldl (begR E) x) ∧ RdyR E n T T1 (l.foldl rbegS s) ∧ TabB E n T T1) ∧ LoopGo E (begR E) (begPre E) l x := by
  intro l
  induction l with
  | nil => intro s x T0 h hR hT _; exact ⟨⟨T0, h, hR, hT⟩, trivial⟩
  | cons r l ih =>
    intro s x T0 h hR hT hl
    obtain ⟨k1, T, k2, k3, k4⟩ := h.beg hB S hR (hl r List.mem_cons_self)
    have hT' : TabB E n T T1 := ⟨hT.n, fun k hk => by
      have := hT.b0 k hk
      have := hT.n
      rcases k4 k with e | e <;> rw [e] <;> omega, hT.b1⟩
    obtain ⟨m1, m2⟩ := ih _ _ T k2 k3 hT' (fun j hj => hl j (List.mem_cons_of_mem _ hj))
    exact ⟨m1, h.fine hB hT, k1, m2⟩
/-- Whoever stands waits at least until m. -/
def SdS (m : Int) (s : EvS) : Prop := ∀ i, i < s.groups.length → (s.grp i).place = 2 → m ≤ (s.grp i).til
theorem goOn_sd (s : EvS) {i : Nat} (hi : i < s.groups.length) (hp : 0 ≤ (s.grp i).g.patience) : ((goOnS s i).grp i).place = 2 → s.now + 1 ≤ ((goOnS s i).grp i).til := by
  have hl : i < (s.modG i fun g => { g with want := g.want + 1 }).groups.length := by simp [EvS.modG]; exact hi
  have hs1 : (s.modG i fun g => { g with want := g.want + 1 }).grp i = { s.grp i with want := (s.grp i).want + 1 } := by rw [grp_modG s i i _ hi, if_pos rfl]
  unfold goOnS
  dsimp only
  split
  · rw [grp_modG _ i i _ hl, if_pos rfl]
    intro h; cases h
  · split
    · rw [stand_grp _ hl, hs1]
      intro _
      show s.now + 1 ≤ s.now + (s.grp i).g.patience + 1
      omega
    · rw [grp_modG _ i i _ hl, if_pos rfl]
      intro h; cases h
def step2 (s : EvS) (i : Nat) : EvS := if (s.grp i).place = 2 ∧ (s.grp i).til = s.now then giveUpS s i else s
theorem Mid.pat (h : Mid E P a n T0 T1 s x) (hB : BigS a) {i : Nat} (hi : i < E.l.length) (hsd : SdS n s) :
    Mid E P a n T0 T1 (step2 s i) (patR E x i) ∧ (step2 s i).groups.length = s.groups.length ∧ (∀ j, j ≠ i → (step2 s i).grp j = s.grp j) ∧ (((step2 s i).grp i).place = 2 → n + 1 ≤ ((step2 s i).grp i).til) := by
  have R := h.rel
  have hi' : i < s.groups.length := by rw [R.nG]; exact hi
  have hpat := ((fit_of hB h.both).gp i hi').1.1
  have i2 : (x.gu i 0 = 2 ∧ (E.l.getD i default).patience < x.now - x.gu i 2) ↔ ((s.grp i).place = 2 ∧ (s.grp i).til = s.now) := by
    rw [R.pl i hi', R.now, ← R.g i hi', h.now]
    constructor
    · rintro ⟨e1, e2⟩
      have e3 : (s.grp i).place = 2 := by omega
      have h1 := (R.st i hi' e3).2
      have h2 := hsd i hi' e3
      exact ⟨e3, by omega⟩
    · rintro ⟨e1, e2⟩
      have h1 := (R.st i hi' e1).2
      exact ⟨by omega, by omega⟩
  unfold step2 patR
  simp only [i2]
  by_cases C : (s.grp i).place = 2 ∧ (s.grp i).til = s.now
  · simp only [if_pos C]
    have hw := wf_giveUp h.both.1 hB.wish hi' C.1
    refine ⟨h.giveUp hB hi C.1, by rw [(fix_len hw.fix).1, (fix_len h.both.1.fix).1], fun j hj => giveUp_other s hi' hj, fun hp => ?_⟩
    have := goOn_sd (leaveS s i false) (i := i) hi' hpat hp
    have e : (leaveS s i false).now = n := h.now
    rw [e] at this
    exact this
  · simp only [if_neg C]
    refine ⟨h, trivial, fun _ _ => trivial, fun hp => ?_⟩
    have h1 := hsd i hi' hp
    have h2 : (s.grp i).til ≠ n := fun e => C ⟨hp, e.trans h.now.symm⟩
    omega
theorem pat_ok (hB : BigS a) (hT : TabB E n T0 T1) : ∀ (m j : Nat) (s : EvS) (x : RawR), Mid E P a n T0 T1 s x → SdS n s → (∀ i, i < j → i < s.groups.length → (s.grp i).place = 2 → n + 1 ≤ (s.grp i).til) → j + m = E.l.length →
    Mid E P a n T0 T1 ((List.range' j m).foldl step2 s) ((List.range' j m).foldl (patR E) x) ∧ SdS (n + 1) ((List.range' j m).foldl step2 s) ∧ LoopGo E (patR E) noPre (List.range' j m) x := by
  intro m
  induction m with
  | zero => intro j s x h _ hd hjm; exact ⟨h, fun i hi hp => hd i (by have e := h.rel.nG; have h9 : i < s.groups.length := hi; omega) hi hp, trivial⟩
  | succ m ih =>
    intro j s x h hsd hd hjm
    obtain ⟨k1, k2, k3, k4⟩ := h.pat hB (i := j) (by omega) hsd
    obtain ⟨m1, m2, m3⟩ := ih (j + 1) (step2 s j) (patR E x j) k1 (fun i hi hp => by
      by_cases e : i = j
      · subst e
        have := k4 hp
        omega
      · rw [k3 i e] at hp ⊢
        exact hsd i (by rw [← k2]; exact hi) hp) (fun i hij hi hp => by
      by_cases e : i = j
      · subst e
        exact k4 hp
      · rw [k3 i e] at hp ⊢
        exact hd i (by omega) (by rw [← k2]; exact hi) hp) (by omega)
    exact ⟨m1, m2, h.fine hB hT, trivial, m3⟩
end
end Go.Proofs.Ytijbhcdnbaaobaa
/- An evening of layer 7, plainly: those who go on from outside and those who arrive at a queue, in one loop or in two. No memory. -/
namespace Go.Proofs.Ytijbhcdnbaaobaa

def step0 (s : EvS) (i : Nat) : EvS := if (s.grp i).place = 0 ∧ (s.grp i).til = s.now then goOnS s i else s
def step1 (s : EvS) (i : Nat) : EvS := if (s.grp i).place = 1 ∧ (s.grp i).til = s.now then standS s i else s
/-- What goOn makes of the group, where ways take time. -/
def goF (s : EvS) (i : Nat) (g : GpS) : GpS := if (s.grp i).want + 1 = ((s.grp i).g.wants.length : Int) then { g with want := g.want + 1, place := 4, home := s.now } else { g with want := g.want + 1, place := 1, til := s.now + s.walk }
theorem goOn_eq (s : EvS) {i : Nat} (hi : i < s.groups.length) (hw : s.walk ≠ 0) : goOnS s i = s.modG i (goF s i) := by
  have hs1 : (s.modG i fun g => { g with want := g.want + 1 }).grp i = { s.grp i with want := (s.grp i).want + 1 } := by rw [grp_modG s i i _ hi, if_pos rfl]
  unfold goOnS
  simp only [hs1]
  by_cases he : (s.grp i).want + 1 = ((s.grp i).g.wants.length : Int)
  · rw [if_pos he, modG_two]
    congr 1
    funext g
    unfold goF
    rw [if_pos he]
  · rw [if_neg he, if_neg hw, modG_two]
    congr 1
    funext g
    unfold goF
    rw [if_neg he]
theorem modG_swap (s : EvS) {i j : Nat} (h : i ≠ j) (f g : GpS → GpS) : (s.modG i f).modG j g = (s.modG j g).modG i f := by
  unfold EvS.modG
  dsimp only
  rw [List.modify_modify_ne _ _ _ h]
theorem go_stand (s : EvS) {i j : Nat} (hi : i < s.groups.length) (hj : j < s.groups.length) (hne : j ≠ i) (hw : s.walk ≠ 0) : goOnS (standS s i) j = standS (goOnS s j) i := by
  have hl : j < (standS s i).groups.length := by simp [standS, EvS.modG, EvS.modR]; exact hj
  have hg : (standS s i).grp j = s.grp j := by
    unfold standS
    rw [grp_modG _ i j _ (show i < (s.modR _ _).groups.length from hi), if_neg hne]
    rfl
  have hF : goF (standS s i) j = goF s j := by
    funext g
    unfold goF
    rw [hg]
    rfl
  have hgi : (s.modG j (goF s j)).grp i = s.grp i := by rw [grp_modG s j i _ hj, if_neg (Ne.symm hne)]
  rw [goOn_eq _ hl hw, hF, goOn_eq s hj hw]
  unfold standS
  rw [hgi]
  exact modG_swap (s.modR (s.grp i).goal fun x => { x with q := x.q ++ [i] }) (Ne.symm hne) _ _
theorem step0_len (s : EvS) (i : Nat) (hi : i < s.groups.length) (hw : s.walk ≠ 0) : (step0 s i).groups.length = s.groups.length ∧ (step0 s i).walk = s.walk ∧ (step0 s i).now = s.now ∧ ∀ j, j ≠ i → (step0 s i).grp j = s.grp j := by
  unfold step0
  split
  · rw [goOn_eq s hi hw]
    exact ⟨by simp [EvS.modG], rfl, rfl, fun j hj => by rw [grp_modG s i j _ hi, if_neg hj]⟩
  · exact ⟨rfl, rfl, rfl, fun _ _ => rfl⟩
theorem fold0_len : ∀ (l : List Nat) (s : EvS), (∀ i, i ∈ l → i < s.groups.length) → s.walk ≠ 0 → (l.foldl step0 s).groups.length = s.groups.length ∧ (l.foldl step0 s).walk = s.walk ∧ (l.foldl step0 s).now = s.now ∧ ∀ j, j ∉ l → (l.foldl step0 s).grp j = s.grp j := by
  intro l
  induction l with
  | nil => intro s _ _; exact ⟨rfl, rfl, rfl, fun _ _ => rfl⟩
  | cons i l ih =>
    intro s hl hw
    obtain ⟨a1, a2, a3, a4⟩ := step0_len s i (hl i List.mem_cons_self) hw
    obtain ⟨b1, b2, b3, b4⟩ := ih (step0 s i) (fun j hj => by rw [a1]; exact hl j (List.mem_cons_of_mem _ hj)) (by rw [a2]; exact hw)
    refine ⟨b1.trans a1, b2.trans a2, b3.trans a3, fun j hj => ?_⟩
    rw [List.mem_cons, not_or] at hj
    exact (b4 j hj.2).trans (a4 j hj.1)
theorem step0_stand (s : EvS) {i j : Nat} (hi : i < s.groups.length) (hj : j < s.groups.length) (hne : j ≠ i) (hw : s.walk ≠ 0) : step0 (standS s i) j = standS (step0 s j) i := by
  have hg : (standS s i).grp j = s.grp j := by
    unfold standS
    rw [grp_modG _ i j _ (show i < (s.modR _ _).groups.length from hi), if_neg hne]
    rfl
  have hn : (standS s i).now = s.now := rfl
  unfold step0
  rw [hg, hn]
  split
  · exact go_stand s hi hj hne hw
  · rfl
theorem fold0_stand {i : Nat} : ∀ (l : List Nat) (s : EvS), i < s.groups.length → i ∉ l → (∀ j, j ∈ l → j < s.groups.length) → s.walk ≠ 0 → l.foldl step0 (standS s i) = standS (l.foldl step0 s) i := by
  intro l
  induction l with
  | nil => intro s _ _ _ _; rfl
  | cons j l ih =>
    intro s hi hn hl hw
    rw [List.mem_cons, not_or] at hn
    have hj := hl j List.mem_cons_self
    obtain ⟨a1, a2, -, -⟩ := step0_len s j hj hw
    rw [List.foldl_cons, List.foldl_cons, step0_stand s hi hj (Ne.symm hn.1) hw]
    exact ih (step0 s j) (by rw [a1]; exact hi) hn.2 (fun k hk => by rw [a1]; exact hl k (List.mem_cons_of_mem _ hk)) (by rw [a2]; exact hw)
/-- One loop is two loops, where ways take time. -/
theorem mix_two : ∀ (l : List Nat) (s : EvS), l.Nodup → (∀ j, j ∈ l → j < s.groups.length) → 0 < s.walk → l.foldl stepM s = l.foldl step1 (l.foldl step0 s) := by
  intro l
  induction l with
  | nil => intro s _ _ _; rfl
  | cons i l ih =>
    intro s hnd hl hw
    rw [List.nodup_cons] at hnd
    have hi := hl i List.mem_cons_self
    have hw' : s.walk ≠ 0 := by omega
    have hrest : ∀ t : EvS, t.groups.length = s.groups.length → ∀ j, j ∈ l → j < t.groups.length := fun t ht j hj => by rw [ht]; exact hl j (List.mem_cons_of_mem _ hj)
    rw [List.foldl_cons, List.foldl_cons, List.foldl_cons]
    by_cases A0 : (s.grp i).place = 0 ∧ (s.grp i).til = s.now
    · have e1 : stepM s i = goOnS s i := if_pos A0
      have e0 : step0 s i = goOnS s i := if_pos A0
      obtain ⟨a1, a2, a3, -⟩ := step0_len s i hi hw'
      rw [e0] at a1 a2 a3
      obtain ⟨-, -, b3, b4⟩ := fold0_len l (goOnS s i) (hrest _ a1) (by rw [a2]; exact hw')
      rw [e1, e0, ih _ hnd.2 (hrest _ a1) (by rw [a2]; exact hw)]
      have : step1 (l.foldl step0 (goOnS s i)) i = l.foldl step0 (goOnS s i) := by
        unfold step1
        rw [if_neg]
        rintro ⟨h1, h2⟩
        rw [b4 i hnd.1, goOn_eq s hi hw', grp_modG s i i _ hi, if_pos rfl] at h1
        rw [b4 i hnd.1, b3, a3, goOn_eq s hi hw', grp_modG s i i _ hi, if_pos rfl] at h2
        unfold goF at h1 h2
        split at h1
        · cases h1
        · rename_i hne
          rw [if_neg hne] at h2
          have h2 : s.now + s.walk = s.now := h2
          omega
      rw [this]
    · have e0 : step0 s i = s := if_neg A0
      obtain ⟨-, -, b3, b4⟩ := fold0_len l s (hrest s rfl) hw'
      rw [e0]
      by_cases A1 : (s.grp i).place = 1 ∧ (s.grp i).til = s.now
      · have e1 : stepM s i = standS s i := by unfold stepM; rw [if_neg A0, if_pos A1]
        have hlen : (standS s i).groups.length = s.groups.length := by simp [standS, EvS.modG, EvS.modR]
        rw [e1, ih _ hnd.2 (hrest _ hlen) hw, fold0_stand l s hi hnd.1 (hrest s rfl) hw']
        have : step1 (l.foldl step0 s) i = standS (l.foldl step0 s) i := by
          unfold step1
          rw [if_pos]
          rw [b4 i hnd.1, b3]
          exact A1
        rw [this]
      · have e1 : stepM s i = s := by unfold stepM; rw [if_neg A0, if_neg A1]
        rw [e1, ih _ hnd.2 (hrest s rfl) hw]
        have : step1 (l.foldl step0 s) i = l.foldl step0 s := by
          unfold step1
          rw [if_neg]
          rw [b4 i hnd.1, b3]
          exact A1
        rw [this]
end Go.Proofs.Ytijbhcdnbaaobaa
/- An evening of layer 7, plainly: a tick's second and third loop whole, with how long those wait who stand. No memory. -/
namespace Go.Proofs.Ytijbhcdnbaaobaa

theorem goOn_no3 (s : EvS) {i : Nat} (hi : i < s.groups.length) : ((goOnS s i).grp i).place ≠ 3 := by
  have hl : i < (s.modG i fun g => { g with want := g.want + 1 }).groups.length := by simp [EvS.modG]; exact hi
  unfold goOnS
  dsimp only
  split
  · rw [grp_modG _ i i _ hl, if_pos rfl]
    intro h; cases h
  · split
    · rw [stand_grp _ hl]
      intro h; cases h
    · rw [grp_modG _ i i _ hl, if_pos rfl]
      intro h; cases h
section
variable {E : RfE} {P : Nat → Int → Prop} {a s : EvS} {x : RawR} {n : Int} {T0 T1 : Nat → Int}
theorem sd_goOn (h : SdS n s) {i : Nat} (hi : i < s.groups.length) (hn : s.now = n) (hp : 0 ≤ (s.grp i).g.patience) (hl : (goOnS s i).groups.length = s.groups.length) : SdS n (goOnS s i) := fun j hj hpl => by
  by_cases e : j = i
  · subst e
    have := goOn_sd s hi hp hpl
    omega
  · rw [goOn_other s hi e] at hpl ⊢
    exact h j (by rw [← hl]; exact hj) hpl
theorem sd_stand (h : SdS n s) {i : Nat} (hi : i < s.groups.length) (hn : s.now = n) (hp : 0 ≤ (s.grp i).g.patience) : SdS n (standS s i) := fun j hj hpl => by
  have hl : (standS s i).groups.length = s.groups.length := by simp [standS, EvS.modG, EvS.modR]
  by_cases e : j = i
  · subst e
    rw [stand_grp s hi]
    show n ≤ s.now + (s.grp j).g.patience + 1
    omega
  · have hg : (standS s i).grp j = s.grp j := by
      unfold standS
      rw [grp_modG _ i j _ (show i < (s.modR _ _).groups.length from hi), if_neg e]
      rfl
    rw [hg] at hpl ⊢
    exact h j (by rw [← hl]; exact hj) hpl
theorem Mid.len (h : Mid E P a n T0 T1 s x) : s.groups.length = E.l.length := h.rel.nG
theorem off_ok (hB : BigS a) (hT : TabB E n T0 T1) : ∀ (m j : Nat) (s : EvS) (x : RawR), Mid E (PB E n T0 T1) a n T0 T1 s x → SdS n s → (∀ i, i < j → (s.grp i).place = 3 → (s.grp i).til ≠ n) → j + m = E.l.length →
    Mid E (PC E T0) a n T0 T1 ((List.range' j m).foldl step3 s) ((List.range' j m).foldl (offS E) x) ∧ SdS n ((List.range' j m).foldl step3 s) ∧ LoopGo E (offS E) noPre (List.range' j m) x := by
  intro m
  induction m with
  | zero =>
    intro j s x h hsd hd hjm
    have R := h.rel
    refine ⟨⟨⟨R.now, R.walk, R.nG, R.nR, R.g, R.b, R.pl, R.wa, R.tk, R.out, R.wk, R.st, fun i hi hp => ?_, R.q, R.ta, R.li, R.ho, R.vis, R.n0, R.si, R.wb⟩, h.both, h.now, h.tab⟩, hsd, trivial⟩
    have h1 := R.rid i hi hp
    have h2 := hd i (by have e := R.nG; have h9 : i < s.groups.length := hi; omega) hp
    exact (h1.2 (fun e => h2 (h1.1 e))).2
  | succ m ih =>
    intro j s x h hsd hd hjm
    have hj : j < E.l.length := by omega
    have hj' : j < s.groups.length := by rw [h.len]; exact hj
    have k1 := h.off hB hj
    have hpat := ((fit_of hB h.both).gp j hj').1.1
    have hlen : (step3 s j).groups.length = s.groups.length := k1.len.trans h.len.symm
    have key : SdS n (step3 s j) ∧ (∀ i, i ≠ j → (step3 s j).grp i = s.grp i) ∧ (((step3 s j).grp j).place = 3 → ((step3 s j).grp j).til ≠ n) := by
      unfold step3 at hlen ⊢
      by_cases C : (s.grp j).place = 3 ∧ (s.grp j).til = s.now
      · rw [if_pos C] at hlen ⊢
        exact ⟨sd_goOn hsd hj' h.now hpat hlen, fun i hi => goOn_other s hj' hi, fun hp => absurd hp (goOn_no3 s hj')⟩
      · rw [if_neg C]
        exact ⟨hsd, fun _ _ => rfl, fun hp e => C ⟨hp, e.trans h.now.symm⟩⟩
    obtain ⟨m1, m2, m3⟩ := ih (j + 1) _ _ k1 key.1 (fun i hi hp => by
      by_cases e : i = j
      · subst e; exact key.2.2 hp
      · rw [key.2.1 i e] at hp ⊢
        exact hd i (by omega) hp) (by omega)
    exact ⟨m1, m2, h.fine hB hT, trivial, m3⟩
theorem mixs_ok (hB : BigS a) (hT : TabB E n T0 T1) : ∀ (l : List Nat) (s : EvS) (x : RawR), Mid E P a n T0 T1 s x → SdS n s → (∀ i, i ∈ l → i < E.l.length) →
    Mid E P a n T0 T1 (l.foldl stepM s) (l.foldl (mixR E) x) ∧ SdS n (l.foldl stepM s) ∧ LoopGo E (mixR E) noPre l x := by
  intro l
  induction l with
  | nil => intro s x h hsd _; exact ⟨h, hsd, trivial⟩
  | cons i l ih =>
    intro s x h hsd hl
    have hi := hl i List.mem_cons_self
    have hi' : i < s.groups.length := by rw [h.len]; exact hi
    have k1 := h.mix hB hi
    have hpat := ((fit_of hB h.both).gp i hi').1.1
    have hlen : (stepM s i).groups.length = s.groups.length := k1.len.trans h.len.symm
    have key : SdS n (stepM s i) := by
      unfold stepM at hlen ⊢
      by_cases A0 : (s.grp i).place = 0 ∧ (s.grp i).til = s.now
      · rw [if_pos A0] at hlen ⊢
        exact sd_goOn hsd hi' h.now hpat hlen
      · rw [if_neg A0]
        by_cases A1 : (s.grp i).place = 1 ∧ (s.grp i).til = s.now
        · rw [if_pos A1]
          exact sd_stand hsd hi' h.now hpat
        · rw [if_neg A1]
          exact hsd
    obtain ⟨m1, m2, m3⟩ := ih _ _ k1 key (fun j hj => hl j (List.mem_cons_of_mem _ hj))
    exact ⟨m1, m2, h.fine hB hT, trivial, m3⟩
end
end Go.Proofs.Ytijbhcdnbaaobaa
/- An evening of layer 7, plainly: where ways take no time, nobody walks. No memory. -/
namespace Go.Proofs.Ytijbhcdnbaaobaa

def N1 (s : EvS) : Prop := s.walk = 0 → ∀ i, (s.grp i).place ≠ 1
theorem goOn_walk (s : EvS) (i : Nat) : (goOnS s i).walk = s.walk := by
  unfold goOnS
  dsimp only
  split
  · rfl
  · split <;> rfl
theorem n1_goOn {s : EvS} (h : N1 s) {i : Nat} (hi : i < s.groups.length) : N1 (goOnS s i) := fun hw j => by
  rw [goOn_walk] at hw
  by_cases e : j = i
  · subst e
    have hl : j < (s.modG j fun g => { g with want := g.want + 1 }).groups.length := by simp [EvS.modG]; exact hi
    unfold goOnS
    dsimp only
    split
    · rw [grp_modG _ j j _ hl, if_pos rfl]
      intro h; cases h
    · rw [stand_grp _ hl]
      intro h; cases h
  · rw [goOn_other s hi e]
    exact h hw j
theorem n1_stand {s : EvS} (h : N1 s) {i : Nat} (hi : i < s.groups.length) : N1 (standS s i) := fun hw j => by
  by_cases e : j = i
  · subst e
    rw [stand_grp s hi]
    intro h; cases h
  · have hg : (standS s i).grp j = s.grp j := by
      unfold standS
      rw [grp_modG _ i j _ (show i < (s.modR _ _).groups.length from hi), if_neg e]
      rfl
    rw [hg]
    exact h hw j
theorem n1_giveUp {s : EvS} (h : N1 s) {i : Nat} (hi : i < s.groups.length) : N1 (giveUpS s i) := n1_goOn (s := leaveS s i false) h hi
theorem n1_getOn {s : EvS} (h : N1 s) {i : Nat} (hi : i < s.groups.length) : N1 (getOnS s i) := fun hw j => by
  by_cases e : j = i
  · subst e
    have : (getOnS s j).grp j = { s.grp j with tok := (s.grp j).tok - costS s j (s.grp j).goal, place := 3, til := s.now + (s.rd (s.grp j).goal).b.cycle } := by
      show ((leaveS s j true).modG j _).grp j = _
      rw [grp_modG (leaveS s j true) j j _ hi, if_pos rfl]
      rfl
    rw [this]
    intro h; cases h
  · rw [getOn_other s hi e]
    exact h hw j
/-- Where nobody walks, the third loop has one kind of step. -/
theorem mix_none {s : EvS} (i : Nat) (h : (s.grp i).place ≠ 1) : stepM s i = step0 s i ∧ step1 s i = s := by
  unfold stepM step0 step1
  constructor
  · split
    · rfl
    · rw [if_neg (fun e => h e.1)]
  · rw [if_neg (fun e => h e.1)]
theorem n1_step0 {s : EvS} (h : N1 s) {i : Nat} (hi : i < s.groups.length) : N1 (step0 s i) := by
  unfold step0
  split
  · exact n1_goOn h hi
  · exact h
theorem step0_size (s : EvS) (i : Nat) : (step0 s i).groups.length = s.groups.length ∧ (step0 s i).walk = s.walk := by
  unfold step0
  split
  · refine ⟨?_, goOn_walk s i⟩
    unfold goOnS
    dsimp only
    split
    · simp [EvS.modG]
    · split
      · simp [standS, EvS.modG, EvS.modR]
      · simp [EvS.modG]
  · exact ⟨rfl, rfl⟩
theorem fold_none : ∀ (l : List Nat) (s : EvS), N1 s → s.walk = 0 → (∀ i, i ∈ l → i < s.groups.length) → l.foldl stepM s = l.foldl step0 s ∧ N1 (l.foldl step0 s) ∧ (l.foldl step0 s).walk = 0 := by
  intro l
  induction l with
  | nil => intro s h hw _; exact ⟨rfl, h, hw⟩
  | cons i l ih =>
    intro s h hw hl
    obtain ⟨z1, z2⟩ := step0_size s i
    rw [List.foldl_cons, List.foldl_cons, (mix_none i (h hw i)).1]
    exact ih (step0 s i) (n1_step0 h (hl i List.mem_cons_self)) (z2.trans hw) (fun j hj => by rw [z1]; exact hl j (List.mem_cons_of_mem _ hj))
theorem fold1_none : ∀ (l : List Nat) (s : EvS), N1 s → s.walk = 0 → l.foldl step1 s = s := by
  intro l
  induction l with
  | nil => intro s _ _; rfl
  | cons i l ih =>
    intro s h hw
    rw [List.foldl_cons, (mix_none i (h hw i)).2]
    exact ih s h hw
/-- One loop is two loops. -/
theorem mix_all {s : EvS} (h : N1 s) (hw : 0 ≤ s.walk) (l : List Nat) (hnd : l.Nodup) (hl : ∀ i, i ∈ l → i < s.groups.length) : l.foldl stepM s = l.foldl step1 (l.foldl step0 s) := by
  rcases Int.lt_or_eq_of_le hw with h1 | h1
  · exact mix_two l s hnd hl h1
  · obtain ⟨k1, k2, k3⟩ := fold_none l s h h1.symm hl
    rw [k1, fold1_none l _ k2 k3]
end Go.Proofs.Ytijbhcdnbaaobaa
/- An evening of layer 7, plainly: what the rides' beginning keeps. No memory. -/
namespace Go.Proofs.Ytijbhcdnbaaobaa

theorem keep_fill {a : EvS} (hv : ValS a) {Q : EvS → Prop} (hg : ∀ s i, BothS a s → Q s → i < s.groups.length → (s.grp i).place = 2 → Q (giveUpS s i)) (ho : ∀ s i, BothS a s → Q s → i < s.groups.length → (s.grp i).place = 2 → Q (getOnS s i)) (r : Nat) :
    ∀ (l : List Nat) (left : Int) (s : EvS), BothS a s → Q s → l.Nodup → (∀ j ∈ l, j < s.groups.length ∧ (s.grp j).place = 2 ∧ (s.grp j).goal = r) → Q (fillS r l left s).1 := by
  intro l
  induction l with
  | nil => intro left s _ h _ _; exact h
  | cons i l ih =>
    intro left s hb h hnd hl
    obtain ⟨hi, hp, hgo⟩ := hl i List.mem_cons_self
    rw [List.nodup_cons] at hnd
    simp only [fillS]
    split
    · have hw := wf_giveUp hb.1 hv hi hp
      exact ih left _ ⟨hw, all_giveUp hb.1 hb.2 hi hp⟩ (hg s i hb h hi hp) hnd.2 (mem_rest hnd.1 hl _ (by rw [(fix_len hw.fix).1, (fix_len hb.1.fix).1]) fun j hj => giveUp_other s hi hj)
    · rename_i hc
      split
      · have hw := wf_getOn hb.1 hv hi hp (by rw [hgo]; omega)
        exact ih _ _ ⟨hw, all_getOn hb.1 hb.2 hi hp⟩ (ho s i hb h hi hp) hnd.2 (mem_rest hnd.1 hl _ (by rw [(fix_len hw.fix).1, (fix_len hb.1.fix).1]) fun j hj => getOn_other s hi hj)
      · split
        · exact h
        · exact ih left s hb h hnd.2 (mem_rest hnd.1 hl s rfl fun _ _ => rfl)
theorem keep_rbegs {a : EvS} (hv : ValS a) {Q : EvS → Prop} (hg : ∀ s i, BothS a s → Q s → i < s.groups.length → (s.grp i).place = 2 → Q (giveUpS s i)) (ho : ∀ s i, BothS a s → Q s → i < s.groups.length → (s.grp i).place = 2 → Q (getOnS s i)) (hm : ∀ s r f, Q s → Q (s.modR r f)) :
    ∀ (l : List Nat) (s : EvS), BothS a s → Q s → Q (l.foldl rbegS s) := by
  intro l
  induction l with
  | nil => intro s _ h; exact h
  | cons r l ih =>
    intro s hb h
    refine ih (rbegS s r) (both_rbeg hv r hb) ?_
    have k := keep_fill hv hg ho r (s.rd r).q (s.rd r).b.seats s hb h (hb.1.nod r) (fun j hj => by
      obtain ⟨h1, _, h3, h4⟩ := hb.1.que r j hj
      exact ⟨h1, h3, h4⟩)
    unfold rbegS
    split
    · generalize fillS r (s.rd r).q (s.rd r).b.seats s = t at k
      obtain ⟨t, left⟩ := t
      dsimp only at k ⊢
      split
      · exact hm _ _ _ k
      · exact k
    · exact h
theorem n1_rbegs {a : EvS} (hv : ValS a) (l : List Nat) {s : EvS} (hb : BothS a s) (h : N1 s) : N1 (l.foldl rbegS s) :=
  keep_rbegs hv (fun _ _ _ h hi _ => n1_giveUp h hi) (fun _ _ _ h hi _ => n1_getOn h hi) (fun _ _ _ h => h) l s hb h
/-- Whoever stands anew waits at least until the next tick. -/
def SdN (n : Int) (s : EvS) : Prop := SdS (n + 1) s ∧ s.now = n
theorem sdn_rbegs {a : EvS} (hB : BigS a) {n : Int} (l : List Nat) {s : EvS} (hb : BothS a s) (h : SdN n s) : SdN n (l.foldl rbegS s) := by
  refine keep_rbegs (Q := SdN n) hB.wish (fun s i hb h hi hp => ?_) (fun s i hb h hi hp => ?_) (fun _ _ _ h => h) l s hb h
  · have hw := wf_giveUp hb.1 hB.wish hi hp
    have hl : (giveUpS s i).groups.length = s.groups.length := by rw [(fix_len hw.fix).1, (fix_len hb.1.fix).1]
    have hpat := ((fit_of hB hb).gp i hi).1.1
    refine ⟨fun j hj hpl => ?_, (goOn_same (leaveS s i false) i).2.trans h.2⟩
    by_cases e : j = i
    · subst e
      have := goOn_sd (leaveS s j false) (i := j) hi hpat hpl
      have e : (leaveS s j false).now = n := h.2
      rw [e] at this
      exact this
    · rw [giveUp_other s hi e] at hpl ⊢
      exact h.1 j (by rw [← hl]; exact hj) hpl
  · have hl : (getOnS s i).groups.length = s.groups.length := by simp [getOnS, leaveS, EvS.modG, EvS.modR]
    refine ⟨fun j hj hpl => ?_, h.2⟩
    by_cases e : j = i
    · subst e
      have : (getOnS s j).grp j = { s.grp j with tok := (s.grp j).tok - costS s j (s.grp j).goal, place := 3, til := s.now + (s.rd (s.grp j).goal).b.cycle } := by
        show ((leaveS s j true).modG j _).grp j = _
        rw [grp_modG (leaveS s j true) j j _ hi, if_pos rfl]
        rfl
      rw [this] at hpl
      cases hpl
    · rw [getOn_other s hi e] at hpl ⊢
      exact h.1 j (by rw [← hl]; exact hj) hpl
end Go.Proofs.Ytijbhcdnbaaobaa
/- An evening of layer 7, plainly: one whole tick of the two machines. No memory. -/
namespace Go.Proofs.Ytijbhcdnbaaobaa

theorem due_eq (p : Nat) (f : EvS → Nat → EvS) {s : EvS} {m : Nat} (h : s.groups.length = m) : forDueS p f s = (List.range' 0 m).foldl (fun s i => if (s.grp i).place = p ∧ (s.grp i).til = s.now then f s i else s) s := by
  subst h
  unfold forDueS
  rw [List.range_eq_range']
theorem rng_mem {m i : Nat} (h : i ∈ List.range' 0 m) : i < m := by
  rw [List.mem_range'_1] at h
  omega
theorem keep_fold {Q : EvS → Prop} {step : EvS → Nat → EvS} {m : Nat} (h : ∀ s i, Q s → i < m → Q (step s i)) : ∀ (l : List Nat) (s : EvS), (∀ i, i ∈ l → i < m) → Q s → Q (l.foldl step s) := by
  intro l
  induction l with
  | nil => intro s _ hs; exact hs
  | cons i l ih => intro s hl hs; exact ih _ (fun j hj => hl j (List.mem_cons_of_mem _ hj)) (h s i hs (hl i List.mem_cons_self))
/-- Nobody walks where ways take no time; so many groups. -/
def N1L (m : Nat) (s : EvS) : Prop := N1 s ∧ s.groups.length = m
theorem n1l_step3 {m : Nat} (s : EvS) (i : Nat) (h : N1L m s) (hi : i < m) : N1L m (step3 s i) := by
  unfold step3
  split
  · exact ⟨n1_goOn h.1 (by rw [h.2]; exact hi), (len_goOn s i).trans h.2⟩
  · exact h
theorem n1l_step0 {m : Nat} (s : EvS) (i : Nat) (h : N1L m s) (hi : i < m) : N1L m (step0 s i) := by
  unfold step0
  split
  · exact ⟨n1_goOn h.1 (by rw [h.2]; exact hi), (len_goOn s i).trans h.2⟩
  · exact h
theorem n1l_step1 {m : Nat} (s : EvS) (i : Nat) (h : N1L m s) (hi : i < m) : N1L m (step1 s i) := by
  unfold step1
  split
  · exact ⟨n1_stand h.1 (by rw [h.2]; exact hi), (len_stand s i).trans h.2⟩
  · exact h
theorem n1l_step2 {m : Nat} (s : EvS) (i : Nat) (h : N1L m s) (hi : i < m) : N1L m (step2 s i) := by
  unfold step2
  split
  · exact ⟨n1_giveUp h.1 (by rw [h.2]; exact hi), (len_giveUp s i).trans h.2⟩
  · exact h
theorem rdy_step3 (s : EvS) (i k : Nat) : ((step3 s i).rd k).ready = (s.rd k).ready := by
  unfold step3
  split
  · exact rdy_goOn s i k
  · rfl
theorem rdy_stepM (s : EvS) (i k : Nat) : ((stepM s i).rd k).ready = (s.rd k).ready := by
  unfold stepM
  split
  · exact rdy_goOn s i k
  · split
    · exact rdy_stand s i k
    · rfl
theorem rdy_step2 (s : EvS) (i k : Nat) : ((step2 s i).rd k).ready = (s.rd k).ready := by
  unfold step2
  split
  · exact rdy_giveUp s i k
  · rfl
theorem rdy_measure (s : EvS) {k : Nat} (hk : k < s.rides.length) : ((measureS s).rd k).ready = (s.rd k).ready := by
  unfold measureS EvS.rd
  simp [hk]
section
variable {E : RfE} {a s : EvS} {x : RawR} {n : Int} {T0 T1 : Nat → Int}
/-- A tick's beginning. -/
structure TkS (E : RfE) (a : EvS) (n : Int) (T0 T1 : Nat → Int) (s : EvS) (x : RawR) : Prop where
  mid : Mid E (PC E T0) a n T0 T1 s x
  sd : SdS n s
  n1 : N1 s
  tb : TabB E n T0 T1
  rdy : ∀ r, r < E.f.rides.length → (T0 r < 0 → T1 r < 0 ∧ (s.rd r).ready ≤ 0 ∨ 0 ≤ T1 r ∧ (s.rd r).ready = T1 r + (E.bt r).pause) ∧ (0 ≤ T0 r → n ≤ T0 r + (E.bt r).cycle ∧ (s.rd r).ready = T0 r + (E.bt r).cycle + (E.bt r).pause)
  t1 : ∀ r, r < E.f.rides.length → T1 r < n
/-- A tick's end. -/
structure TkE (E : RfE) (a : EvS) (n : Int) (T0 T1 : Nat → Int) (s : EvS) (x : RawR) : Prop where
  mid : Mid E (PC E T0) a n T0 T1 s x
  sd : SdS (n + 1) s
  n1 : N1 s
  tb : TabB E n T0 T1
  rdy : RdyR E n T0 T1 s
  t1 : ∀ r, r < E.f.rides.length → T1 r ≤ n
theorem tick_ok (hB : BigS a) (S : StatE E) (h : TkS E a n T0 T1 s x) : ∃ x1 x2 x3 x4 x5 x6 T T', TickGo E x x1 x2 x3 x4 x5 x6 ∧ x6.now = x.now ∧ TkE E a n T T' (tickS s) x6 := by
  obtain ⟨hM, hsd, hn1, hT, hR, ht1⟩ := h
  obtain ⟨R, hRd⟩ : ∃ R, R = E.f.rides.length := ⟨_, rfl⟩
  obtain ⟨m, hm⟩ : ∃ m, m = E.l.length := ⟨_, rfl⟩
  have h0 : 0 ≤ n := by have := hM.rel.n0; have := hM.now; omega
  have hw : 0 ≤ s.walk := by
    rw [hM.both.1.fix.walk]
    exact hB.walk.1
  have e00 : ∀ r, T0e E n T0 0 r = T0 r := fun r => if_neg fun e => by omega
  have e10 : ∀ r, T1e E n T0 T1 0 r = T1 r := fun r => if_neg fun e => by omega
  obtain ⟨a1, a2⟩ := rends_ok (T0 := T0) (T1 := T1) hB hT R 0 x ⟨hM.rel, hM.both, hM.now, fun r hr => by rw [e00, e10]; exact hM.tab r hr⟩ (by omega)
  rw [Nat.zero_add] at a1
  have hT2 := tabB_e hT h0 R
  have d0 : ∀ r, r < R → T0e E n T0 R r = if hitR E n T0 r then -1 else T0 r := fun r hr => by
    unfold T0e
    simp only [hr, true_and]
  have d1 : ∀ r, r < R → T1e E n T0 T1 R r = if hitR E n T0 r then n else T1 r := fun r hr => by
    unfold T1e
    simp only [hr, true_and]
  generalize T0e E n T0 R = U0 at *
  generalize T1e E n T0 T1 R = U1 at *
  have b1 : Mid E (PB E n U0 U1) a n U0 U1 s ((List.range' 0 R).foldl (endS E) x) := a1.mono hB fun r t hr hp => by
    rw [← hRd] at hr
    have h1 := ht1 r (by rw [← hRd]; exact hr)
    obtain ⟨p1, p2⟩ := hp
    have q0 := d0 r hr
    have q1 := d1 r hr
    by_cases hh : hitR E n T0 r
    · rw [if_pos hh] at q0 q1
      exact ⟨fun _ => by have := hh.2; omega, fun e => absurd q1 e⟩
    · rw [if_neg hh] at q0 q1
      refine ⟨fun e => by omega, fun _ => ⟨fun e => hh ⟨p1, by omega⟩, by omega, by omega⟩⟩
  obtain ⟨c1, c2, c3⟩ := off_ok hB hT2 m 0 s _ b1 hsd (fun i hi => by omega) (by omega)
  have n3 := keep_fold n1l_step3 (List.range' 0 m) s (fun i hi => rng_mem hi) ⟨hn1, by rw [hm]; exact hM.len⟩
  have w3 : 0 ≤ ((List.range' 0 m).foldl step3 s).walk := by
    rw [c1.both.1.fix.walk]
    exact hB.walk.1
  have y3 := fun k => rdy_fold step3 rdy_step3 k (List.range' 0 m) s
  have g3 : forDueS 3 goOnS s = (List.range' 0 m).foldl step3 s := due_eq 3 goOnS (by rw [hm]; exact hM.len)
  obtain ⟨f1, f2, f3⟩ := mixs_ok hB hT2 (List.range' 0 m) _ _ c1 c2 (fun i hi => by rw [← hm]; exact rng_mem hi)
  have y4 := fun k => rdy_fold stepM rdy_stepM k (List.range' 0 m) ((List.range' 0 m).foldl step3 s)
  have mx := mix_all n3.1 w3 (List.range' 0 m) (List.nodup_range') (fun i hi => by rw [n3.2]; exact rng_mem hi)
  have g0 : forDueS 0 goOnS ((List.range' 0 m).foldl step3 s) = (List.range' 0 m).foldl step0 ((List.range' 0 m).foldl step3 s) := due_eq 0 goOnS n3.2
  have n0 := keep_fold n1l_step0 (List.range' 0 m) _ (fun i hi => rng_mem hi) n3
  have g1 : forDueS 1 standS ((List.range' 0 m).foldl step0 ((List.range' 0 m).foldl step3 s)) = (List.range' 0 m).foldl step1 ((List.range' 0 m).foldl step0 ((List.range' 0 m).foldl step3 s)) := due_eq 1 standS n0.2
  have n1 := keep_fold n1l_step1 (List.range' 0 m) _ (fun i hi => rng_mem hi) n0
  have y34 := fun k => (y4 k).trans (y3 k)
  have hs2 : forDueS 1 standS (forDueS 0 goOnS (forDueS 3 goOnS s)) = (List.range' 0 m).foldl stepM ((List.range' 0 m).foldl step3 s) := by rw [g3, g0, g1, ← mx]
  rw [← mx] at n1
  generalize (List.range' 0 m).foldl stepM ((List.range' 0 m).foldl step3 s) = s2 at hs2 f1 f2 n1 y34
  obtain ⟨p1, p2, p3⟩ := pat_ok hB hT2 m 0 s2 _ f1 f2 (fun i hi => by omega) (by omega)
  have y2 := fun k => rdy_fold step2 rdy_step2 k (List.range' 0 m) s2
  have g2 : forDueS 2 giveUpS s2 = (List.range' 0 m).foldl step2 s2 := due_eq 2 giveUpS n1.2
  have n2 := keep_fold n1l_step2 (List.range' 0 m) _ (fun i hi => rng_mem hi) n1
  generalize (List.range' 0 m).foldl step2 s2 = s4 at g2 p1 p2 n2 y2
  have RR : RdyR E n U0 U1 s4 := fun r hr => by
    have hr' : r < R := by rw [hRd]; exact hr
    have e : (s4.rd r).ready = (s.rd r).ready := (y2 r).trans (y34 r)
    obtain ⟨r1, r2⟩ := hR r hr
    have q0 := d0 r hr'
    have q1 := d1 r hr'
    rw [e]
    by_cases hh : hitR E n T0 r
    · rw [if_pos hh] at q0 q1
      have h2 := r2 hh.1
      have h3 := hh.2
      exact ⟨fun _ => .inr ⟨by omega, by omega⟩, fun e => by omega⟩
    · rw [if_neg hh] at q0 q1
      rw [q0, q1]
      refine ⟨r1, fun e => ⟨?_, (r2 e).2⟩⟩
      have h2 := r2 e
      have h3 : ¬ n - T0 r = (E.bt r).cycle := fun e2 => hh ⟨e, e2⟩
      omega
  obtain ⟨⟨T, k1, k2, k3⟩, k4⟩ := begs_ok hB S h0 (List.range' 0 R) s4 _ U0 p1 RR hT2 (fun r hr => by rw [← hRd]; exact rng_mem hr)
  have n5 := n1_rbegs hB.wish (List.range' 0 R) p1.both n2.1
  have sd5 := sdn_rbegs hB (List.range' 0 R) p1.both ⟨p2, p1.now⟩
  have g5 : rbegsS s4 = (List.range' 0 R).foldl rbegS s4 := by
    unfold rbegsS
    rw [p1.rel.nR, ← hRd, List.range_eq_range']
  generalize (List.range' 0 R).foldl rbegS s4 = s5 at g5 k1 k2 n5 sd5
  have htk : tickS s = measureS s5 := by
    unfold tickS
    rw [hs2, g2, g5]
  have l5 : s5.rides.length = R := by rw [k1.rel.nR, hRd]
  obtain ⟨m1, m2⟩ := lin_ok hB k3 R 0 _ (by rw [measK_zero]; exact k1) (by omega)
  rw [Nat.zero_add, ← l5, measK_all, l5] at m1
  rw [htk]
  refine ⟨_, _, _, _, _, _, T, U1, ⟨rfl, hRd ▸ a2, rfl, ?_, rfl, ?_, rfl, ?_, rfl, ?_, rfl, ?_⟩, ?_, ⟨?_, ?_, ?_, k3, ?_, ?_⟩⟩
  · rw [← hm, ← hRd]; exact c3
  · rw [← hm, ← hRd]; exact f3
  · rw [← hm, ← hRd]; exact p3
  · rw [← hm, ← hRd]; exact k4
  · rw [← hm, ← hRd]; exact m2
  · rw [← hm, ← hRd]
    exact m1.rel.now.trans (m1.now.trans (hM.now.symm.trans hM.rel.now.symm))
  · rw [← hm, ← hRd]; exact m1
  · exact sd5.1
  · exact n5
  · intro r hr
    rw [rdy_measure s5 (by rw [l5, hRd]; exact hr)]
    exact k2 r hr
  · intro r hr
    have hr' : r < R := by rw [hRd]; exact hr
    rw [d1 r hr']
    have := ht1 r hr
    split <;> omega
theorem RelB.later {P : Nat → Int → Prop} (h : RelB E P s x) {k : Int} (hk : s.now ≤ k) : RelB E P { s with now := k } { x with now := k } :=
  ⟨rfl, h.walk, h.nG, h.nR, h.g, h.b, h.pl, h.wa, h.tk, h.out, h.wk, h.st, h.rid, h.q, h.ta, h.li, h.ho, h.vis, Int.le_trans h.n0 hk, fun i hi => ⟨(h.si i hi).1, Int.le_trans (h.si i hi).2 hk⟩, h.wb⟩
theorem TkE.next (h : TkE E a n T0 T1 s x) (hn : n + 1 ≤ 4000) : TkS E a (n + 1) T0 T1 { s with now := s.now + 1 } { x with now := x.now + 1 } := by
  have e1 : s.now = n := h.mid.now
  have e2 : x.now = n := h.mid.rel.now.trans e1
  rw [e1, e2]
  refine ⟨⟨h.mid.rel.later (by omega), ⟨wf_now h.mid.both.1 _, his_now h.mid.both.2 _ (by omega)⟩, rfl, h.mid.tab⟩, h.sd, h.n1, ⟨hn, h.tb.b0, h.tb.b1⟩, fun r hr => ⟨(h.rdy r hr).1, fun e => ?_⟩, fun r hr => ?_⟩
  · have := (h.rdy r hr).2 e
    exact ⟨by omega, this.2⟩
  · have := h.t1 r hr
    omega
end
end Go.Proofs.Ytijbhcdnbaaobaa
/- An evening of layer 7, plainly: the specification's steps look at the evening and the groups alone, not at where they lie. No memory. -/
namespace Go.Proofs.Ytijbhcdnbaaobaa

theorem goal_same {E D : RfE} (_ : E.f = D.f) (hl : E.l = D.l) : E.goal = D.goal := by
  funext i w
  unfold RfE.goal
  rw [hl]
theorem sz_same {E D : RfE} (_ : E.f = D.f) (hl : E.l = D.l) : E.sz = D.sz := by
  funext i
  unfold RfE.sz
  rw [hl]
theorem bt_same {E D : RfE} (hf : E.f = D.f) (_ : E.l = D.l) : E.bt = D.bt := by
  funext r
  unfold RfE.bt
  rw [hf]
theorem stand_same {E D : RfE} (hf : E.f = D.f) (hl : E.l = D.l) : standR E = standR D := by
  funext x i
  unfold standR
  rw [goal_same hf hl]
theorem on_same {E D : RfE} (hf : E.f = D.f) (hl : E.l = D.l) : onR E = onR D := by
  funext x i
  unfold onR
  rw [stand_same hf hl, hf, hl]
theorem left_same {E D : RfE} (hf : E.f = D.f) (hl : E.l = D.l) : leftR E = leftR D := by
  funext x i on
  unfold leftR
  rw [goal_same hf hl]
theorem leave_same {E D : RfE} (hf : E.f = D.f) (hl : E.l = D.l) : leaveR E = leaveR D := by
  funext x i on
  unfold leaveR
  rw [on_same hf hl, left_same hf hl, goal_same hf hl, hf, hl]
theorem fillL_same {E D : RfE} (hf : E.f = D.f) (hl : E.l = D.l) (r : Nat) : ∀ (l : List Nat) (left : Int) (x : RawR), fillLR E r l left x = fillLR D r l left x := by
  intro l
  induction l with
  | nil => intro left x; rfl
  | cons i l ih =>
    intro left x
    simp only [fillLR, ih, sz_same hf hl, bt_same hf hl, leave_same hf hl]
theorem pre_same {E D : RfE} (hf : E.f = D.f) (hl : E.l = D.l) {x : RawR} {i : Nat} (h : LeavePre E x i) : LeavePre D x i := by
  obtain ⟨h0, h1, q, v, t, k⟩ := h
  rw [hl] at h1
  rw [hf] at q k
  exact ⟨h0, h1, q, v, t, k⟩
theorem fillGo_same {E D : RfE} (hf : E.f = D.f) (hl : E.l = D.l) (r : Nat) : ∀ (l : List Nat) (left : Int) (x : RawR), FillGo E r l left x → FillGo D r l left x := by
  intro l
  induction l with
  | nil => intro left x _; trivial
  | cons i l ih =>
    intro left x h
    simp only [FillGo, sz_same hf hl, bt_same hf hl, leave_same hf hl] at h ⊢
    obtain ⟨⟨h1, h2⟩, h3⟩ := h
    rw [hl] at h1
    refine ⟨⟨h1, pre_same hf hl h2⟩, ?_⟩
    by_cases C : (D.bt r).seats < D.sz i ∨ x.gu i 3 < D.sz i * (D.bt r).price
    · rw [if_pos C] at h3 ⊢
      exact ih _ _ h3
    · rw [if_neg C] at h3 ⊢
      by_cases F : D.sz i ≤ left
      · rw [if_pos F] at h3 ⊢
        exact ih _ _ h3
      · rw [if_neg F] at h3 ⊢
        by_cases G : (D.bt r).fill = false
        · rw [if_pos G]
          trivial
        · rw [if_neg G] at h3 ⊢
          exact ih _ _ h3
theorem fine_same {E D : RfE} (hf : E.f = D.f) (hl : E.l = D.l) {x : RawR} (h : Fine E x) : Fine D x := by
  obtain ⟨a1, a2, a3, a4, a5, a6, a7, a8, a9, a10, a11⟩ := h
  rw [hf] at a2 a3 a4 a5 a6
  rw [hl] at a6 a8 a9 a10 a11
  exact ⟨a1, a2, a3, a4, a5, a6, a7, a8, a9, a10, a11⟩
theorem loop_same {E D : RfE} (hf : E.f = D.f) (hl : E.l = D.l) {st st' : RawR → Nat → RawR} {pre pre' : RawR → Nat → Prop} (hs : st = st') (hp : ∀ x i, pre x i → pre' x i) : ∀ (l : List Nat) (x : RawR), LoopGo E st pre l x → LoopGo D st' pre' l x := by
  subst hs
  intro l
  induction l with
  | nil => intro x _; trivial
  | cons i l ih => intro x h; exact ⟨fine_same hf hl h.1, hp _ _ h.2.1, ih _ h.2.2⟩
theorem end_same {E D : RfE} (hf : E.f = D.f) (hl : E.l = D.l) : endS E = endS D := by
  funext x i
  unfold endS
  rw [bt_same hf hl]
theorem off_same {E D : RfE} (hf : E.f = D.f) (hl : E.l = D.l) : offS E = offS D := by
  funext x i
  unfold offS
  rw [on_same hf hl, goal_same hf hl]
theorem mix_same {E D : RfE} (hf : E.f = D.f) (hl : E.l = D.l) : mixR E = mixR D := by
  funext x i
  unfold mixR
  rw [on_same hf hl, stand_same hf hl, hf, hl]
theorem pat_same {E D : RfE} (hf : E.f = D.f) (hl : E.l = D.l) : patR E = patR D := by
  funext x i
  unfold patR
  rw [leave_same hf hl, hl]
theorem begQ_same {E D : RfE} (hf : E.f = D.f) (hl : E.l = D.l) : begQ E = begQ D := by
  funext x i
  unfold begQ
  rw [bt_same hf hl]
theorem beg_same {E D : RfE} (hf : E.f = D.f) (hl : E.l = D.l) : begR E = begR D := by
  funext x i
  have e : begQ E x i ↔ begQ D x i := by rw [begQ_same hf hl]
  unfold begR
  simp only [e, fillL_same hf hl, bt_same hf hl]
theorem lin_same {E D : RfE} (hf : E.f = D.f) (hl : E.l = D.l) : linR E = linR D := by
  funext x i
  unfold linR
  rw [sz_same hf hl]
theorem tickGo_same {E D : RfE} (hf : E.f = D.f) (hl : E.l = D.l) {x x1 x2 x3 x4 x5 x6 : RawR} (h : TickGo E x x1 x2 x3 x4 x5 x6) : TickGo D x x1 x2 x3 x4 x5 x6 := by
  obtain ⟨e1, g1, e2, g2, e3, g3, e4, g4, e5, g5, e6, g6⟩ := h
  have n1 : E.f.rides.length = D.f.rides.length := by rw [hf]
  have n2 : E.l.length = D.l.length := by rw [hl]
  rw [n1, end_same hf hl] at e1
  rw [n2, off_same hf hl] at e2
  rw [n2, mix_same hf hl] at e3
  rw [n2, pat_same hf hl] at e4
  rw [n1, beg_same hf hl] at e5
  rw [n1, lin_same hf hl] at e6
  rw [n1] at g1 g5 g6
  rw [n2] at g2 g3 g4
  have np : ∀ x i, noPre x i → noPre x i := fun _ _ h => h
  exact ⟨e1, loop_same hf hl (end_same hf hl) np _ _ g1, e2, loop_same hf hl (off_same hf hl) np _ _ g2, e3, loop_same hf hl (mix_same hf hl) np _ _ g3, e4, loop_same hf hl (pat_same hf hl) np _ _ g4, e5, loop_same hf hl (beg_same hf hl) (fun x i hp hq => by
    have h1 := hp (fun e => hq (by rw [← begQ_same hf hl]; exact e))
    rw [bt_same hf hl] at h1
    exact fillGo_same hf hl i _ _ _ h1) _ _ g5, e6, loop_same hf hl (lin_same hf hl) np _ _ g6⟩
theorem playGo_same {E D : RfE} (hf : E.f = D.f) (hl : E.l = D.l) : ∀ (k : Nat) (x y : RawR), PlayGo E k x y → PlayGo D k x y := by
  intro k
  induction k with
  | zero => intro x y h; exact h
  | succ k ih =>
    intro x y h
    obtain ⟨x1, x2, x3, x4, x5, x6, h1, h2, h3⟩ := h
    exact ⟨x1, x2, x3, x4, x5, x6, tickGo_same hf hl h1, h2, ih _ _ h3⟩
end Go.Proofs.Ytijbhcdnbaaobaa
namespace Go.Proofs.Ytijbhcdnbaaobaa

theorem ticks_both {E : RfE} {a : EvS} (hB : BigS a) (S : StatE E) : ∀ (k : Nat) (s : EvS) (x : RawR) (n : Int) (T0 T1 : Nat → Int), TkS E a n T0 T1 s x → n + k ≤ 4000 → ∃ y P, PlayGo E (k + 1) x y ∧ RelB E P (goT (k + 1) s) y := by
  intro k
  induction k with
  | zero =>
    intro s x n T0 T1 h _
    obtain ⟨x1, x2, x3, x4, x5, x6, T, T', h1, h2, h3⟩ := tick_ok hB S h
    have e1 : (tickS s).now = s.now := now_tick s
    have e2 : x.now = s.now := h.mid.rel.now
    refine ⟨{ x6 with now := x.now + 1 }, PC E T, ⟨x1, x2, x3, x4, x5, x6, h1, h2, rfl⟩, ?_⟩
    rw [e2]
    exact h3.mid.rel.later (by omega)
  | succ k ih =>
    intro s x n T0 T1 h hn
    obtain ⟨x1, x2, x3, x4, x5, x6, T, T', h1, h2, h3⟩ := tick_ok hB S h
    have e1 : (tickS s).now = s.now := now_tick s
    have h4 := h3.next (by omega)
    rw [h2, e1] at h4
    obtain ⟨y, P, h5, h6⟩ := ih _ _ _ _ _ h4 (by omega)
    exact ⟨y, P, ⟨x1, x2, x3, x4, x5, x6, h1, h2, h5⟩, h6⟩
theorem tk_start {f : EveZ} {l : List GrpZ} (h1 : eveB f = true) (h2 : grpsB f.rides.length l = true) {E : RfE} (hf : E.f = f) (hl : E.l = l) : TkS E (startS f l) 0 (fun _ => -1) (fun _ => -1) (startS f l) (raw0 f l) := by
  subst hf hl
  obtain ⟨b1, b2⟩ := big_start h1 h2
  obtain ⟨-, a2, -⟩ := eve_valid h1
  have nl : (startS E.f E.l).groups.length = E.l.length := by simp [startS]
  have nr : (startS E.f E.l).rides.length = E.f.rides.length := by simp [startS]
  have sg : ∀ i, i < (startS E.f E.l).groups.length → (startS E.f E.l).grp i = ⟨E.l.getD i default, (E.l.getD i default).tokens, 0, (E.l.getD i default).at_, -1, 0, -1⟩ := fun i hi => start_grp E.f E.l (by rw [← nl]; exact hi)
  have sr : ∀ r, r < (startS E.f E.l).rides.length → (startS E.f E.l).rd r = ⟨E.f.rides.getD r default, [], 0, 0, 0⟩ := fun r hr => start_rd E.f E.l (by rw [← nr]; exact hr)
  refine ⟨⟨⟨rfl, rfl, nl, nr, fun i hi => by rw [sg i hi], fun r hr => by rw [sr r hr]; rfl, fun i hi => by rw [sg i hi]; rfl, fun i hi => by rw [sg i hi]; rfl, fun i hi => by rw [sg i hi]; rfl, fun i hi _ => by rw [sg i hi], fun i hi hp => ?_, fun i hi hp => ?_, fun i hi hp => ?_, fun r hr => by rw [sr r hr]; rfl, fun r hr => ?_, fun r hr => ?_, fun i hi => ?_, rfl, Int.le_refl _, fun i hi => ⟨Int.le_refl _, Int.le_refl _⟩, fun i hi => ?_⟩, b2, rfl, fun r hr => ⟨?_, ?_⟩⟩, fun i hi hp => ?_, fun _ i => ?_, ⟨by omega, fun _ _ => by omega, fun _ _ => by omega⟩, fun r hr => ?_, fun _ _ => by omega⟩
  · rw [sg i hi] at hp; cases hp
  · rw [sg i hi] at hp; cases hp
  · rw [sg i hi] at hp; cases hp
  · rw [sr r hr]
    show tabS 0 0 E.f.rides.length E.l.length 2 r = 0
    unfold tabS
    rw [if_neg (by omega)]
  · rw [sr r hr]
    show tabS 0 0 E.f.rides.length E.l.length 3 r = 0
    unfold tabS
    rw [if_neg (by omega)]
  · rw [sg i hi]
    show tabS 0 0 E.f.rides.length E.l.length 4 i = -1
    unfold tabS
    rw [if_pos (by omega)]
  · rw [sg i hi]
    exact ⟨Int.le_refl _, by show (-1 : Int) ≤ _; omega⟩
  · show tabS 0 0 E.f.rides.length E.l.length 0 r = -1
    unfold tabS
    rw [if_pos (by omega)]
  · show tabS 0 0 E.f.rides.length E.l.length 1 r = -1
    unfold tabS
    rw [if_pos (by omega)]
  · rw [sg i hi] at hp; cases hp
  · by_cases hi : i < (startS E.f E.l).groups.length
    · rw [sg i hi]
      intro h; cases h
    · unfold EvS.grp
      rw [List.getD_eq_getElem?_getD, List.getElem?_eq_none (by omega)]
      intro h; cases h
  · rw [sr r (by rw [nr]; exact hr)]
    exact ⟨fun _ => .inl ⟨by omega, Int.le_refl _⟩, fun h => by omega⟩
/-- Where no queue was ever less than nobody. -/
def LongS (s : EvS) : Prop := ∀ y ∈ s.rides, 0 ≤ y.longest
theorem long_measure {s : EvS} (hf : FitS (measureS s)) : LongS (measureS s) := fun y hy => by
  obtain ⟨r, hr, e⟩ := mem_rd hy
  have hq := (hf.que r).2
  rw [e] at hq
  have h1 := (guests_bd hf y.q hq).1
  have hy' : y ∈ s.rides.map fun x => { x with longest := max x.longest (guestsS s x.q) } := hy
  obtain ⟨z, _, hz⟩ := List.mem_map.1 hy'
  have e2 : y.q = z.q := by rw [← hz]
  have e3 : y.longest = max z.longest (guestsS s z.q) := by rw [← hz]
  rw [e3]
  rw [e2] at h1
  have e4 : guestsS (measureS s) z.q = guestsS s z.q := rfl
  rw [e4] at h1
  omega
theorem measure_same {s : EvS} (hl : LongS s) (hq : ∀ r, (s.rd r).q = []) : measureS s = s := by
  have : (s.rides.map fun x => { x with longest := max x.longest (guestsS s x.q) }) = s.rides := by
    refine (List.map_congr_left (g := id) fun y hy => ?_).trans (List.map_id _)
    obtain ⟨r, _, e⟩ := mem_rd hy
    have h1 := hq r
    rw [e] at h1
    have h2 := hl y hy
    have h3 : guestsS s y.q = 0 := by rw [h1]; rfl
    have h4 : max y.longest (guestsS s y.q) = y.longest := by omega
    rw [h4]
    rfl
  unfold measureS
  rw [this]
theorem goT_home {a : EvS} : ∀ (n : Nat) (s : EvS), WfS a s none → LongS s → (∀ i, i < s.groups.length → (s.grp i).place = 4) → (goT n s).groups = s.groups ∧ (goT n s).rides = s.rides ∧ (goT n s).visits = s.visits := by
  intro n
  induction n with
  | zero => intro s _ _ _; exact ⟨rfl, rfl, rfl⟩
  | succ n ih =>
    intro s hw hl h
    have hq : ∀ r, (s.rd r).q = [] := fun r => by
      rcases e : (s.rd r).q with _ | ⟨i, l⟩
      · rfl
      · have hm : i ∈ (s.rd r).q := by rw [e]; exact List.mem_cons_self
        obtain ⟨h1, _, h3, _⟩ := hw.que r i hm
        have := h i h1
        omega
    have ht : tickS s = s := (tick_over hw h).trans (measure_same hl hq)
    show (goT n { tickS s with now := s.now + 1 }).groups = _ ∧ (goT n { tickS s with now := s.now + 1 }).rides = _ ∧ (goT n { tickS s with now := s.now + 1 }).visits = _
    rw [ht]
    exact ih _ (wf_now hw _) hl h
theorem goT_all {a : EvS} (hB : BigS a) : ∀ (n : Nat) (s : EvS), BothS a s → LongS s → (goT n s).groups = (ticksS n s).groups ∧ (goT n s).rides = (ticksS n s).rides ∧ (goT n s).visits = (ticksS n s).visits := by
  intro n
  induction n with
  | zero => intro s _ _; exact ⟨rfl, rfl, rfl⟩
  | succ n ih =>
    intro s hb hl
    simp only [ticksS]
    split
    · rename_i h
      exact goT_home (n + 1) s hb.1 hl fun i hi => over_all h hi
    · have ht := both_tick hB.wish hb
      have hlm : LongS (tickS s) := by
        have k := fit_of hB ht
        unfold tickS at k ⊢
        exact long_measure k
      have hn : (tickS s).now = s.now := now_tick s
      have e : goT (n + 1) s = goT n { tickS s with now := s.now + 1 } := rfl
      rw [e]
      generalize tickS s = t at ht hlm hn ⊢
      exact ih { t with now := s.now + 1 } ⟨wf_now ht.1 _, his_now ht.2 _ (by omega)⟩ hlm
/-- The specification's evening, and what it says. -/
theorem play_ok (f : EveZ) (l : List GrpZ) (h : checkQ f l = 0) : ∃ x9, PlayOk f l x9 ∧ (∀ r, r < f.rides.length → x9.tab 2 r = ((eveS f l).rd r).taken ∧ x9.tab 3 r = ((eveS f l).rd r).longest) ∧ (∀ i, i < l.length → x9.tab 4 i = ((eveS f l).grp i).home ∧ x9.gu i 3 = ((eveS f l).grp i).tok) ∧ x9.vis = (eveS f l).visits ∧ (eveS f l).rides.length = f.rides.length ∧ (eveS f l).groups.length = l.length := by
  have hc : eveB f = true ∧ grpsB f.rides.length l = true := by
    unfold checkQ at h
    by_cases h1 : eveB f = false
    · rw [if_pos h1] at h; omega
    · rw [if_neg h1] at h
      by_cases h2 : grpsB f.rides.length l = false
      · rw [if_pos h2] at h; omega
      · exact ⟨by simpa using h1, by simpa using h2⟩
  obtain ⟨h1, h2⟩ := hc
  have hS := stat_ok h1 h2
  obtain ⟨b1, b2⟩ := big_start h1 h2
  obtain ⟨D, hDf, hDl⟩ : ∃ D : RfE, D.f = f ∧ D.l = l := ⟨⟨0, 0, 0, 0, fun _ => 0, none, none, 0, 0, [], none, none, fun _ => none, 0, 0, fun _ => 0, f, l, []⟩, rfl, rfl⟩
  obtain ⟨N, hN⟩ : ∃ N, N = 4000 := ⟨_, rfl⟩
  obtain ⟨y, P, k1, k2⟩ := ticks_both b1 (hS D hDf hDl) N _ _ 0 _ _ (tk_start h1 h2 hDf hDl) (by omega)
  have g := goT_all b1 (N + 1) (startS f l) b2 (fun y hy => by
    obtain ⟨z, _, hz⟩ := List.mem_map.1 hy
    rw [← hz]
    exact Int.le_refl _)
  have hN1 : 4001 = N + 1 := by omega
  have e : eveS f l = ticksS (N + 1) (startS f l) := by
    unfold eveS
    rw [hN1]
  rw [← e] at g
  have gr : ∀ r, (goT (N + 1) (startS f l)).rd r = (eveS f l).rd r := fun r => by unfold EvS.rd; rw [g.2.1]
  have gg : ∀ i, (goT (N + 1) (startS f l)).grp i = (eveS f l).grp i := fun i => by unfold EvS.grp; rw [g.1]
  have n1 : (goT (N + 1) (startS f l)).rides.length = f.rides.length := by rw [k2.nR, hDf]
  have n2 : (goT (N + 1) (startS f l)).groups.length = l.length := by rw [k2.nG, hDl]
  refine ⟨y, ⟨hS, N + 1, by omega, fun E hEf hEl => playGo_same (hDf.trans hEf.symm) (hDl.trans hEl.symm) _ _ _ k1⟩, fun r hr => ⟨?_, ?_⟩, fun i hi => ⟨?_, ?_⟩, ?_, ?_, ?_⟩
  · rw [← gr]; exact k2.ta r (by rw [n1]; exact hr)
  · rw [← gr]; exact k2.li r (by rw [n1]; exact hr)
  · rw [← gg]; exact k2.ho i (by rw [n2]; exact hi)
  · rw [← gg]; exact k2.tk i (by rw [n2]; exact hi)
  · rw [← g.2.2]; exact k2.vis
  · rw [← g.2.1]; exact n1
  · rw [← g.1]; exact n2
end Go.Proofs.Ytijbhcdnbaaobaa
