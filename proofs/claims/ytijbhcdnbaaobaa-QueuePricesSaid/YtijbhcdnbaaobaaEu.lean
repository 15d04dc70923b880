/- An evening of layer 7, plainly: who is on a ride together has room, in a whole evening. No program, no memory. -/
import Derived.Test.YtijbhcdnbaaobaaHf
/- An evening of layer 7, plainly: who is on a ride together has room together. No program, no memory. -/
namespace Go.Proofs.Ytijbhcdnbaaobaa

def crowd (sz : Nat → Int) (r : Nat) (t : Int) : List VisZ → Int
  | [] => 0
  | v :: l => (if v.on = true ∧ v.ride = r ∧ v.left = t then sz v.group else 0) + crowd sz r t l
theorem crowd_snoc (sz : Nat → Int) (r : Nat) (t : Int) (v : VisZ) : ∀ l, crowd sz r t (l ++ [v]) = crowd sz r t l + (if v.on = true ∧ v.ride = r ∧ v.left = t then sz v.group else 0) := by
  intro l
  induction l with
  | nil => simp [crowd]
  | cons x l ih => simp only [List.cons_append, crowd, ih]; omega
theorem crowd_none (sz : Nat → Int) (r : Nat) (t : Int) : ∀ l : List VisZ, (∀ v ∈ l, v.on = true → v.ride = r → v.left ≠ t) → crowd sz r t l = 0 := by
  intro l
  induction l with
  | nil => intro _; rfl
  | cons x l ih =>
    intro h
    simp only [crowd, ih (fun v hv => h v (List.mem_cons_of_mem _ hv))]
    rw [if_neg (fun e => h x List.mem_cons_self e.1 e.2.1 e.2.2)]
    rfl
def sizeS (a : EvS) (i : Nat) : Int := (a.grp i).g.size
def restS (a : EvS) (r : Nat) : Int := (a.rd r).b.cycle + (a.rd r).b.pause
/-- The visits with On at a ride; left: how many seats are free while it is being filled. -/
structure RoomS (a s : EvS) (r : Nat) (left : Option Int) : Prop where
  cap : ∀ t, crowd (sizeS a) r t s.visits ≤ (a.rd r).b.seats
  past : left = none → ∀ v ∈ s.visits, v.on = true → v.ride = r → v.left + restS a r ≤ (s.rd r).ready
  now : left ≠ none → ∀ v ∈ s.visits, v.on = true → v.ride = r → v.left = s.now ∨ v.left + restS a r ≤ s.now
  apart : ∀ v ∈ s.visits, ∀ w ∈ s.visits, v.on = true → w.on = true → v.ride = r → w.ride = r → v.left = w.left ∨ v.left + restS a r ≤ w.left ∨ w.left + restS a r ≤ v.left
  fill : ∀ n, left = some n → crowd (sizeS a) r s.now s.visits + n = (a.rd r).b.seats ∧ 0 ≤ n ∧ (n < (a.rd r).b.seats ∨ ∀ v ∈ s.visits, v.on = true → v.ride = r → v.left ≠ s.now)
theorem room_same {a s t : EvS} {r : Nat} {left : Option Int} (h : RoomS a s r left) (hv : t.visits = s.visits) (hn : t.now = s.now) (hr : (t.rd r).ready = (s.rd r).ready) : RoomS a t r left :=
  ⟨by rw [hv]; exact h.cap, by rw [hv, hr]; exact h.past, by rw [hv, hn]; exact h.now, by rw [hv]; exact h.apart, by rw [hv, hn]; exact h.fill⟩
/-- A visit that does not get on here changes nothing here. -/
theorem room_off {a s t : EvS} {r : Nat} {left : Option Int} {x : VisZ} (h : RoomS a s r left) (hx : ¬ (x.on = true ∧ x.ride = r)) (hv : t.visits = s.visits ++ [x]) (hn : t.now = s.now) (hr : (t.rd r).ready = (s.rd r).ready) : RoomS a t r left := by
  have hc : ∀ u, crowd (sizeS a) r u t.visits = crowd (sizeS a) r u s.visits := fun u => by
    rw [hv, crowd_snoc, if_neg (fun e => hx ⟨e.1, e.2.1⟩)]
    omega
  have hm : ∀ v ∈ t.visits, v.on = true → v.ride = r → v ∈ s.visits := fun v hv' e1 e2 => by
    rw [hv] at hv'
    rcases List.mem_append.1 hv' with h1 | h1
    · exact h1
    · rw [List.mem_singleton] at h1
      rw [h1] at e1 e2
      exact absurd ⟨e1, e2⟩ hx
  refine ⟨fun u => by rw [hc]; exact h.cap u, fun hl v hv' e1 e2 => by rw [hr]; exact h.past hl v (hm v hv' e1 e2) e1 e2, fun hl v hv' e1 e2 => by rw [hn]; exact h.now hl v (hm v hv' e1 e2) e1 e2, fun v hv' w hw e1 e2 e3 e4 => h.apart v (hm v hv' e1 e3) w (hm w hw e2 e4) e1 e2 e3 e4, fun n e => ?_⟩
  obtain ⟨u1, u2, u3⟩ := h.fill n e
  rw [hc, hn]
  exact ⟨u1, u2, u3.imp id fun k v hv' e1 e2 => k v (hm v hv' e1 e2) e1 e2⟩
/-- A visit that gets on here. -/
theorem room_on {a s t : EvS} {r : Nat} {n : Int} {x : VisZ} (h : RoomS a s r (some n)) (hx : x.ride = r) (ho : x.on = true) (hl : x.left = s.now) (h1 : 1 ≤ sizeS a x.group) (h2 : sizeS a x.group ≤ n) (hv : t.visits = s.visits ++ [x]) (hn : t.now = s.now) : RoomS a t r (some (n - sizeS a x.group)) := by
  obtain ⟨u1, u2, u3⟩ := h.fill n rfl
  have hc : ∀ u, crowd (sizeS a) r u t.visits = crowd (sizeS a) r u s.visits + (if s.now = u then sizeS a x.group else 0) := fun u => by
    rw [hv, crowd_snoc, hx, ho, hl]
    simp
  have hm : ∀ v ∈ t.visits, v ∈ s.visits ∨ v = x := fun v hv' => by
    rw [hv] at hv'
    rcases List.mem_append.1 hv' with k | k
    · exact .inl k
    · exact .inr (List.mem_singleton.1 k)
  refine ⟨fun u => ?_, (fun e => by cases e), fun _ v hv' e1 e2 => ?_, fun v hv' w hw e1 e2 e3 e4 => ?_, fun m e => ?_⟩
  · rw [hc]
    have := h.cap u
    split
    · rename_i e
      rw [← e]
      omega
    · omega
  · rw [hn]
    rcases hm v hv' with k | k
    · exact h.now (by simp) v k e1 e2
    · rw [k]; exact .inl hl
  · rcases hm v hv' with k | k <;> rcases hm w hw with k' | k'
    · exact h.apart v k w k' e1 e2 e3 e4
    · rw [k', hl]
      rcases h.now (by simp) v k e1 e3 with z | z
      · exact .inl z
      · exact .inr (.inl z)
    · rw [k, hl]
      rcases h.now (by simp) w k' e2 e4 with z | z
      · exact .inl z.symm
      · exact .inr (.inr z)
    · rw [k, k']; exact .inl rfl
  · cases e
    rw [hn, hc, if_pos rfl]
    refine ⟨by omega, by omega, .inl ?_⟩
    rcases u3 with u3 | u3
    · omega
    · have := crowd_none (sizeS a) r s.now s.visits u3
      omega
end Go.Proofs.Ytijbhcdnbaaobaa
namespace Go.Proofs.Ytijbhcdnbaaobaa

theorem ready_modG (s : EvS) (i : Nat) (g : GpS → GpS) (r : Nat) : (s.modG i g).rd r = s.rd r := rfl
theorem ready_modR (s : EvS) (k : Nat) (g : RdS → RdS) (hg : ∀ x, (g x).ready = x.ready) (r : Nat) : ((s.modR k g).rd r).ready = (s.rd r).ready := by
  unfold EvS.rd EvS.modR
  simp only [List.getD_eq_getElem?_getD, List.getElem?_modify]
  by_cases h : k = r
  · subst h
    cases h2 : s.rides[k]? with
    | none => simp
    | some x => simp [hg]
  · simp [h]
theorem ready_stand (s : EvS) (i r : Nat) : ((standS s i).rd r).ready = (s.rd r).ready := by
  unfold standS
  rw [ready_modG]
  refine ready_modR _ _ _ ?_ r
  exact fun _ => rfl
theorem ready_goOn (s : EvS) (i r : Nat) : ((goOnS s i).rd r).ready = (s.rd r).ready := by
  unfold goOnS
  dsimp only
  split
  · rfl
  · split
    · exact ready_stand _ i r
    · rfl
theorem ready_leave (s : EvS) (i : Nat) (on : Bool) (r : Nat) : ((leaveS s i on).rd r).ready = (s.rd r).ready :=
  ready_modR s (s.grp i).goal (fun x => { x with q := x.q.filter (· ≠ i) }) (fun _ => rfl) r
theorem now_goOn (s : EvS) (i : Nat) : (goOnS s i).now = s.now ∧ (goOnS s i).visits = s.visits := by
  unfold goOnS
  dsimp only
  split
  · exact ⟨rfl, rfl⟩
  · split
    · exact ⟨by simp [standS, EvS.modG, EvS.modR], by simp [standS, EvS.modG, EvS.modR]⟩
    · exact ⟨rfl, rfl⟩
theorem room_goOn {a s : EvS} {r : Nat} {n : Option Int} (h : RoomS a s r n) (i : Nat) : RoomS a (goOnS s i) r n := room_same h (now_goOn s i).2 (now_goOn s i).1 (ready_goOn s i r)
theorem room_stand {a s : EvS} {r : Nat} {n : Option Int} (h : RoomS a s r n) (i : Nat) : RoomS a (standS s i) r n := room_same h (by simp [standS, EvS.modG, EvS.modR]) (by simp [standS, EvS.modG, EvS.modR]) (ready_stand s i r)
theorem room_giveUp {a s : EvS} {r : Nat} {n : Option Int} (h : RoomS a s r n) (i : Nat) : RoomS a (giveUpS s i) r n :=
  room_goOn (room_off (t := leaveS s i false) (x := ⟨i, (s.grp i).want, (s.grp i).goal, false, (s.grp i).came, s.now⟩) h (by simp) rfl rfl (ready_leave s i false r)) i
theorem ready_getOn (s : EvS) (i r : Nat) : ((getOnS s i).rd r).ready = (s.rd r).ready := by
  exact (ready_modR ((leaveS s i true).modG i fun g => { g with tok := g.tok - costS s i (s.grp i).goal, place := 3, til := s.now + (s.rd (s.grp i).goal).b.cycle }) (s.grp i).goal (fun x => { x with taken := x.taken + costS s i (s.grp i).goal }) (fun _ => rfl) r).trans (ready_leave s i true r)
theorem room_getOff {a s : EvS} {r : Nat} {n : Option Int} (h : RoomS a s r n) (i : Nat) (hr : (s.grp i).goal ≠ r) : RoomS a (getOnS s i) r n :=
  room_off (t := getOnS s i) (x := ⟨i, (s.grp i).want, (s.grp i).goal, true, (s.grp i).came, s.now⟩) h (fun e => hr e.2) rfl rfl (ready_getOn s i r)
theorem room_getOn {a s : EvS} {r : Nat} {n : Int} (h : RoomS a s r (some n)) (i : Nat) (hr : (s.grp i).goal = r) (h1 : 1 ≤ sizeS a i) (h2 : sizeS a i ≤ n) : RoomS a (getOnS s i) r (some (n - sizeS a i)) :=
  room_on (t := getOnS s i) (x := ⟨i, (s.grp i).want, (s.grp i).goal, true, (s.grp i).came, s.now⟩) h hr rfl rfl h1 h2 rfl rfl
/-- All rides, while none is being filled. -/
def AllRoom (a s : EvS) : Prop := ∀ r, RoomS a s r none
theorem room_due {a : EvS} {f : EvS → Nat → EvS} (hf : ∀ s i, AllRoom a s → AllRoom a (f s i)) (p : Nat) {s : EvS} (h : AllRoom a s) : AllRoom a (forDueS p f s) := by
  unfold forDueS
  generalize List.range s.groups.length = l
  induction l generalizing s with
  | nil => exact h
  | cons i l ih =>
    rw [List.foldl_cons]
    refine ih ?_
    split
    · exact hf _ _ h
    · exact h
/-- While ride r is filled: how it stands with r and with the others; and nobody but those of this tick is still on it. -/
structure FillR (a : EvS) (r : Nat) (rdy : Int) (left : Int) (s : EvS) : Prop where
  here : RoomS a s r (some left)
  other : ∀ r', r' ≠ r → RoomS a s r' none
  rd : (s.rd r).ready = rdy
  old : ∀ v ∈ s.visits, v.on = true → v.ride = r → v.left = s.now ∨ v.left + restS a r ≤ rdy
theorem fillR_give {a s : EvS} {r : Nat} {rdy left : Int} (h : FillR a r rdy left s) (i : Nat) : FillR a r rdy left (giveUpS s i) := by
  have e1 : (giveUpS s i).visits = s.visits ++ [⟨i, (s.grp i).want, (s.grp i).goal, false, (s.grp i).came, s.now⟩] := (now_goOn _ i).2
  have e2 : (giveUpS s i).now = s.now := (now_goOn _ i).1
  refine ⟨room_giveUp h.here i, fun r' hr => room_giveUp (h.other r' hr) i, ?_, fun v hv e3 e4 => ?_⟩
  · rw [← h.rd]
    exact (ready_goOn _ i r).trans (ready_leave s i false r)
  · rw [e1] at hv
    rw [e2]
    rcases List.mem_append.1 hv with k | k
    · exact h.old v k e3 e4
    · rw [List.mem_singleton] at k
      rw [k] at e3
      cases e3
theorem fillR_get {a s : EvS} {r : Nat} {rdy left : Int} (h : FillR a r rdy left s) (i : Nat) (hr : (s.grp i).goal = r) (h1 : 1 ≤ sizeS a i) (h2 : sizeS a i ≤ left) : FillR a r rdy (left - sizeS a i) (getOnS s i) := by
  refine ⟨room_getOn h.here i hr h1 h2, fun r' hr' => room_getOff (h.other r' hr') i (by rw [hr]; exact Ne.symm hr'), (ready_getOn s i r).trans h.rd, fun v hv e3 e4 => ?_⟩
  have e1 : (getOnS s i).visits = s.visits ++ [⟨i, (s.grp i).want, (s.grp i).goal, true, (s.grp i).came, s.now⟩] := rfl
  rw [e1] at hv
  rcases List.mem_append.1 hv with k | k
  · exact h.old v k e3 e4
  · rw [List.mem_singleton] at k
    rw [k]
    exact .inl rfl
theorem fillR_all {a : EvS} (hv : ValS a) (hsz : ∀ i, i < a.groups.length → 1 ≤ sizeS a i) (r : Nat) (rdy : Int) : ∀ (l : List Nat) (left : Int) (s : EvS), FillR a r rdy left s → BothS a s → l.Nodup → (∀ j ∈ l, j < s.groups.length ∧ (s.grp j).place = 2 ∧ (s.grp j).goal = r) → FillR a r rdy (fillS r l left s).2 (fillS r l left s).1 ∧ (fillS r l left s).1.now = s.now := by
  intro l
  induction l with
  | nil => intro left s h _ _ _; exact ⟨h, rfl⟩
  | cons i l ih =>
    intro left s h hb hn hl
    obtain ⟨hi, hp, hg⟩ := hl i List.mem_cons_self
    rw [List.nodup_cons] at hn
    have rest : ∀ t : EvS, t.groups.length = s.groups.length → (∀ j, j ≠ i → t.grp j = s.grp j) → ∀ j ∈ l, j < t.groups.length ∧ (t.grp j).place = 2 ∧ (t.grp j).goal = r := fun t hlen ho j hj => by
      have hji : j ≠ i := fun e => hn.1 (e ▸ hj)
      rw [hlen, ho j hji]
      exact hl j (List.mem_cons_of_mem _ hj)
    have hs : (s.grp i).g.size = sizeS a i := by
      unfold sizeS
      rw [fix_grp hb.1.fix i]
    have hi' : i < a.groups.length := by rw [← (fix_len hb.1.fix).1]; exact hi
    simp only [fillS]
    split
    · have hw := wf_giveUp hb.1 hv hi hp
      have := ih left _ (fillR_give h i) ⟨hw, all_giveUp hb.1 hb.2 hi hp⟩ hn.2 (rest _ (by rw [(fix_len hw.fix).1, (fix_len hb.1.fix).1]) fun j hj => giveUp_other s hi hj)
      exact ⟨this.1, this.2.trans (now_goOn _ i).1⟩
    · rename_i hc
      split
      · rename_i hle
        have hw := wf_getOn hb.1 hv hi hp (by rw [hg]; omega)
        rw [hs] at hle ⊢
        exact ih _ _ (fillR_get h i hg (hsz i hi') hle) ⟨hw, all_getOn hb.1 hb.2 hi hp⟩ hn.2 (rest _ (by rw [(fix_len hw.fix).1, (fix_len hb.1.fix).1]) fun j hj => getOn_other s hi hj)
      · split
        · exact ⟨h, rfl⟩
        · exact ih left s h hb hn.2 (rest s rfl fun _ _ => rfl)
/-- A ride that may begin. -/
theorem fillR_start {a s : EvS} {r : Nat} (h : AllRoom a s) (hs : 0 ≤ (a.rd r).b.seats) (hc : 1 ≤ restS a r) (hrdy : (s.rd r).ready ≤ s.now) : FillR a r (s.rd r).ready (a.rd r).b.seats s := by
  have hp := (h r).past rfl
  have hne : ∀ v ∈ s.visits, v.on = true → v.ride = r → v.left ≠ s.now := fun v hv e1 e2 => by
    have := hp v hv e1 e2
    omega
  refine ⟨⟨(h r).cap, (fun e => by cases e), fun _ v hv e1 e2 => .inr ?_, (h r).apart, fun n e => ?_⟩, fun r' _ => h r', rfl, fun v hv e1 e2 => .inr (hp v hv e1 e2)⟩
  · have := hp v hv e1 e2
    omega
  · cases e
    refine ⟨?_, hs, .inr hne⟩
    rw [crowd_none (sizeS a) r s.now s.visits hne]
    omega
theorem room_rbeg {a s : EvS} (hv : ValS a) (hsz : ∀ i, i < a.groups.length → 1 ≤ sizeS a i) (r : Nat) (hs : 0 ≤ (a.rd r).b.seats) (hc : 1 ≤ restS a r) (hr : r < s.rides.length) (h : AllRoom a s) (hb : BothS a s) : AllRoom a (rbegS s r) ∧ (rbegS s r).now = s.now := by
  unfold rbegS
  split
  · rename_i hrdy
    have hsr : (s.rd r).b = (a.rd r).b := fix_rd hb.1.fix r
    have hlen := hr
    have key := fillR_all hv hsz r (s.rd r).ready (s.rd r).q (s.rd r).b.seats s (by rw [hsr]; exact fillR_start h hs hc hrdy) hb (hb.1.nod r) (fun j hj => by
      obtain ⟨h1, _, h3, h4⟩ := hb.1.que r j hj
      exact ⟨h1, h3, h4⟩)
    have hbf := both_fill hv r (s.rd r).q (s.rd r).b.seats s hb (hb.1.nod r) (fun j hj => by
      obtain ⟨h1, _, h3, h4⟩ := hb.1.que r j hj
      exact ⟨h1, h3, h4⟩)
    generalize fillS r (s.rd r).q (s.rd r).b.seats s = t at key hbf
    obtain ⟨t, left⟩ := t
    dsimp only at key hbf ⊢
    obtain ⟨kf, kn⟩ := key
    have htb : (t.rd r).b = (a.rd r).b := fix_rd hbf.1.fix r
    split
    · refine ⟨fun r' => ?_, kn⟩
      by_cases e : r' = r
      · subst e
        have hrt : r' < t.rides.length := by rw [(fix_len hbf.1.fix).2, ← (fix_len hb.1.fix).2]; exact hlen
        have e1 : ((t.modR r' fun x => { x with ready := s.now + x.b.cycle + x.b.pause }).rd r').ready = s.now + restS a r' := by
          have : (t.modR r' fun x => { x with ready := s.now + x.b.cycle + x.b.pause }).rd r' = { t.rd r' with ready := s.now + (t.rd r').b.cycle + (t.rd r').b.pause } := by
            unfold EvS.rd EvS.modR
            simp only [List.getD_eq_getElem?_getD, List.getElem?_modify, List.getElem?_eq_getElem hrt]
            simp
          rw [this]
          show s.now + (t.rd r').b.cycle + (t.rd r').b.pause = _
          rw [htb]
          unfold restS
          omega
        refine ⟨kf.here.cap, fun _ v hv' e2 e3 => ?_, (fun e => absurd rfl e), kf.here.apart, (fun n e => by cases e)⟩
        rw [e1]
        rcases kf.old v hv' e2 e3 with z | z
        · rw [kn] at z; omega
        · omega
      · refine room_same (kf.other r' e) rfl rfl ?_
        unfold EvS.rd EvS.modR
        simp only [List.getD_eq_getElem?_getD, List.getElem?_modify, show ¬ r = r' from fun x => e x.symm]
        simp
    · rename_i hge
      refine ⟨fun r' => ?_, kn⟩
      by_cases e : r' = r
      · subst e
        refine ⟨kf.here.cap, fun _ v hv' e2 e3 => ?_, (fun e => absurd rfl e), kf.here.apart, (fun n e => by cases e)⟩
        obtain ⟨u1, u2, u3⟩ := kf.here.fill left rfl
        rw [kf.rd]
        rcases kf.old v hv' e2 e3 with z | z
        · rcases u3 with u3 | u3
          · rw [hsr] at hge; omega
          · exact absurd z (u3 v hv' e2 e3)
        · exact z
      · exact kf.other r' e
  · exact ⟨h, rfl⟩
/-- What the seats ask of an evening's beginning. -/
structure SeatA (a : EvS) : Prop where
  val : ValS a
  size : ∀ i, i < a.groups.length → 1 ≤ sizeS a i
  ride : ∀ r, r < a.rides.length → 0 ≤ (a.rd r).b.seats ∧ 1 ≤ restS a r
theorem room_rbegs {a s : EvS} (hA : SeatA a) (h : AllRoom a s) (hb : BothS a s) : AllRoom a (rbegsS s) := by
  unfold rbegsS
  have hl : ∀ r ∈ List.range s.rides.length, r < a.rides.length := fun r hr => by
    rw [← (fix_len hb.1.fix).2]
    exact List.mem_range.1 hr
  generalize List.range s.rides.length = l at hl
  induction l generalizing s with
  | nil => exact h
  | cons r l ih =>
    have hr := hl r List.mem_cons_self
    have hrs : r < s.rides.length := by rw [(fix_len hb.1.fix).2]; exact hr
    have h1 := room_rbeg hA.val hA.size r (hA.ride r hr).1 (hA.ride r hr).2 hrs h hb
    exact ih h1.1 (both_rbeg hA.val r hb) fun x hx => hl x (List.mem_cons_of_mem _ hx)
theorem room_measure {a s : EvS} (h : AllRoom a s) : AllRoom a (measureS s) := fun r => room_same (h r) rfl rfl (by
  unfold measureS EvS.rd
  simp only [List.getD_eq_getElem?_getD, List.getElem?_map]
  cases s.rides[r]? <;> rfl)
theorem room_tick {a s : EvS} (hA : SeatA a) (h : AllRoom a s) (hb : BothS a s) : AllRoom a (tickS s) := by
  have len : ∀ s, (BothS a s ∧ AllRoom a s) → s.groups.length = a.groups.length := fun _ h => (fix_len h.1.1.fix).1
  have go : ∀ p, p = 0 ∨ p = 3 → ∀ s i, (BothS a s ∧ AllRoom a s) → i < s.groups.length → (s.grp i).place = p → (s.grp i).til = s.now → (BothS a (goOnS s i) ∧ AllRoom a (goOnS s i)) :=
    fun p hp s i h hi hpl ht => ⟨both_go hA.val h.1 hi (by omega) ht, fun r => room_goOn (h.2 r) i⟩
  have st : ∀ s i, (BothS a s ∧ AllRoom a s) → i < s.groups.length → (s.grp i).place = 1 → (s.grp i).til = s.now → (BothS a (standS s i) ∧ AllRoom a (standS s i)) :=
    fun s i h hi hpl ht => ⟨both_st hA.val h.1 hi hpl ht, fun r => room_stand (h.2 r) i⟩
  have gu : ∀ s i, (BothS a s ∧ AllRoom a s) → i < s.groups.length → (s.grp i).place = 2 → (s.grp i).til = s.now → (BothS a (giveUpS s i) ∧ AllRoom a (giveUpS s i)) :=
    fun s i h hi hpl _ => ⟨both_gu hA.val h.1 hi hpl, fun r => room_giveUp (h.2 r) i⟩
  have h4 := forDue_keep (P := fun s => BothS a s ∧ AllRoom a s) len gu (forDue_keep (P := fun s => BothS a s ∧ AllRoom a s) len st (forDue_keep (P := fun s => BothS a s ∧ AllRoom a s) len (go 0 (.inl rfl)) (forDue_keep (P := fun s => BothS a s ∧ AllRoom a s) len (go 3 (.inr rfl)) ⟨hb, h⟩)))
  have h5 := room_rbegs hA h4.2 h4.1
  unfold tickS
  exact room_measure h5
theorem room_now {a s : EvS} (h : AllRoom a s) (n : Int) : AllRoom a { s with now := n } := fun r => ⟨(h r).cap, (h r).past, (fun e => absurd rfl e), (h r).apart, (fun n e => by cases e)⟩
end Go.Proofs.Ytijbhcdnbaaobaa
