/- An evening of layer 7, plainly: what the statement about seats looks at is so. No program, no memory. -/
import Derived.Test.YtijbhcdnbaaobaaEu
namespace Go.Proofs.Ytijbhcdnbaaobaa

theorem room_ticks {a : EvS} (hA : SeatA a) : ∀ n s, AllRoom a s → BothS a s → AllRoom a (ticksS n s) := by
  intro n
  induction n with
  | zero => intro s h _; exact h
  | succ n ih =>
    intro s h hb
    simp only [ticksS]
    split
    · exact h
    · have ht := room_tick hA h hb
      have hbt := both_tick hA.val hb
      have hn := now_tick s
      generalize tickS s = t at ht hbt hn ⊢
      refine ih _ (room_now ht _) ⟨wf_now hbt.1 _, his_now hbt.2 _ ?_⟩
      rw [hn]
      omega
theorem crowd_perm (sz : Nat → Int) (r : Nat) (t : Int) {l l' : List VisZ} (h : l.Perm l') : crowd sz r t l = crowd sz r t l' := by
  induction h with
  | nil => rfl
  | cons v _ ih => simp only [crowd, ih]
  | swap x y l => simp only [crowd]; omega
  | trans _ _ h1 h2 => exact h1.trans h2
/-- A group's visits, one behind the other. -/
theorem chain_pair {cyc : Nat → Int} {walk : Int} {g : GrpZ} (hw : 0 ≤ walk) (hc : ∀ r, 0 ≤ cyc r) : ∀ (l : List VisZ) (t n : Int), chainV cyc walk g t n l → ∀ v ∈ l, ∀ w ∈ l, w.want = v.want + 1 → w.came = doneV cyc v + walk := by
  intro l
  induction l with
  | nil => intro t n _ v hv; cases hv
  | cons x l ih =>
    intro t n h v hv w hw' e
    obtain ⟨⟨h1, h2, h3, h4⟩, h5⟩ := h
    have low := chain_low hw hc l _ _ h5
    rcases List.mem_cons.1 hv with rfl | hv2
    · rcases List.mem_cons.1 hw' with rfl | hw2
      · omega
      · cases l with
        | nil => cases hw2
        | cons y l =>
          obtain ⟨⟨k1, k2, k3, k4⟩, k5⟩ := h5
          rcases List.mem_cons.1 hw2 with rfl | hw3
          · exact k2
          · have := (chain_low hw hc l _ _ k5 w hw3).1
            omega
    · rcases List.mem_cons.1 hw' with rfl | hw2
      · have := (low v hv2).1
        omega
      · exact ih _ _ h5 v hv2 w hw2 e
/-- A visit's ride is its wish. -/
theorem chain_ride {cyc : Nat → Int} {walk : Int} {g : GrpZ} : ∀ (l : List VisZ) (t n : Int), chainV cyc walk g t n l → ∀ v ∈ l, v.ride = (g.wants.getD v.want.toNat 0).toNat ∧ v.came ≤ v.left := by
  intro l
  induction l with
  | nil => intro t n _ v hv; cases hv
  | cons x l ih =>
    intro t n h v hv
    obtain ⟨⟨h1, h2, h3, h4⟩, h5⟩ := h
    rcases List.mem_cons.1 hv with rfl | hv
    · exact ⟨h4, h3⟩
    · exact ih _ _ h5 v hv
/-- How many are on a ride with a visit, as the statement counts them: all of a list. -/
def onL (cyc : Nat → Int) (sz : Nat → Int) (v : VisZ) : List VisZ → Int
  | [] => 0
  | w :: l => (if w.ride = v.ride ∧ w.on = true ∧ v.on = true ∧ w.left ≤ v.left ∧ v.left < w.left + cyc v.ride then sz w.group else 0) + onL cyc sz v l
theorem onL_crowd {cyc : Nat → Int} {sz : Nat → Int} {v : VisZ} (hon : v.on = true) (hc : 1 ≤ cyc v.ride) : ∀ l : List VisZ, (∀ w ∈ l, w.on = true → w.ride = v.ride → v.left = w.left ∨ v.left + cyc v.ride ≤ w.left ∨ w.left + cyc v.ride ≤ v.left) → onL cyc sz v l = crowd sz v.ride v.left l := by
  intro l
  induction l with
  | nil => intro _; rfl
  | cons w l ih =>
    intro h
    simp only [onL, crowd, ih fun x hx => h x (List.mem_cons_of_mem _ hx)]
    congr 1
    by_cases e : w.on = true ∧ w.ride = v.ride ∧ w.left = v.left
    · rw [if_pos e, if_pos ⟨e.2.1, e.1, hon, by omega, by omega⟩]
    · rw [if_neg e, if_neg]
      rintro ⟨a1, a2, _, a3, a4⟩
      have := h w List.mem_cons_self a2 a1
      exact e ⟨a2, a1, by omega⟩
theorem onL_off {cyc : Nat → Int} {sz : Nat → Int} {v : VisZ} (hon : v.on = false) : ∀ l : List VisZ, onL cyc sz v l = 0 := by
  intro l
  induction l with
  | nil => rfl
  | cons w l ih => simp [onL, ih, hon]
/-- What the statement about seats looks at, for one visit. -/
structure SeatOk (f : EveZ) (l : List GrpZ) (L : List VisZ) (v : VisZ) : Prop where
  ride : v.ride < f.rides.length
  group : v.group < l.length
  want : 0 ≤ v.want ∧ v.want < ((l.getD v.group default).wants.length : Int)
  wish : (l.getD v.group default).wants.getD v.want.toNat 0 = (v.ride : Int)
  wait : 0 ≤ v.left - v.came ∧ v.left - v.came ≤ (l.getD v.group default).patience + 1 ∧ (v.on = true → v.left - v.came ≤ (l.getD v.group default).patience)
  room : onL (fun r => (f.rides.getD r default).cycle) (fun i => (l.getD i default).size) v L ≤ (f.rides.getD v.ride default).seats
  next : ∀ w ∈ L, w.group = v.group → w.want = v.want + 1 → w.came = v.left + (if v.on then (f.rides.getD v.ride default).cycle else 0) + f.walk
theorem mem_getD0 (l : List Int) {k : Nat} (h : k < l.length) : l.getD k 0 ∈ l := by
  rw [List.getD_eq_getElem?_getD, List.getElem?_eq_getElem h]
  exact List.getElem_mem h
theorem seats_ok (f : EveZ) (l : List GrpZ) (ht : ∀ g ∈ l, 0 ≤ g.tokens) (hpt : ∀ g ∈ l, 0 ≤ g.patience) (hsz : ∀ g ∈ l, 1 ≤ g.size) (hw : ∀ g ∈ l, ∀ w ∈ g.wants, 0 ≤ w ∧ w < (f.rides.length : Int)) (h0 : 0 ≤ f.walk) (hb : ∀ b ∈ f.rides, 0 ≤ b.seats ∧ 1 ≤ b.cycle ∧ 0 ≤ b.pause) (L : List VisZ) (hp : L.Perm (eveS f l).visits) : ∀ v ∈ L, SeatOk f l L v := by
  have htri := play_tri f l ht hpt hw
  obtain ⟨⟨hwf, hhis⟩, hwait⟩ := htri
  have hm : ∀ i, i < l.length → l.getD i default ∈ l := fun i hi => by
    rw [List.getD_eq_getElem?_getD, List.getElem?_eq_getElem hi]
    exact List.getElem_mem hi
  have hmr : ∀ r, r < f.rides.length → f.rides.getD r default ∈ f.rides := fun i hi => by
    rw [List.getD_eq_getElem?_getD, List.getElem?_eq_getElem hi]
    exact List.getElem_mem hi
  have hlen : (startS f l).groups.length = l.length := by simp [startS]
  have hrl : (startS f l).rides.length = f.rides.length := by simp [startS]
  have hA : SeatA (startS f l) := by
    refine ⟨fun i hi w hm' => ?_, fun i hi => ?_, fun r hr => ?_⟩
    · rw [start_grp f l (by omega)] at hm'
      have := hw _ (hm i (by omega)) w hm'
      rw [hrl]
      exact this
    · unfold sizeS
      rw [start_grp f l (by omega)]
      exact hsz _ (hm i (by omega))
    · unfold restS
      rw [start_rd f l (by omega)]
      have := hb _ (hmr r (by omega))
      exact ⟨this.1, by show 1 ≤ (f.rides.getD r default).cycle + (f.rides.getD r default).pause; omega⟩
  have hroom : AllRoom (startS f l) (eveS f l) := by
    unfold eveS
    generalize 4001 = m
    refine room_ticks hA m _ (fun r => ⟨fun t => ?_, fun _ v hv => (by cases hv), (fun e => absurd rfl e), fun v hv => (by cases hv), (fun n e => by cases e)⟩) ⟨wf_start f l ht, his_start f l⟩
    show (0 : Int) ≤ _
    by_cases hr : r < (startS f l).rides.length
    · exact (hA.ride r hr).1
    · unfold EvS.rd
      rw [List.getD_eq_getElem?_getD, List.getElem?_eq_none (by omega)]
      decide
  have hcy : ∀ r, 0 ≤ cycS (startS f l) r := fun r => by
    by_cases hr : r < f.rides.length
    · unfold cycS
      rw [start_rd f l hr]
      have := hb _ (hmr r hr)
      show 0 ≤ (f.rides.getD r default).cycle
      omega
    · unfold cycS EvS.rd
      rw [List.getD_eq_getElem?_getD, List.getElem?_eq_none (by omega)]
      decide
  have hgl : (eveS f l).groups.length = l.length := by rw [(fix_len hwf.fix).1, hlen]
  have hrr : (eveS f l).rides.length = f.rides.length := by rw [(fix_len hwf.fix).2, hrl]
  generalize eveS f l = s at *
  intro v hv
  have hvs := hp.mem_iff.1 hv
  have hgr := hwf.vis v hvs
  have hg : v.group < l.length := by omega
  have hr : v.ride < f.rides.length := by omega
  have hch := (hhis v.group (by rw [hlen]; exact hg)).chain
  rw [start_grp f l hg] at hch
  have hcv : cycS (startS f l) v.ride = (f.rides.getD v.ride default).cycle := by
    unfold cycS
    rw [start_rd f l hr]
  have hvo : ∀ w ∈ s.visits, w.group = v.group → w ∈ visOf s v.group := fun w hw' e => List.mem_filter.2 ⟨hw', by simp [e]⟩
  have hvv := hvo v hvs rfl
  obtain ⟨r1, r2⟩ := chain_ride _ _ _ hch v hvv
  have hwt := hwait.vis v hvs
  unfold waitV at hwt
  rw [start_grp f l hg] at hwt
  obtain ⟨w1, w2, w3, w4⟩ := hwt
  have w2' : v.want < ((l.getD v.group default).wants.length : Int) := w2
  have hbr := hb _ (hmr v.ride hr)
  refine ⟨hr, hg, ⟨w1, w2'⟩, ?_, ⟨by omega, w3, w4⟩, ?_, fun w hw' e1 e2 => ?_⟩
  · have hk : v.want.toNat < (l.getD v.group default).wants.length := by omega
    have hx := mem_getD0 (l.getD v.group default).wants hk
    have := (hw _ (hm v.group hg) _ hx).1
    have r1' : v.ride = ((l.getD v.group default).wants.getD v.want.toNat 0).toNat := r1
    omega
  · cases hon : v.on with
    | false =>
      rw [onL_off hon]
      exact hbr.1
    | true =>
      have hrest : restS (startS f l) v.ride = (f.rides.getD v.ride default).cycle + (f.rides.getD v.ride default).pause := by
        unfold restS
        rw [start_rd f l hr]
      have hap := (hroom v.ride).apart
      rw [onL_crowd (cyc := fun r => (f.rides.getD r default).cycle) hon hbr.2.1 L fun w hw' e1 e2 => by
        have := hap v hvs w (hp.mem_iff.1 hw') hon e1 rfl e2
        rw [hrest] at this
        omega]
      rw [crowd_perm _ _ _ hp]
      have hcap := (hroom v.ride).cap v.left
      have hse : ((startS f l).rd v.ride).b.seats = (f.rides.getD v.ride default).seats := by rw [start_rd f l hr]
      rw [hse] at hcap
      have hcr : ∀ L' : List VisZ, (∀ w ∈ L', w.group < l.length) → crowd (fun i => (l.getD i default).size) v.ride v.left L' = crowd (sizeS (startS f l)) v.ride v.left L' := by
        intro L'
        induction L' with
        | nil => intro _; rfl
        | cons w L' ih =>
          intro h
          have hwg := h w List.mem_cons_self
          simp only [crowd, ih fun x hx => h x (List.mem_cons_of_mem _ hx)]
          have : sizeS (startS f l) w.group = (l.getD w.group default).size := by
            unfold sizeS
            rw [start_grp f l hwg]
          rw [this]
      rw [hcr _ fun w hw' => by have := (hwf.vis w hw').1; omega]
      exact hcap
  · have := chain_pair (show 0 ≤ (startS f l).walk from h0) hcy _ _ _ hch v hvv w (hvo w (hp.mem_iff.1 hw') e1) e2
    rw [this]
    unfold doneV
    rw [hcv]
    rfl
end Go.Proofs.Ytijbhcdnbaaobaa
