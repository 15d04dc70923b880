/- A valid evening of queue before its first tick: in plain words, and as play has laid it. -/
import Derived.Test.YtijbhcdnbaaobaaJt
import Derived.Test.YtijbhcdnbaaobaaHt
/- queue's play, its beginning: the rides and the groups are laid. Conditions: the rides and the groups read as data. -/
namespace Go.Proofs.Ytijbhcdnbaaobaa
open Go.RowKit

theorem flat_at {α : Type} (f : α → List Value) (k : Nat) (hk : ∀ x, (f x).length = k) (d : α) : ∀ (l : List α) (i : Nat), i < l.length → ∀ j, j < k → (l.flatMap f)[i * k + j]? = (f (l.getD i d))[j]? := by
  intro l
  induction l with
  | nil => intro i hi; simp at hi
  | cons x l ih =>
    intro i hi j hj
    cases i with
    | zero =>
      rw [Nat.zero_mul, Nat.zero_add, List.flatMap_cons, List.getElem?_append_left (by rw [hk]; exact hj)]
      rfl
    | succ i =>
      have h := ih i (by simpa using hi) j hj
      rw [List.flatMap_cons, List.getElem?_append_right (by rw [hk, Nat.succ_mul]; omega), hk, show (i + 1) * k + j - k = i * k + j by rw [Nat.succ_mul]; omega]
      exact h
theorem flat_len {α : Type} (f : α → List Value) (k : Nat) (hk : ∀ x, (f x).length = k) (l : List α) : (l.flatMap f).length = l.length * k := by
  induction l with
  | nil => simp
  | cons x l ih => rw [List.flatMap_cons, List.length_append, ih, hk, List.length_cons, Nat.succ_mul]; omega
theorem Try.info_ride : (Try.prog.info? 89).map (fun i => (i.zero, i.size, i.bytes)) = some (some (.agg #[.int .i64 0, .int .i64 0, .int .i64 0, .int .i64 0, .bool false, .slice none 0 0, .int .i64 0, .int .i64 0, .int .i64 0]), 9, 88) := by kernel_rfl
theorem Try.info_group : (Try.prog.info? 79).map (fun i => (i.zero, i.size, i.bytes)) = some (some (.agg #[.int .i64 0, .int .i64 0, .int .i64 0, .slice none 0 0, .int .i64 0, .int .i64 0, .int .i64 0, .int .i64 0, .int .i64 0, .int .i64 0]), 10, 96) := by kernel_rfl
def rdL0 (b : Bth) : List Value := [.int .i64 b.seats, .int .i64 b.price, .int .i64 b.cycle, .int .i64 b.pause, .bool b.fill, .slice none 0 0, .int .i64 0, .int .i64 0, .int .i64 0]
def gpL0 (p : Option Addr × Nat) (g : GrpZ) : List Value := [.int .i64 g.at_, .int .i64 g.size, .int .i64 g.tokens, .slice p.1 g.wants.length p.2, .int .i64 g.patience, .int .i64 0, .int .i64 g.at_, .int .i64 (-1), .int .i64 0, .int .i64 (-1)]
/-- The groups' cells up to the k-th. -/
def gpsL0 (rs : List (Option Addr × Nat)) (l : List GrpZ) (k : Nat) : List Value := (List.range k).flatMap fun i => gpL0 (rs.getD i default) (l.getD i default)
theorem gpsL0_succ (rs : List (Option Addr × Nat)) (l : List GrpZ) (k : Nat) : gpsL0 rs l (k + 1) = gpsL0 rs l k ++ gpL0 (rs.getD k default) (l.getD k default) := by
  unfold gpsL0
  rw [List.range_succ, List.flatMap_append]
  simp
theorem rdsL0_succ (l : List Bth) (k : Nat) (h : k < l.length) : (l.take (k + 1)).flatMap rdL0 = (l.take k).flatMap rdL0 ++ rdL0 (l.getD k default) := by
  rw [List.take_succ_eq_append_getElem h, List.flatMap_append]
  simp [h]
/-- What lies in memory while play lays its rides and groups: i rides, j groups. -/
structure LayIn (w : World) (v : Nat) (wr : World) (f : EveZ) (rs : List (Option Addr × Nat)) (l : List GrpZ) (i j : Nat) (ur ug : Value) : Prop where
  vw : w.heap.size ≤ v
  bel : Below w.heap.size w wr
  ev : Row wr v 83 [.int .i64 f.walk, .int .i64 0, ur, ug, .slice none 0 0]
  rd : wr.ownsRow w.heap.size 89 9 ur i ((f.rides.take i).flatMap rdL0)
  gp : wr.ownsRow w.heap.size 79 10 ug j (gpsL0 rs l j)
  r0 : i = 0 → ur = .slice none 0 0
  g0 : j = 0 → ug = .slice none 0 0
section
variable {w wr X Y : World} {v : Nat} {f : EveZ} {rs : List (Option Addr × Nat)} {l : List GrpZ} {i j : Nat} {ur ug u : Value}
theorem LayIn.grow (h : LayIn w v wr f rs l i j ur ug) (hb : Below wr.heap.size wr X) : LayIn w v X f rs l i j ur ug :=
  ⟨h.vw, h.bel.trans (hb.mono h.bel.size), h.ev.below hb h.ev.lt, own_keep h.rd hb, own_keep h.gp hb, h.r0, h.g0⟩
theorem LayIn.atR (h : LayIn w v wr f rs l i j ur ug) (hX : wr.grownBy X ur.ownBlock) (ho : X.ownsRow w.heap.size 89 9 u (i + 1) ((f.rides.take (i + 1)).flatMap rdL0)) :
    (X.frozen? ⟨v, 2, none⟩ = false ∧ X.cell? ⟨v, 2, none⟩ = some ur) ∧ LayIn w v (X.setCell ⟨v, 2, none⟩ u) f rs l (i + 1) j u ug := by
  have hne : ∀ {g : Nat} {t : TypeId}, TyAt wr g t → 89 ≠ t → some g ≠ ur.ownBlock := fun {g t} hg ht e => by
    rcases own_off h.rd hg ht with h1 | h1
    · rw [h1] at e; cases e
    · exact h1 e.symm
  have he := h.ev.keep (hX.block _ h.ev.lt (hne h.ev.ty (by decide)))
  have hb : Below w.heap.size w X := h.bel.grown hX h.bel.size fun k hk => (h.rd.lt k hk).1
  have hg := h.gp.kept hX (by
    cases hv : ug.ownBlock with
    | none => exact .inl rfl
    | some g => exact .inr (hne (own_ty h.gp hv) (by decide)))
  have hgr := grown_set X ⟨v, 2, none⟩ u
  exact ⟨⟨he.frozen _, he.cell (j := 2) (by simp)⟩, h.vw, hb.setCell h.vw _, he.set 2 u, ho.kept hgr (own_off ho he.ty (by decide)), hg.kept hgr (own_off hg he.ty (by decide)), fun e => absurd e (Nat.succ_ne_zero _), h.g0⟩
theorem LayIn.atG (h : LayIn w v wr f rs l i j ur ug) (hX : wr.grownBy X ug.ownBlock) (ho : X.ownsRow w.heap.size 79 10 u (j + 1) (gpsL0 rs l (j + 1))) :
    (X.frozen? ⟨v, 3, none⟩ = false ∧ X.cell? ⟨v, 3, none⟩ = some ug) ∧ LayIn w v (X.setCell ⟨v, 3, none⟩ u) f rs l i (j + 1) ur u := by
  have hne : ∀ {g : Nat} {t : TypeId}, TyAt wr g t → 79 ≠ t → some g ≠ ug.ownBlock := fun {g t} hg ht e => by
    rcases own_off h.gp hg ht with h1 | h1
    · rw [h1] at e; cases e
    · exact h1 e.symm
  have he := h.ev.keep (hX.block _ h.ev.lt (hne h.ev.ty (by decide)))
  have hb : Below w.heap.size w X := h.bel.grown hX h.bel.size fun k hk => (h.gp.lt k hk).1
  have hr := h.rd.kept hX (by
    cases hv : ur.ownBlock with
    | none => exact .inl rfl
    | some g => exact .inr (hne (own_ty h.rd hv) (by decide)))
  have hgr := grown_set X ⟨v, 3, none⟩ u
  exact ⟨⟨he.frozen _, he.cell (j := 3) (by simp)⟩, h.vw, hb.setCell h.vw _, he.set 3 u, hr.kept hgr (own_off hr he.ty (by decide)), ho.kept hgr (own_off ho he.ty (by decide)), h.r0, fun e => absurd e (Nat.succ_ne_zero _)⟩
end
/-- A slice that has been appended to: when it is stored, so much is laid. -/
def layR (w : World) (v : Nat) (f : EveZ) (rs : List (Option Addr × Nat)) (l : List GrpZ) (i j : Nat) (ug : Value) : Value → World → Prop := fun u y => ∃ g c, u = .slice (some ⟨g, 0, none⟩) i c ∧ LayIn w v (y.setCell ⟨v, 2, none⟩ u) f rs l i j u ug
def layG (w : World) (v : Nat) (f : EveZ) (rs : List (Option Addr × Nat)) (l : List GrpZ) (i j : Nat) (ur : Value) : Value → World → Prop := fun u y => ∃ g c, u = .slice (some ⟨g, 0, none⟩) j c ∧ LayIn w v (y.setCell ⟨v, 3, none⟩ u) f rs l i j ur u
/-- An evening that has been played lies in memory of the call's own. -/
def PlayTo (w : World) (t : EvS) (e : Ending) (w' : World) : Prop := ∃ E : EvE, e = .returned (.pointer (some ⟨E.v, 0, none⟩)) ∧ E.base = w.heap.size ∧ Below w.heap.size w w' ∧ EvAt E w' t
theorem grpsB_len {n : Nat} {l : List GrpZ} (h : grpsB n l = true) : l.length ≤ 60 := by
  unfold grpsB at h
  simp only [Bool.and_eq_true, decide_eq_true_eq] at h
  exact h.1
end Go.Proofs.Ytijbhcdnbaaobaa
namespace Go.Proofs.Ytijbhcdnbaaobaa
open Go.RowKit

theorem inB_le {x lo hi : Int} (h : inB x lo hi = true) : lo ≤ x ∧ x ≤ hi := inB_iff.1 h
theorem sum_tok : ∀ (l : List GrpZ), (∀ g ∈ l, g.tokens ≤ 10000) → (l.map (·.tokens)).foldr (· + ·) 0 ≤ 10000 * (l.length : Int) := by
  intro l
  induction l with
  | nil => intro _; simp
  | cons g l ih =>
    intro h
    have h1 := ih fun x hx => h x (List.mem_cons_of_mem _ hx)
    have h2 := h g List.mem_cons_self
    simp only [List.map_cons, List.foldr_cons, List.length_cons]
    omega
theorem grp_valid {n : Nat} {l : List GrpZ} (h : grpsB n l = true) : ∀ g ∈ l, (0 ≤ g.at_ ∧ g.at_ ≤ 2000) ∧ (0 ≤ g.patience ∧ g.patience ≤ 2000) ∧ (1 ≤ g.size ∧ g.size ≤ 40) ∧ (0 ≤ g.tokens ∧ g.tokens ≤ 10000) ∧ g.wants.length ≤ 10 ∧ ∀ w ∈ g.wants, 0 ≤ w ∧ w < (n : Int) := fun g hg => by
  unfold grpsB at h
  simp only [Bool.and_eq_true, decide_eq_true_eq, List.all_eq_true] at h
  have h1 := h.2 g hg
  unfold grpB at h1
  simp only [Bool.and_eq_true, decide_eq_true_eq] at h1
  obtain ⟨⟨⟨⟨⟨a1, a2⟩, a3⟩, a4⟩, a5⟩, a6⟩ := h1
  refine ⟨inB_le a1, inB_le a2, inB_le a3, inB_le a4, a5, fun w hw => ?_⟩
  unfold allB at a6
  have := inB_le (List.all_eq_true.1 a6 w hw)
  omega
theorem eve_valid {f : EveZ} (h : eveB f = true) : f.rides.length ≤ 8 ∧ (0 ≤ f.walk ∧ f.walk ≤ 100) ∧ ∀ b ∈ f.rides, (1 ≤ b.seats ∧ b.seats ≤ 40) ∧ (0 ≤ b.price ∧ b.price ≤ 100) ∧ (1 ≤ b.cycle ∧ b.cycle ≤ 100) ∧ (0 ≤ b.pause ∧ b.pause ≤ 100) := by
  unfold eveB at h
  simp only [Bool.and_eq_true, decide_eq_true_eq, List.all_eq_true] at h
  refine ⟨h.1.1, inB_le h.2, fun b hb => ?_⟩
  have h1 := h.1.2 b hb
  unfold bthB at h1
  simp only [Bool.and_eq_true] at h1
  exact ⟨inB_le h1.1.1.1, inB_le h1.1.1.2, inB_le h1.1.2, inB_le h1.2⟩
theorem getD_mem' {α : Type} [Inhabited α] {l : List α} {i : Nat} (h : i < l.length) : l.getD i default ∈ l := by
  rw [List.getD_eq_getElem?_getD, List.getElem?_eq_getElem h]
  exact List.getElem_mem h
theorem big_start {f : EveZ} {l : List GrpZ} (h1 : eveB f = true) (h2 : grpsB f.rides.length l = true) : BigS (startS f l) ∧ BothS (startS f l) (startS f l) := by
  obtain ⟨a1, a2, a3⟩ := eve_valid h1
  have g := grp_valid h2
  have hl : (startS f l).groups.length = l.length := by simp [startS]
  have hr : (startS f l).rides.length = f.rides.length := by simp [startS]
  have hg : ∀ i, i < l.length → ((startS f l).grp i).g = l.getD i default := fun i hi => by rw [start_grp f l hi]
  refine ⟨⟨by rw [hr]; exact a1, by rw [hl]; exact grpsB_len h2, a2, fun i hi => ?_, fun i hi w hw => ?_, fun r hrr => ?_, ?_⟩, wf_start f l fun x hx => (g x hx).2.2.2.1.1, his_start f l⟩
  · rw [hl] at hi
    rw [hg i hi]
    have := g _ (getD_mem' hi)
    exact ⟨this.2.1, this.2.2.1, this.2.2.2.2.1⟩
  · rw [hl] at hi
    rw [hg i hi] at hw
    rw [hr]
    exact (g _ (getD_mem' hi)).2.2.2.2.2 w hw
  · rw [hr] at hrr
    rw [start_rd f l hrr]
    exact a3 _ (getD_mem' hrr)
  · rw [start_tot]
    have h3 := sum_tok l fun x hx => (g x hx).2.2.2.1.2
    have h4 := grpsB_len h2
    omega
/-- What play has laid is the evening before its first tick. -/
theorem lay_done {w wr : World} {v B : Nat} {f : EveZ} {rs : List (Option Addr × Nat)} {l : List GrpZ} {A2 : Option Addr} {ur ug : Value} (h : LayIn w v wr f rs l f.rides.length l.length ur ug) (hG : GrpsIn wr B A2 rs l) (hB : B ≤ w.heap.size) :
    ∃ E : EvE, E.v = v ∧ E.base = w.heap.size ∧ EvAt E wr (startS f l) := by
  have hl : (startS f l).groups.length = l.length := by simp [startS]
  have hr : (startS f l).rides.length = f.rides.length := by simp [startS]
  have hR : ∃ R cR, ur = .slice (slA R f.rides.length) f.rides.length cR ∧ w.heap.size ≤ R ∧ (0 < f.rides.length → ur = .slice (some ⟨R, 0, none⟩) f.rides.length cR) := by
    by_cases h0 : f.rides.length = 0
    · exact ⟨w.heap.size, 0, by unfold slA; rw [if_pos h0, h0]; exact h.r0 h0, Nat.le_refl _, fun h1 => by omega⟩
    · rcases h.rd.2 with ⟨h1, h2⟩ | ⟨g, cap, cur, h1, hb, _⟩
      · exact absurd h2 h0
      · exact ⟨g, cap, by unfold slA; rw [if_neg h0]; exact h1, hb, fun _ => h1⟩
  have hGr : ∃ R cR, ug = .slice (slA R l.length) l.length cR ∧ w.heap.size ≤ R ∧ (0 < l.length → ug = .slice (some ⟨R, 0, none⟩) l.length cR) := by
    by_cases h0 : l.length = 0
    · exact ⟨w.heap.size, 0, by unfold slA; rw [if_pos h0, h0]; exact h.g0 h0, Nat.le_refl _, fun h1 => by omega⟩
    · rcases h.gp.2 with ⟨h1, h2⟩ | ⟨g, cap, cur, h1, hb, _⟩
      · exact absurd h2 h0
      · exact ⟨g, cap, by unfold slA; rw [if_neg h0]; exact h1, hb, fun _ => h1⟩
  obtain ⟨R, cR, e1, b1, p1⟩ := hR
  obtain ⟨G, cG, e2, b2, p2⟩ := hGr
  refine ⟨⟨w.heap.size, v, R, G, cR, cG, rs, []⟩, rfl, rfl, fun _ => .slice none 0 0, .slice none 0 0, ⟨h.vw, b1, b2, h.bel.size⟩, ?_, fun h0 => ?_, fun h0 => ?_, fun r hrr => ?_, fun _ _ _ _ _ => .inl rfl, World.ownsRow_nil _ _ _ _, fun i hi => ?_, fun p hp => absurd hp List.not_mem_nil, fun p hp => absurd hp List.not_mem_nil⟩
  · have := h.ev
    rw [e1, e2] at this
    unfold evL
    rw [hl, hr]
    exact this
  · rw [hr] at h0 ⊢
    have ho := h.rd
    rw [p1 h0, List.take_length] at ho
    refine (Blk.of_own (f := fun r => rdV (.slice none 0 0) ((startS f l).rd r)) ho (flat_len rdL0 9 (fun _ => rfl) _) fun i hi j hj => ?_).1
    rw [flat_at rdL0 9 (fun _ => rfl) default f.rides i hi j hj, start_rd f l hi]
    exact lt_nine (P := fun j => (rdL0 (f.rides.getD i default))[j]? = some (rdV (.slice none 0 0) ⟨f.rides.getD i default, [], 0, 0, 0⟩ j)) rfl rfl rfl rfl rfl rfl rfl rfl rfl j hj
  · rw [hl] at h0 ⊢
    have ho := h.gp
    rw [p2 h0] at ho
    refine (Blk.of_own (f := fun i => gpV (rs.getD i default) ((startS f l).grp i)) ho ?_ fun i hi j hj => ?_).1
    · unfold gpsL0
      rw [flat_len _ 10 (fun _ => rfl), List.length_range]
    · unfold gpsL0
      rw [flat_at _ 10 (fun _ => rfl) 0 _ i (by simpa using hi) j hj, start_grp f l hi]
      have e : (List.range l.length).getD i 0 = i := by rw [List.getD_eq_getElem?_getD, List.getElem?_range hi]; rfl
      rw [e]
      exact lt_ten (P := fun j => (gpL0 (rs.getD i default) (l.getD i default))[j]? = some (gpV (rs.getD i default) ⟨l.getD i default, (l.getD i default).tokens, 0, (l.getD i default).at_, -1, 0, -1⟩ j)) rfl rfl rfl rfl rfl rfl rfl rfl rfl rfl j hj
  · have e : ((startS f l).rd r).q = [] := by
      rw [hr] at hrr
      rw [start_rd f l hrr]
    rw [e]
    exact World.ownsRow_nil _ _ _ _
  · rw [hl] at hi
    rw [start_grp f l hi]
    exact (hG.inner i hi).more hB
end Go.Proofs.Ytijbhcdnbaaobaa
