/- The walk of ForceSlower: the law says true, and leaves what was there. Conditions: a path that reads as points. -/
import Derived.Test.YtkmiapfkebdpbaaRg
import Derived.Test.YtkmiapfkebdpbaaNc
import Derived.Test.YtkmiapfkebdpbaaKl
import Derived.Test.YtkmiapfkebdpbaaNk
/- A region in its written order, by one look at each operation: what comes up is known by its predicate alone, so that one way goes on behind it, whatever the guards said. No program. -/
namespace Go.Proofs.Ytkmiapfkebdpbaa
open Go Go.RowKit

theorem not_wanted {b : Bool} (h : b = false) : ¬ b = true := by rw [h]; decide
section
variable {P : Program} {ops : Array Oper} {Q : Exit → Act → World → Prop}
def seqB (ops : Array Oper) (m : Nat) (ds : List (Nat × Tmp)) : Bool :=
  dsOk ds && (List.range m).all (fun k => match ops[k]? with | none => true | some o => match o.dst with | none => !ds.any (fun p => p.1 == k) | some d => ds.contains (k, d))
def SeqStep (P : Program) (ops : Array Oper) (Q : Exit → Act → World → Prop) (a : Act) (ds : List (Nat × Tmp)) (w0 : World) (l : List (Value → World → Prop)) (i : Nat) : Prop :=
  ∀ o, ops[i]? = some o → ∀ (xs : Nat → Value) (y : World), Below w0.heap.size w0 y → (∀ j, decide (j < i) = true → vAt l j (xs j) y) → ∀ K : Act → World → Prop,
    Shut (∀ v z, Below y.heap.size y z → vAt l i v z → K ((putsF a ds xs).put o.dst v) z) →
    if Region.wanted o (yielded ops (putsF a ds xs).tmps) = true then o.wp P (putsF a ds xs) y K Q else K ((putsF a ds xs).put o.dst undef) y
theorem SeqStep.mk {a : Act} {ds : List (Nat × Tmp)} {w0 : World} {l : List (Value → World → Prop)} {i : Nat} {o : Oper} (ho : ops[i]? = some o)
    (h : ∀ (xs : Nat → Value) (y : World), Below w0.heap.size w0 y → (∀ j, decide (j < i) = true → vAt l j (xs j) y) → ∀ K : Act → World → Prop,
      Shut (∀ v z, Below y.heap.size y z → vAt l i v z → K ((putsF a ds xs).put o.dst v) z) →
      if Region.wanted o (yielded ops (putsF a ds xs).tmps) = true then o.wp P (putsF a ds xs) y K Q else K ((putsF a ds xs).put o.dst undef) y) : SeqStep P ops Q a ds w0 l i := fun o' ho' => by
  rw [ho] at ho'
  injection ho' with ho'
  subst ho'
  exact h
theorem SeqStep.go {a : Act} {ds : List (Nat × Tmp)} {w0 : World} {l : List (Value → World → Prop)} {i : Nat} {o : Oper} (ho : ops[i]? = some o) (hg : o.guard = none)
    (h : ∀ (xs : Nat → Value) (y : World), Below w0.heap.size w0 y → (∀ j, decide (j < i) = true → vAt l j (xs j) y) → ∀ K : Act → World → Prop,
      Shut (∀ v z, Below y.heap.size y z → vAt l i v z → K ((putsF a ds xs).put o.dst v) z) → o.wp P (putsF a ds xs) y K Q) : SeqStep P ops Q a ds w0 l i :=
  SeqStep.mk ho fun xs y hy hV K hK => by
    rw [if_pos (by simp [Region.wanted, hg])]
    exact h xs y hy hV K hK
def SeqSteps (P : Program) (ops : Array Oper) (Q : Exit → Act → World → Prop) (a : Act) (ds : List (Nat × Tmp)) (w0 : World) (l : List (Value → World → Prop)) : Nat → Nat → Prop
  | _, 0 => True
  | k, n + 1 => SeqStep P ops Q a ds w0 l k ∧ SeqSteps P ops Q a ds w0 l (k + 1) n
theorem SeqSteps.nil {a : Act} {ds : List (Nat × Tmp)} {w0 : World} {l : List (Value → World → Prop)} {k : Nat} : SeqSteps P ops Q a ds w0 l k 0 := trivial
theorem SeqSteps.cons {a : Act} {ds : List (Nat × Tmp)} {w0 : World} {l : List (Value → World → Prop)} {k k' n : Nat} (hk : k' = k + 1) (h : SeqStep P ops Q a ds w0 l k) (hs : SeqSteps P ops Q a ds w0 l k' n) : SeqSteps P ops Q a ds w0 l k (n + 1) := by subst hk; exact ⟨h, hs⟩
theorem seq_core {a : Act} {w0 : World} {ds : List (Nat × Tmp)} {m : Nat} {l : List (Value → World → Prop)} (hok : seqB ops m ds = true) (hm : ops.size = m) (hst : AllSt l)
    (hend : ∀ (xs : Nat → Value) (y : World), Below w0.heap.size w0 y → (∀ j, j < m → vAt l j (xs j) y) → Q .normal (putsF a ds xs) y) :
    ∀ (n k : Nat) (xs : Nat → Value) (y : World), k + n = m → SeqSteps P ops Q a ds w0 l k n → Below w0.heap.size w0 y → (∀ j, j < k → vAt l j (xs j) y) → wpOps P ops Q (List.range' k n) (putsF a ds xs) y := by
  simp only [seqB, Bool.and_eq_true, List.all_eq_true, List.mem_range] at hok
  obtain ⟨hds, hdst⟩ := hok
  intro n
  induction n with
  | zero =>
    intro k xs y hk _ hy hV
    exact hend xs y hy fun j hj => hV j (by omega)
  | succ n ih =>
    intro k xs y hk hs hy hV
    rw [show List.range' k (n + 1) = k :: List.range' (k + 1) n from rfl, wpOps_cons]
    obtain ⟨o, ho⟩ : ∃ o, ops[k]? = some o := ⟨ops[k]'(by omega), Array.getElem?_eq_getElem _⟩
    refine wpOp_step ho fun K' hK' => ?_
    refine hs.1 o ho xs y hy (fun j hj => hV j (of_decide_eq_true hj)) K' fun v z hz hv => hK' _ _ ?_
    have hnew : (putsF a ds xs).put o.dst v = putsF a ds (setX xs k v) := by
      have hd0 := hdst k (by omega)
      rw [ho] at hd0
      have hd : (match o.dst with | none => !ds.any (fun p => p.1 == k) | some d => ds.contains (k, d)) = true := hd0
      clear hd0
      cases hod : o.dst with
      | none =>
        rw [hod] at hd
        show putsF a ds xs = _
        refine (putsF_other fun p hp hpi => ?_).symm
        simp only [Bool.not_eq_true', List.any_eq_false, beq_iff_eq] at hd
        exact hd p hp hpi
      | some d =>
        rw [hod] at hd
        exact putsF_set ds a xs k d v hds (by simpa using hd)
    rw [hnew]
    refine ih (k + 1) (setX xs k v) z (by omega) hs.2 (hy.trans (hz.mono hy.size)) fun j hj => ?_
    by_cases hjk : j = k
    · subst hjk
      simp only [setX, if_true]
      exact hv
    · simp only [setX, if_neg hjk]
      exact stable_vAt l hst j _ y z (hV j (by omega)) hz
/-- A region in its written order; all its operations leave what was there. -/
theorem wp_region_seq {id : Nat} {a : Act} {w0 : World} {ds : List (Nat × Tmp)} {l : List (Value → World → Prop)} (m : Nat) (hok : seqB ops m ds = true) (hm : ops.size = m)
    (hs : SeqSteps P ops Q a ds w0 l 0 m) (hst : AllSt l)
    (hend : ∀ (xs : Nat → Value) (y : World), Below w0.heap.size w0 y → (∀ j, j < m → vAt l j (xs j) y) → Q .normal (putsF a ds xs) y) : (Code.region id ops false).wp P Q a w0 := by
  have hds : dsOk ds = true := by
    simp only [seqB, Bool.and_eq_true] at hok
    exact hok.1
  obtain ⟨xs, hx⟩ := putsF_self ds a hds
  refine wp_region ?_
  have h := seq_core hok hm hst hend m 0 xs w0 (by omega) hs (Below.refl _ _) (fun j hj => absurd hj (Nat.not_lt_zero j))
  rw [hx] at h
  rw [List.range_eq_range', hm]
  exact h
end
end Go.Proofs.Ytkmiapfkebdpbaa
/- ForceSlower: what it rests on, plainly. -/
namespace Go.Proofs.Ytkmiapfkebdpbaa
open Go.RowKit

theorem motB_nats {m : Mot} (fails : Bool) (h : motB m = true) : ∃ T sp : Nat, m.top = (T : Int) ∧ 1 ≤ T ∧ T ≤ 10 ∧ stepOf m fails = (sp : Int) := by
  have h := (motB_iff m).1 h
  refine ⟨m.top.toNat, (stepOf m fails).toNat, by omega, by omega, by omega, ?_⟩
  unfold stepOf; split <;> omega
/-- What Worst finds is what the limits are about. -/
theorem slow_worst {t : List Pt} {m : Mot} {x : Lim} {fails : Bool} (h0 : limE t m x = 0) : (keepS t m x fails).2.2 = 0 ∧ (wrS t m fails).2 = 0 ∧ ((keepS t m x fails).2.1 = true ↔ (wrS t m fails).1.side ≤ x.side * x.side ∧ x.low ≤ (wrS t m fails).1.low ∧ (wrS t m fails).1.high ≤ x.high) := by
  obtain ⟨h1, h2, h3⟩ := limE_zero.1 h0
  have hm : motionE t m = 0 := motionE_zero.2 ⟨h1, h2⟩
  obtain ⟨n1, n2, hspn⟩ := (pathB_iff t).1 h1
  unfold keepS wrS
  rw [if_neg (by rw [h0]; simp), if_neg (by rw [hm]; simp)]
  refine ⟨rfl, rfl, ?_⟩
  refine worst_keeps t _ _ x (by omega) ?_ ?_
  · rw [← Int.natAbs_mul_self]; exact Int.natCast_nonneg _
  · intro ch hch
    have h4 := (mem_chgs _ _ _ _).1 hch
    have h5 := (feltI_bd hspn ch.ph ch.bf ch.af).2.2
    rw [feltI_nat t ch h4.1] at h5
    omega
/-- With a lesser motor what was kept is kept. -/
theorem slow_less {t : List Pt} {m m' : Mot} {x : Lim} {fails : Bool} (h0 : limE t m x = 0) (h' : (keepS t m' x fails).2.2 = 0) (hk : (keepS t m x fails).2.1 = true) (h1 : m'.top ≤ m.top) (h2 : m'.ease ≤ m.ease) (h3 : m'.jerk ≤ m.jerk) : (keepS t m' x fails).2.1 = true := by
  have e' : limE t m' x = 0 := by
    unfold keepS at h'
    by_cases h : limE t m' x = 0
    · exact h
    · rw [if_pos h] at h'; exact h'
  unfold keepS at hk ⊢
  rw [if_neg (by rw [h0]; simp)] at hk
  rw [if_neg (by rw [e']; simp)]
  refine keeps_less hk (by omega) ?_
  unfold stepOf
  split <;> omega
/-- What Fastest finds is kept, and one more is not. -/
theorem slow_fast {t : List Pt} {m : Mot} {x : Lim} {fails : Bool} (h0 : limE t m x = 0) :
    (fastS t m x fails = (0, 3) ∧ (keepS t ⟨1, m.ease, m.jerk⟩ x fails).2 = (false, 0) ∧ (keepS t m x fails).2.1 = false) ∨
    (∃ F : Nat, fastS t m x fails = ((F : Int), 0) ∧ 1 ≤ F ∧ (F : Int) ≤ m.top ∧ m.top ≤ 10 ∧ (keepS t ⟨(F : Int), m.ease, m.jerk⟩ x fails).2 = (true, 0) ∧ ((F : Int) = m.top ∨ (keepS t ⟨(F : Int) + 1, m.ease, m.jerk⟩ x fails).2 = (false, 0))) := by
  obtain ⟨h1, h2, h3⟩ := limE_zero.1 h0
  obtain ⟨T, sp, hT, hT1, hT10, hs⟩ := motB_nats fails h2
  have hat := fun (k : Nat) (a : 1 ≤ k) (b : k ≤ T) => keepS_at (t := t) (m := m) (x := x) (fails := fails) h0 hT hs a b
  have hm : keepS t m x fails = ((keepsZ t T sp x).1, (keepsZ t T sp x).2, 0) := by
    unfold keepS
    rw [if_neg (by rw [h0]; simp), hT, hs]
    rfl
  have hf : fastS t m x fails = if fastZ t sp x T = 0 then (0, 3) else ((fastZ t sp x T : Int), 0) := by
    unfold fastS
    rw [if_neg (by rw [h0]; simp), hT, hs]
    rfl
  have hle := fastZ_le t sp x T
  by_cases hz : fastZ t sp x T = 0
  · refine .inl ⟨by rw [hf, if_pos hz], ?_, ?_⟩
    · have h4 := hat 1 (Nat.le_refl _) hT1
      have h5 := fastZ_more t sp x T 1 (by omega) hT1
      have h4 : keepS t ⟨1, m.ease, m.jerk⟩ x fails = _ := h4
      rw [h4, h5]
    · rw [hm]
      exact fastZ_more t sp x T T (by omega) (Nat.le_refl _)
  · refine .inr ⟨fastZ t sp x T, by rw [hf, if_neg hz], by omega, by omega, by omega, ?_, ?_⟩
    · rw [hat _ (by omega) hle, fastZ_keeps t sp x T (by omega)]
    · by_cases he : fastZ t sp x T = T
      · exact .inl (by omega)
      · refine .inr ?_
        have h4 := hat (fastZ t sp x T + 1) (by omega) (by omega)
        have h5 := fastZ_more t sp x T (fastZ t sp x T + 1) (by omega) (by omega)
        have e : ((fastZ t sp x T + 1 : Nat) : Int) = (fastZ t sp x T : Int) + 1 := by omega
        rw [e] at h4
        rw [h4, h5]
end Go.Proofs.Ytkmiapfkebdpbaa
namespace Go.Proofs.Ytkmiapfkebdpbaa
open Go.RowKit

theorem Try.info_mot : (Try.prog.info? 35).map (fun i => (i.zero, i.size, i.bytes)) = some (some (.agg #[.int .i64 0, .int .i64 0, .int .i64 0]), 3, 24) := by kernel_rfl
theorem run_bs3 (w : World) (v0 v1 v2 : Int) : (Instr.buildSlice 73 3 #[(0, .agg #[.int .i64 v0, .int .i64 v1, .int .i64 v2]), (1, .agg #[.int .i64 v0, .int .i64 v1, .int .i64 v2]), (2, .agg #[.int .i64 v0, .int .i64 v1, .int .i64 v2])]).run Try.prog w = .ok (.slice (some ⟨w.heap.size, 0, none⟩) 3 3) (w.alloc (.cells #[.int .i64 v0, .int .i64 v1, .int .i64 v2, .int .i64 v0, .int .i64 v1, .int .i64 v2, .int .i64 v0, .int .i64 v1, .int .i64 v2] 35)) := by
  obtain ⟨i0, hi, hz0, hz1, hz2⟩ := info_parts Try.info_mot
  refine run_buildSlice w _ _ 3 _ _ i0 _ Try.underlying73 hi hz0 ?_ ?_ ?_
  · rw [hz1]; decide
  · rw [hz1]; decide
  · rw [hz1]; simp [Instr.fill, Value.cells, Array.range_succ, range0]
theorem wpList_bs3 {ops : Array Oper} {rest : List Oper} {o : Oper} {a : Act} {w : World} {Q : Exit → Act → World → Prop} (hgd : o.guard = none) (s0 s1 s2 : Operand)
    (ho : o.op = .buildSlice 73 3 #[(0, s0), (1, s1), (2, s2)]) (v0 v1 v2 : Int) (h0 : a.eval s0 = .agg #[.int .i64 v0, .int .i64 v1, .int .i64 v2]) (h1 : a.eval s1 = .agg #[.int .i64 v0, .int .i64 v1, .int .i64 v2]) (h2 : a.eval s2 = .agg #[.int .i64 v0, .int .i64 v1, .int .i64 v2])
    (h : wpList Try.prog ops Q rest (a.put o.dst (.slice (some ⟨w.heap.size, 0, none⟩) 3 3)) (w.alloc (.cells #[.int .i64 v0, .int .i64 v1, .int .i64 v2, .int .i64 v0, .int .i64 v1, .int .i64 v2, .int .i64 v0, .int .i64 v1, .int .i64 v2] 35))) : wpList Try.prog ops Q (o :: rest) a w :=
  wpList_plain hgd fun _ hK => by
    unfold Oper.wp execOp
    simp only [ho, Sem.run_bind, List.map_toArray, List.map_cons, List.map_nil, h0, h1, h2, run_bs3, Result.andThen_ok]
    exact hK _ _ h
theorem row_at9 {w : World} {g : Nat} {t : TypeId} {v0 v1 v2 v3 v4 v5 v6 v7 v8 : Value} (h : Row w g t [v0, v1, v2, v3, v4, v5, v6, v7, v8]) : (∀ o, w.frozen? ⟨g, o, none⟩ = false) ∧ w.cell? ⟨g, 0, none⟩ = some v0 ∧ w.cell? ⟨g, 4, none⟩ = some v4 ∧ w.cell? ⟨g, 8, none⟩ = some v8 :=
  ⟨fun o => h.frozen o, h.cell (j := 0) (by simp), h.cell (j := 4) (by simp), h.cell (j := 8) (by simp)⟩
theorem keepS_lim {t : List Pt} {m : Mot} {x : Lim} {fails : Bool} (h : (keepS t m x fails).2.2 = 0) : limE t m x = 0 := by
  unfold keepS at h
  by_cases h0 : limE t m x = 0
  · exact h0
  · rw [if_pos h0] at h; exact h
set_option maxRecDepth 100000 in
set_option maxHeartbeats 4000000 in
theorem slower_walk (t : List Pt) (m : Mot) (x : Lim) (fails : Bool) (A : Option Addr) (c B : Nat) (w : World) (hB : B ≤ w.heap.size) (hr : Reads w B 3 A t.length (ptCells t)) (hn : t.length ≤ maxLen) :
    Calls Try.prog 13 #[.slice A t.length c, rideV m x fails] w (RTrue w) := by
  obtain ⟨W, hW⟩ : ∃ W, W = w.alloc (.cells #[.int .i64 m.top, .int .i64 m.ease, .int .i64 m.jerk, .int .i64 x.side, .int .i64 x.low, .int .i64 x.high, .bool fails] 39) := ⟨_, rfl⟩
  have bW : Below w.heap.size w W := by subst hW; exact (Below.refl _ _).alloc (Nat.le_refl _) _
  have r0 : Row W w.heap.size 39 [.int .i64 m.top, .int .i64 m.ease, .int .i64 m.jerk, .int .i64 x.side, .int .i64 x.low, .int .i64 x.high, .bool fails] := by subst hW; exact Row.new w _ _
  have z0 := r0.lt
  have Hfin : Hid (∀ X : World, Below w.heap.size w X → Calls Try.prog 15 #[] X fun e w' => e = .returned (.bool true) ∧ Below w.heap.size w w') := fun X hX => (works_any X).mono fun _ _ h => ⟨h.1, hX.trans (h.2.mono hX.size)⟩
  by_cases h70 : 70 < t.length
  · have h70' : (70 : Int) < (t.length : Int) := by omega
    clear hr hn
    unfold rideV
    go_enter Try.func13, Try.ntmps13
    go_wp2_with fail
    rw [← hW]
    refine (Hfin.out _ bW).mono ?_
    rintro e w4 ⟨rfl, hb4⟩
    go_wp2_with fail
    go_ret
    exact ⟨rfl, hb4⟩
  have h70' : ¬ (70 : Int) < (t.length : Int) := by omega
  have HO : Hid (∀ X, Below w.heap.size w X → Calls Try.prog 16 #[.slice A t.length c] X (OwnPost X t)) := fun X hX => own_mine t A c B X (Nat.le_trans hB hX.size) (hr.below (hX.mono hB)) (by omega)
  have HK : Hid (∀ X (m' : Mot) A1 c1, Reads X X.heap.size 3 A1 t.length (ptCells t) → Calls Try.prog 20 #[.slice A1 t.length c1, .agg #[.int .i64 m'.top, .int .i64 m'.ease, .int .i64 m'.jerk], .agg #[.int .i64 x.side, .int .i64 x.low, .int .i64 x.high], .bool fails] X fun e w' => (∃ ch bo er, Hid (keepS t m' x fails = (ch, bo, er)) ∧ e = .returned (.tuple #[.agg #[.int .i64 (ch.ph : Int), .int .i64 (ch.bf : Int), .int .i64 (ch.af : Int)], .bool bo, .int .i64 er])) ∧ Below X.heap.size X w') := fun X m' A1 c1 hX =>
    (Keeps_any t m' x fails A1 c1 X.heap.size X (Nat.le_refl _) hX hn).mono fun e w' h => ⟨⟨_, _, _, rfl, h.2⟩, h.1⟩
  have HWo : Hid (∀ X A1 c1, Reads X X.heap.size 3 A1 t.length (ptCells t) → Calls Try.prog 22 #[.slice A1 t.length c1, .agg #[.int .i64 m.top, .int .i64 m.ease, .int .i64 m.jerk], .bool fails] X fun e w' => (∃ ws wl wh we, Hid (wrS t m fails = (⟨ws, wl, wh⟩, we)) ∧ e = .returned (.tuple #[.int .i64 ws, .int .i64 wl, .int .i64 wh, .int .i64 we])) ∧ Below X.heap.size X w') := fun X A1 c1 hX =>
    (Worst_any t m fails A1 c1 X.heap.size X (Nat.le_refl _) hX hn).mono fun e w' h => ⟨⟨_, _, _, _, rfl, h.2⟩, h.1⟩
  have HFa : Hid (∀ X A1 c1, Reads X X.heap.size 3 A1 t.length (ptCells t) → Calls Try.prog 24 #[.slice A1 t.length c1, .agg #[.int .i64 m.top, .int .i64 m.ease, .int .i64 m.jerk], .agg #[.int .i64 x.side, .int .i64 x.low, .int .i64 x.high], .bool fails] X fun e w' => (∃ F er, Hid (fastS t m x fails = (F, er)) ∧ e = .returned (.tuple #[.int .i64 F, .int .i64 er])) ∧ Below X.heap.size X w') := fun X A1 c1 hX =>
    (Fastest_any t m x fails A1 c1 X.heap.size X (Nat.le_refl _) hX hn).mono fun e w' h => ⟨⟨_, _, rfl, h.2⟩, h.1⟩
  clear hr hn
  obtain ⟨_, q0, q1, q2, q3, q4, q5, q6⟩ := row_at7 r0
  unfold rideV
  go_enter Try.func13, Try.ntmps13
  go_wp2_with fail
  rw [← hW]
  clear hW h70'
  refine (HO.out W bW).mono ?_
  rintro e w1 ⟨hb1, A1, c1, rfl, hr1, _⟩
  have b1 := bW.trans (hb1.mono bW.size)
  have r1 := r0.below hb1 z0
  have z1 := r1.lt
  clear q0 q1 q2 q3 q4 q5 q6 r0 z0 hb1 bW
  obtain ⟨_, q0, q1, q2, q3, q4, q5, q6⟩ := row_at7 r1
  go_wp2_with fail
  refine (HK.out w1 m A1 c1 hr1).mono ?_
  rintro e w2 ⟨⟨ch, kept, er, hkm, rfl⟩, hb2⟩
  have b2 := b1.trans (hb2.mono b1.size)
  have r2 := r1.below hb2 z1
  have z2 := r2.lt
  have hr2 := (hr1.below hb2).more hb2.size
  clear q0 q1 q2 q3 q4 q5 q6 r1 z1 hr1 b1 hb2
  obtain ⟨_, q0, q1, q2, q3, q4, q5, q6⟩ := row_at7 r2
  go_upto_region 5 with (fail)
  obtain ⟨X, hX⟩ : ∃ X, X = w2.alloc (.cells #[.int .i64 (ch.ph : Int), .int .i64 (ch.bf : Int), .int .i64 (ch.af : Int)] 24) := ⟨_, rfl⟩
  rw [← hX]
  have bX : Below w.heap.size w X := by subst hX; exact b2.alloc b2.size _
  have rX : Row X w.heap.size 39 [.int .i64 m.top, .int .i64 m.ease, .int .i64 m.jerk, .int .i64 x.side, .int .i64 x.low, .int .i64 x.high, .bool fails] := by subst hX; exact r2.alloc _
  have hrX : Reads X X.heap.size 3 A1 t.length (ptCells t) := by subst hX; exact (hr2.alloc (Nat.le_refl _) _).more (by simp)
  have zX := rX.lt
  clear hX q0 q1 q2 q3 q4 q5 q6 r2 z2 hr2 b2
  obtain ⟨_, q0, q1, q2, q3, q4, q5, q6⟩ := row_at7 rX
  go_wp2_with fail
  refine (HWo.out X A1 c1 hrX).mono ?_
  rintro e w3 ⟨⟨ws, wl, wh, we, hwm, rfl⟩, hb3⟩
  have b3 := bX.trans (hb3.mono bX.size)
  have r3 := rX.below hb3 zX
  have z3 := r3.lt
  have hr3 := (hrX.below hb3).more hb3.size
  clear q0 q1 q2 q3 q4 q5 q6 rX zX hrX bX hb3
  by_cases he : er = 0
  case neg =>
    have he' : (er != 0) = true := by simpa using he
    go_wp2_with fail
    refine (Hfin.out _ b3).mono ?_
    rintro e w4 ⟨rfl, hb4⟩
    go_wp2_with fail
    go_ret
    exact ⟨rfl, hb4⟩
  case pos =>
    subst he
    have hlim : limE t m x = 0 := keepS_lim (by rw [hkm.out])
    obtain ⟨_, k2, k3⟩ := slow_worst (fails := fails) hlim
    rw [hwm.out] at k2 k3
    rw [hkm.out] at k3
    dsimp only at k2 k3
    subst k2
    obtain ⟨_, _, hli⟩ := limE_zero.1 hlim
    have hlb := (limB_iff x).1 hli
    obtain ⟨P, hP⟩ : ∃ P, P = x.side * x.side := ⟨_, rfl⟩
    have hPb : x.side * x.side ≤ 200000 * 200000 := Int.mul_le_mul hlb.1.2 hlb.1.2 hlb.1.1 (by decide)
    have hP0 : 0 ≤ x.side * x.side := Int.mul_nonneg hlb.1.1 hlb.1.1
    have hPw : wrap64 (x.side * x.side) = P := by rw [hP]; exact IntWalk.wrap64_in _ (by omega)
    rw [← hP] at k3
    obtain ⟨g1, hg1⟩ : ∃ g1, g1 = decide (ws ≤ P) := ⟨_, rfl⟩
    obtain ⟨g2, hg2⟩ : ∃ g2, g2 = decide (x.low ≤ wl) := ⟨_, rfl⟩
    obtain ⟨g3, hg3⟩ : ∃ g3, g3 = decide (wh ≤ x.high) := ⟨_, rfl⟩
    obtain ⟨g4, hg4⟩ : ∃ g4, g4 = (g1 && g2) := ⟨_, rfl⟩
    obtain ⟨g5, hg5⟩ : ∃ g5, g5 = (g4 && g3) := ⟨_, rfl⟩
    have H4 := Lib.hid hg4
    have H5 := Lib.hid hg5
    have Hk : Hid (kept = g5) := by
      show _ = _
      rw [Bool.eq_iff_iff, k3, hg5, hg4, hg1, hg2, hg3]
      simp [and_assoc]
    have H1 := Lib.hid hg1
    have H2 := Lib.hid hg2
    have H3 := Lib.hid hg3
    have HPw := Lib.hid hPw
    have Hlim := Lib.hid hlim
    clear hg1 hg2 hg3 hg4 hg5 k3 hP hPw hPb hP0 hlb hli hlim
    go_upto_region 8 with (fail)
    refine wp_region_seq 29 (w0 := w3) (ds := [(0, 60), (1, 61), (2, 62), (3, 63), (4, 64), (5, 65), (6, 66), (7, 67), (8, 68), (9, 69), (10, 70), (11, 71), (12, 72), (13, 73), (14, 74), (15, 75), (16, 76), (17, 77), (18, 78), (19, 79), (20, 80), (21, 81), (22, 82), (23, 83), (24, 84), (25, 85), (26, 86), (27, 87), (28, 88)]) (l := [isV ?va0, isV ?va1, isV ?va2, isV ?va3, isV ?va4, isV ?va5, isV ?va6, isV ?va7, isV ?va8, isV ?va9, isV ?va10, isV ?va11, isV (.bool g1), isV ?va13, (fun u _ => g1 = true → u = .int .i64 wl), (fun u _ => g1 = true → u = .pointer (some ⟨w.heap.size, 3, none⟩)), (fun u _ => g1 = true → u = .pointer (some ⟨w.heap.size, 4, none⟩)), (fun u _ => g1 = true → u = .int .i64 x.low), (fun u _ => g1 = true → u = .bool g2), isV (.bool g4), isV ?va20, (fun u _ => g4 = true → u = .int .i64 wh), (fun u _ => g4 = true → u = .pointer (some ⟨w.heap.size, 3, none⟩)), (fun u _ => g4 = true → u = .pointer (some ⟨w.heap.size, 5, none⟩)), (fun u _ => g4 = true → u = .int .i64 x.high), (fun u _ => g4 = true → u = .bool g3), isV (.bool g5), isV (.bool false), isV ?va28]) (by kernel_rfl) (by first | rfl | kernel_rfl) (SeqSteps.cons (k := 0) (k' := 1) rfl ?sa0 (SeqSteps.cons (k := 1) (k' := 2) rfl ?sa1 (SeqSteps.cons (k := 2) (k' := 3) rfl ?sa2 (SeqSteps.cons (k := 3) (k' := 4) rfl ?sa3 (SeqSteps.cons (k := 4) (k' := 5) rfl ?sa4 (SeqSteps.cons (k := 5) (k' := 6) rfl ?sa5 (SeqSteps.cons (k := 6) (k' := 7) rfl ?sa6 (SeqSteps.cons (k := 7) (k' := 8) rfl ?sa7 (SeqSteps.cons (k := 8) (k' := 9) rfl ?sa8 (SeqSteps.cons (k := 9) (k' := 10) rfl ?sa9 (SeqSteps.cons (k := 10) (k' := 11) rfl ?sa10 (SeqSteps.cons (k := 11) (k' := 12) rfl ?sa11 (SeqSteps.cons (k := 12) (k' := 13) rfl ?sa12 (SeqSteps.cons (k := 13) (k' := 14) rfl ?sa13 (SeqSteps.cons (k := 14) (k' := 15) rfl ?sa14 (SeqSteps.cons (k := 15) (k' := 16) rfl ?sa15 (SeqSteps.cons (k := 16) (k' := 17) rfl ?sa16 (SeqSteps.cons (k := 17) (k' := 18) rfl ?sa17 (SeqSteps.cons (k := 18) (k' := 19) rfl ?sa18 (SeqSteps.cons (k := 19) (k' := 20) rfl ?sa19 (SeqSteps.cons (k := 20) (k' := 21) rfl ?sa20 (SeqSteps.cons (k := 21) (k' := 22) rfl ?sa21 (SeqSteps.cons (k := 22) (k' := 23) rfl ?sa22 (SeqSteps.cons (k := 23) (k' := 24) rfl ?sa23 (SeqSteps.cons (k := 24) (k' := 25) rfl ?sa24 (SeqSteps.cons (k := 25) (k' := 26) rfl ?sa25 (SeqSteps.cons (k := 26) (k' := 27) rfl ?sa26 (SeqSteps.cons (k := 27) (k' := 28) rfl ?sa27 (SeqSteps.cons (k := 28) (k' := 29) rfl ?sa28 SeqSteps.nil))))))))))))))))))))))))))))) ?sta ?fina
    case sa0 =>
      refine SeqStep.go (o := ⟨some 60, _, _, _, _, _⟩) rfl rfl (fun xs y hy hV K hK => ?_)
      simp only [putsF, List.foldl_cons, List.foldl_nil, Act.put, List.setIfInBounds_toArray, List.set_cons_zero, List.set_cons_succ] at hK ⊢
      clear hV
      go_wp2_with fail
      exact hK.out _ _ (Below.refl _ _) (by exact rfl)
    case sa1 =>
      refine SeqStep.go (o := ⟨some 61, _, _, _, _, _⟩) rfl rfl (fun xs y hy hV K hK => ?_)
      simp only [putsF, List.foldl_cons, List.foldl_nil, Act.put, List.setIfInBounds_toArray, List.set_cons_zero, List.set_cons_succ] at hK ⊢
      have e0 : xs 0 = _ := hV 0 rfl
      clear hV
      simp only [e0] at hK ⊢
      clear e0
      go_wp2_with fail
      exact hK.out _ _ (Below.refl _ _) (by exact rfl)
    case sa2 =>
      refine SeqStep.go (o := ⟨some 62, _, _, _, _, _⟩) rfl rfl (fun xs y hy hV K hK => ?_)
      simp only [putsF, List.foldl_cons, List.foldl_nil, Act.put, List.setIfInBounds_toArray, List.set_cons_zero, List.set_cons_succ] at hK ⊢
      have e1 : xs 1 = _ := hV 1 rfl
      clear hV
      simp only [e1] at hK ⊢
      clear e1
      go_wp2_with fail
      exact hK.out _ _ (Below.refl _ _) (by exact rfl)
    case sa3 =>
      refine SeqStep.mk (o := ⟨some 63, _, _, _, _, _⟩) rfl (fun xs y hy hV K hK => ?_)
      simp only [putsF, List.foldl_cons, List.foldl_nil, Act.put, List.setIfInBounds_toArray, List.set_cons_zero, List.set_cons_succ] at hK ⊢
      have e2 : xs 2 = _ := hV 2 rfl
      clear hV
      simp only [e2] at hK ⊢
      clear e2
      rw [if_pos (show Region.wanted _ _ = true from by kernel_rfl)]
      go_wp2_with fail
      exact hK.out _ _ (Below.refl _ _) (by exact rfl)
    case sa4 =>
      refine SeqStep.mk (o := ⟨some 64, _, _, _, _, _⟩) rfl (fun xs y hy hV K hK => ?_)
      simp only [putsF, List.foldl_cons, List.foldl_nil, Act.put, List.setIfInBounds_toArray, List.set_cons_zero, List.set_cons_succ] at hK ⊢
      have e2 : xs 2 = _ := hV 2 rfl
      clear hV
      simp only [e2] at hK ⊢
      clear e2
      rw [if_pos (show Region.wanted _ _ = true from by kernel_rfl)]
      go_wp2_with fail
      exact hK.out _ _ (Below.refl _ _) (by exact rfl)
    case sa5 =>
      refine SeqStep.mk (o := ⟨some 65, _, _, _, _, _⟩) rfl (fun xs y hy hV K hK => ?_)
      simp only [putsF, List.foldl_cons, List.foldl_nil, Act.put, List.setIfInBounds_toArray, List.set_cons_zero, List.set_cons_succ] at hK ⊢
      have e2 : xs 2 = _ := hV 2 rfl
      clear hV
      simp only [e2] at hK ⊢
      clear e2
      rw [if_pos (show Region.wanted _ _ = true from by kernel_rfl)]
      go_wp2_with fail
      exact hK.out _ _ (Below.refl _ _) (by exact rfl)
    case sa6 =>
      refine SeqStep.mk (o := ⟨some 66, _, _, _, _, _⟩) rfl (fun xs y hy hV K hK => ?_)
      simp only [putsF, List.foldl_cons, List.foldl_nil, Act.put, List.setIfInBounds_toArray, List.set_cons_zero, List.set_cons_succ] at hK ⊢
      have e5 : xs 5 = _ := hV 5 rfl
      have e2 : xs 2 = _ := hV 2 rfl
      clear hV
      simp only [e5, e2] at hK ⊢
      clear e5 e2
      rw [if_pos (show Region.wanted _ _ = true from by kernel_rfl)]
      go_wp2_with fail
      exact hK.out _ _ (Below.refl _ _) (by exact rfl)
    case sa7 =>
      refine SeqStep.mk (o := ⟨some 67, _, _, _, _, _⟩) rfl (fun xs y hy hV K hK => ?_)
      simp only [putsF, List.foldl_cons, List.foldl_nil, Act.put, List.setIfInBounds_toArray, List.set_cons_zero, List.set_cons_succ] at hK ⊢
      have e6 : xs 6 = _ := hV 6 rfl
      have e2 : xs 2 = _ := hV 2 rfl
      clear hV
      simp only [e6, e2] at hK ⊢
      clear e6 e2
      rw [if_pos (show Region.wanted _ _ = true from by kernel_rfl)]
      obtain ⟨_, q0, q1, q2, q3, q4, q5, q6⟩ := row_at7 (r3.below hy z3)
      go_wp2_with fail
      exact hK.out _ _ (Below.refl _ _) (by exact rfl)
    case sa8 =>
      refine SeqStep.mk (o := ⟨some 68, _, _, _, _, _⟩) rfl (fun xs y hy hV K hK => ?_)
      simp only [putsF, List.foldl_cons, List.foldl_nil, Act.put, List.setIfInBounds_toArray, List.set_cons_zero, List.set_cons_succ] at hK ⊢
      have e2 : xs 2 = _ := hV 2 rfl
      clear hV
      simp only [e2] at hK ⊢
      clear e2
      rw [if_pos (show Region.wanted _ _ = true from by kernel_rfl)]
      go_wp2_with fail
      exact hK.out _ _ (Below.refl _ _) (by exact rfl)
    case sa9 =>
      refine SeqStep.mk (o := ⟨some 69, _, _, _, _, _⟩) rfl (fun xs y hy hV K hK => ?_)
      simp only [putsF, List.foldl_cons, List.foldl_nil, Act.put, List.setIfInBounds_toArray, List.set_cons_zero, List.set_cons_succ] at hK ⊢
      have e8 : xs 8 = _ := hV 8 rfl
      have e2 : xs 2 = _ := hV 2 rfl
      clear hV
      simp only [e8, e2] at hK ⊢
      clear e8 e2
      rw [if_pos (show Region.wanted _ _ = true from by kernel_rfl)]
      go_wp2_with fail
      exact hK.out _ _ (Below.refl _ _) (by exact rfl)
    case sa10 =>
      refine SeqStep.mk (o := ⟨some 70, _, _, _, _, _⟩) rfl (fun xs y hy hV K hK => ?_)
      simp only [putsF, List.foldl_cons, List.foldl_nil, Act.put, List.setIfInBounds_toArray, List.set_cons_zero, List.set_cons_succ] at hK ⊢
      have e9 : xs 9 = _ := hV 9 rfl
      have e2 : xs 2 = _ := hV 2 rfl
      clear hV
      simp only [e9, e2] at hK ⊢
      clear e9 e2
      rw [if_pos (show Region.wanted _ _ = true from by kernel_rfl)]
      obtain ⟨_, q0, q1, q2, q3, q4, q5, q6⟩ := row_at7 (r3.below hy z3)
      go_wp2_with fail
      exact hK.out _ _ (Below.refl _ _) (by exact rfl)
    case sa11 =>
      refine SeqStep.mk (o := ⟨some 71, _, _, _, _, _⟩) rfl (fun xs y hy hV K hK => ?_)
      simp only [putsF, List.foldl_cons, List.foldl_nil, Act.put, List.setIfInBounds_toArray, List.set_cons_zero, List.set_cons_succ] at hK ⊢
      have e7 : xs 7 = _ := hV 7 rfl
      have e10 : xs 10 = _ := hV 10 rfl
      have e2 : xs 2 = _ := hV 2 rfl
      clear hV
      simp only [e7, e10, e2] at hK ⊢
      clear e7 e10 e2
      rw [if_pos (show Region.wanted _ _ = true from by kernel_rfl)]
      go_wp2_with fail
      exact hK.out _ _ (Below.refl _ _) (by exact rfl)
    case sa12 =>
      refine SeqStep.mk (o := ⟨some 72, _, _, _, _, _⟩) rfl (fun xs y hy hV K hK => ?_)
      simp only [putsF, List.foldl_cons, List.foldl_nil, Act.put, List.setIfInBounds_toArray, List.set_cons_zero, List.set_cons_succ] at hK ⊢
      have e4 : xs 4 = _ := hV 4 rfl
      have e11 : xs 11 = _ := hV 11 rfl
      have e2 : xs 2 = _ := hV 2 rfl
      clear hV
      simp only [e4, e11, e2] at hK ⊢
      clear e4 e11 e2
      rw [if_pos (show Region.wanted _ _ = true from by kernel_rfl)]
      go_wp2_with fail
      exact hK.out _ _ (Below.refl _ _) (by show _ = _; rw [H1.out, HPw.out])
    case sa13 =>
      refine SeqStep.mk (o := ⟨some 73, _, _, _, _, _⟩) rfl (fun xs y hy hV K hK => ?_)
      simp only [putsF, List.foldl_cons, List.foldl_nil, Act.put, List.setIfInBounds_toArray, List.set_cons_zero, List.set_cons_succ] at hK ⊢
      have e12 : xs 12 = _ := (hV 12 rfl)
      have e2 : xs 2 = _ := hV 2 rfl
      clear hV
      simp only [e12, e2] at hK ⊢
      clear e12 e2
      rw [if_pos (show Region.wanted _ _ = true from by kernel_rfl)]
      go_wp2_with fail
      exact hK.out _ _ (Below.refl _ _) (by exact rfl)
    case sa14 =>
      refine SeqStep.mk (o := ⟨some 74, _, _, _, _, _⟩) rfl (fun xs y hy hV K hK => ?_)
      simp only [putsF, List.foldl_cons, List.foldl_nil, Act.put, List.setIfInBounds_toArray, List.set_cons_zero, List.set_cons_succ] at hK ⊢
      have e13 : xs 13 = _ := hV 13 rfl
      clear hV
      simp only [e13] at hK ⊢
      clear e13
      cases g1 with
      | true =>
        rw [if_pos (show Region.wanted _ _ = true from by kernel_rfl)]
        go_wp2_with fail
        exact hK.out _ _ (Below.refl _ _) (fun _ => rfl)
      | false =>
        rw [if_neg (not_wanted (show Region.wanted _ _ = false from by kernel_rfl))]
        exact hK.out _ _ (Below.refl _ _) (fun h => by cases h)
    case sa15 =>
      refine SeqStep.mk (o := ⟨some 75, _, _, _, _, _⟩) rfl (fun xs y hy hV K hK => ?_)
      simp only [putsF, List.foldl_cons, List.foldl_nil, Act.put, List.setIfInBounds_toArray, List.set_cons_zero, List.set_cons_succ] at hK ⊢
      have e13 : xs 13 = _ := hV 13 rfl
      clear hV
      simp only [e13] at hK ⊢
      clear e13
      cases g1 with
      | true =>
        rw [if_pos (show Region.wanted _ _ = true from by kernel_rfl)]
        go_wp2_with fail
        exact hK.out _ _ (Below.refl _ _) (fun _ => rfl)
      | false =>
        rw [if_neg (not_wanted (show Region.wanted _ _ = false from by kernel_rfl))]
        exact hK.out _ _ (Below.refl _ _) (fun h => by cases h)
    case sa16 =>
      refine SeqStep.mk (o := ⟨some 76, _, _, _, _, _⟩) rfl (fun xs y hy hV K hK => ?_)
      simp only [putsF, List.foldl_cons, List.foldl_nil, Act.put, List.setIfInBounds_toArray, List.set_cons_zero, List.set_cons_succ] at hK ⊢
      have e13 : xs 13 = _ := hV 13 rfl
      have h15 : g1 = true → xs 15 = .pointer (some ⟨w.heap.size, 3, none⟩) := hV 15 rfl
      clear hV
      simp only [e13] at hK ⊢
      clear e13
      cases g1 with
      | true =>
        have h15 := h15 rfl
        simp only [h15] at hK ⊢
        rw [if_pos (show Region.wanted _ _ = true from by kernel_rfl)]
        go_wp2_with fail
        exact hK.out _ _ (Below.refl _ _) (fun _ => rfl)
      | false =>
        rw [if_neg (not_wanted (show Region.wanted _ _ = false from by kernel_rfl))]
        exact hK.out _ _ (Below.refl _ _) (fun h => by cases h)
    case sa17 =>
      refine SeqStep.mk (o := ⟨some 77, _, _, _, _, _⟩) rfl (fun xs y hy hV K hK => ?_)
      simp only [putsF, List.foldl_cons, List.foldl_nil, Act.put, List.setIfInBounds_toArray, List.set_cons_zero, List.set_cons_succ] at hK ⊢
      have e13 : xs 13 = _ := hV 13 rfl
      have h16 : g1 = true → xs 16 = .pointer (some ⟨w.heap.size, 4, none⟩) := hV 16 rfl
      clear hV
      simp only [e13] at hK ⊢
      clear e13
      cases g1 with
      | true =>
        have h16 := h16 rfl
        simp only [h16] at hK ⊢
        rw [if_pos (show Region.wanted _ _ = true from by kernel_rfl)]
        obtain ⟨_, q0, q1, q2, q3, q4, q5, q6⟩ := row_at7 (r3.below hy z3)
        go_wp2_with fail
        exact hK.out _ _ (Below.refl _ _) (fun _ => rfl)
      | false =>
        rw [if_neg (not_wanted (show Region.wanted _ _ = false from by kernel_rfl))]
        exact hK.out _ _ (Below.refl _ _) (fun h => by cases h)
    case sa18 =>
      refine SeqStep.mk (o := ⟨some 78, _, _, _, _, _⟩) rfl (fun xs y hy hV K hK => ?_)
      simp only [putsF, List.foldl_cons, List.foldl_nil, Act.put, List.setIfInBounds_toArray, List.set_cons_zero, List.set_cons_succ] at hK ⊢
      have e13 : xs 13 = _ := hV 13 rfl
      have h14 : g1 = true → xs 14 = .int .i64 wl := hV 14 rfl
      have h17 : g1 = true → xs 17 = .int .i64 x.low := hV 17 rfl
      clear hV
      simp only [e13] at hK ⊢
      clear e13
      cases g1 with
      | true =>
        have h14 := h14 rfl
        have h17 := h17 rfl
        simp only [h14, h17] at hK ⊢
        rw [if_pos (show Region.wanted _ _ = true from by kernel_rfl)]
        go_wp2_with fail
        exact hK.out _ _ (Below.refl _ _) (fun _ => by show _ = _; rw [H2.out])
      | false =>
        rw [if_neg (not_wanted (show Region.wanted _ _ = false from by kernel_rfl))]
        exact hK.out _ _ (Below.refl _ _) (fun h => by cases h)
    case sa19 =>
      refine SeqStep.mk (o := ⟨some 79, _, _, _, _, _⟩) rfl (fun xs y hy hV K hK => ?_)
      simp only [putsF, List.foldl_cons, List.foldl_nil, Act.put, List.setIfInBounds_toArray, List.set_cons_zero, List.set_cons_succ] at hK ⊢
      have e13 : xs 13 = _ := hV 13 rfl
      have e2 : xs 2 = _ := hV 2 rfl
      have h18 : g1 = true → xs 18 = .bool g2 := hV 18 rfl
      clear hV
      simp only [e13, e2] at hK ⊢
      clear e13 e2
      rw [if_pos (show Region.wanted _ _ = true from by kernel_rfl)]
      cases g1 with
      | true =>
        have h18 := h18 rfl
        simp only [h18] at hK ⊢
        go_wp2_with fail
        exact hK.out _ _ (Below.refl _ _) (by show _ = _; rw [H4.out]; rfl)
      | false =>
        go_wp2_with fail
        exact hK.out _ _ (Below.refl _ _) (by show _ = _; rw [H4.out]; rfl)
    case sa20 =>
      refine SeqStep.mk (o := ⟨some 80, _, _, _, _, _⟩) rfl (fun xs y hy hV K hK => ?_)
      simp only [putsF, List.foldl_cons, List.foldl_nil, Act.put, List.setIfInBounds_toArray, List.set_cons_zero, List.set_cons_succ] at hK ⊢
      have e19 : xs 19 = _ := (hV 19 rfl)
      have e2 : xs 2 = _ := hV 2 rfl
      clear hV
      simp only [e19, e2] at hK ⊢
      clear e19 e2
      rw [if_pos (show Region.wanted _ _ = true from by kernel_rfl)]
      go_wp2_with fail
      exact hK.out _ _ (Below.refl _ _) (by exact rfl)
    case sa21 =>
      refine SeqStep.mk (o := ⟨some 81, _, _, _, _, _⟩) rfl (fun xs y hy hV K hK => ?_)
      simp only [putsF, List.foldl_cons, List.foldl_nil, Act.put, List.setIfInBounds_toArray, List.set_cons_zero, List.set_cons_succ] at hK ⊢
      have e20 : xs 20 = _ := hV 20 rfl
      clear hV
      simp only [e20] at hK ⊢
      clear e20
      cases g4 with
      | true =>
        rw [if_pos (show Region.wanted _ _ = true from by kernel_rfl)]
        go_wp2_with fail
        exact hK.out _ _ (Below.refl _ _) (fun _ => rfl)
      | false =>
        rw [if_neg (not_wanted (show Region.wanted _ _ = false from by kernel_rfl))]
        exact hK.out _ _ (Below.refl _ _) (fun h => by cases h)
    case sa22 =>
      refine SeqStep.mk (o := ⟨some 82, _, _, _, _, _⟩) rfl (fun xs y hy hV K hK => ?_)
      simp only [putsF, List.foldl_cons, List.foldl_nil, Act.put, List.setIfInBounds_toArray, List.set_cons_zero, List.set_cons_succ] at hK ⊢
      have e20 : xs 20 = _ := hV 20 rfl
      clear hV
      simp only [e20] at hK ⊢
      clear e20
      cases g4 with
      | true =>
        rw [if_pos (show Region.wanted _ _ = true from by kernel_rfl)]
        go_wp2_with fail
        exact hK.out _ _ (Below.refl _ _) (fun _ => rfl)
      | false =>
        rw [if_neg (not_wanted (show Region.wanted _ _ = false from by kernel_rfl))]
        exact hK.out _ _ (Below.refl _ _) (fun h => by cases h)
    case sa23 =>
      refine SeqStep.mk (o := ⟨some 83, _, _, _, _, _⟩) rfl (fun xs y hy hV K hK => ?_)
      simp only [putsF, List.foldl_cons, List.foldl_nil, Act.put, List.setIfInBounds_toArray, List.set_cons_zero, List.set_cons_succ] at hK ⊢
      have e20 : xs 20 = _ := hV 20 rfl
      have h22 : g4 = true → xs 22 = .pointer (some ⟨w.heap.size, 3, none⟩) := hV 22 rfl
      clear hV
      simp only [e20] at hK ⊢
      clear e20
      cases g4 with
      | true =>
        have h22 := h22 rfl
        simp only [h22] at hK ⊢
        rw [if_pos (show Region.wanted _ _ = true from by kernel_rfl)]
        go_wp2_with fail
        exact hK.out _ _ (Below.refl _ _) (fun _ => rfl)
      | false =>
        rw [if_neg (not_wanted (show Region.wanted _ _ = false from by kernel_rfl))]
        exact hK.out _ _ (Below.refl _ _) (fun h => by cases h)
    case sa24 =>
      refine SeqStep.mk (o := ⟨some 84, _, _, _, _, _⟩) rfl (fun xs y hy hV K hK => ?_)
      simp only [putsF, List.foldl_cons, List.foldl_nil, Act.put, List.setIfInBounds_toArray, List.set_cons_zero, List.set_cons_succ] at hK ⊢
      have e20 : xs 20 = _ := hV 20 rfl
      have h23 : g4 = true → xs 23 = .pointer (some ⟨w.heap.size, 5, none⟩) := hV 23 rfl
      clear hV
      simp only [e20] at hK ⊢
      clear e20
      cases g4 with
      | true =>
        have h23 := h23 rfl
        simp only [h23] at hK ⊢
        rw [if_pos (show Region.wanted _ _ = true from by kernel_rfl)]
        obtain ⟨_, q0, q1, q2, q3, q4, q5, q6⟩ := row_at7 (r3.below hy z3)
        go_wp2_with fail
        exact hK.out _ _ (Below.refl _ _) (fun _ => rfl)
      | false =>
        rw [if_neg (not_wanted (show Region.wanted _ _ = false from by kernel_rfl))]
        exact hK.out _ _ (Below.refl _ _) (fun h => by cases h)
    case sa25 =>
      refine SeqStep.mk (o := ⟨some 85, _, _, _, _, _⟩) rfl (fun xs y hy hV K hK => ?_)
      simp only [putsF, List.foldl_cons, List.foldl_nil, Act.put, List.setIfInBounds_toArray, List.set_cons_zero, List.set_cons_succ] at hK ⊢
      have e20 : xs 20 = _ := hV 20 rfl
      have h21 : g4 = true → xs 21 = .int .i64 wh := hV 21 rfl
      have h24 : g4 = true → xs 24 = .int .i64 x.high := hV 24 rfl
      clear hV
      simp only [e20] at hK ⊢
      clear e20
      cases g4 with
      | true =>
        have h21 := h21 rfl
        have h24 := h24 rfl
        simp only [h21, h24] at hK ⊢
        rw [if_pos (show Region.wanted _ _ = true from by kernel_rfl)]
        go_wp2_with fail
        exact hK.out _ _ (Below.refl _ _) (fun _ => by show _ = _; rw [H3.out])
      | false =>
        rw [if_neg (not_wanted (show Region.wanted _ _ = false from by kernel_rfl))]
        exact hK.out _ _ (Below.refl _ _) (fun h => by cases h)
    case sa26 =>
      refine SeqStep.mk (o := ⟨some 86, _, _, _, _, _⟩) rfl (fun xs y hy hV K hK => ?_)
      simp only [putsF, List.foldl_cons, List.foldl_nil, Act.put, List.setIfInBounds_toArray, List.set_cons_zero, List.set_cons_succ] at hK ⊢
      have e20 : xs 20 = _ := hV 20 rfl
      have e2 : xs 2 = _ := hV 2 rfl
      have h25 : g4 = true → xs 25 = .bool g3 := hV 25 rfl
      clear hV
      simp only [e20, e2] at hK ⊢
      clear e20 e2
      rw [if_pos (show Region.wanted _ _ = true from by kernel_rfl)]
      cases g4 with
      | true =>
        have h25 := h25 rfl
        simp only [h25] at hK ⊢
        go_wp2_with fail
        exact hK.out _ _ (Below.refl _ _) (by show _ = _; rw [H5.out]; rfl)
      | false =>
        go_wp2_with fail
        exact hK.out _ _ (Below.refl _ _) (by show _ = _; rw [H5.out]; rfl)
    case sa27 =>
      refine SeqStep.mk (o := ⟨some 87, _, _, _, _, _⟩) rfl (fun xs y hy hV K hK => ?_)
      simp only [putsF, List.foldl_cons, List.foldl_nil, Act.put, List.setIfInBounds_toArray, List.set_cons_zero, List.set_cons_succ] at hK ⊢
      have e3 : xs 3 = _ := hV 3 rfl
      have e26 : xs 26 = _ := (hV 26 rfl)
      have e2 : xs 2 = _ := hV 2 rfl
      clear hV
      simp only [e3, e26, e2] at hK ⊢
      clear e3 e26 e2
      rw [if_pos (show Region.wanted _ _ = true from by kernel_rfl)]
      rw [Hk.out] at hK ⊢
      go_wp2_with fail
      exact hK.out _ _ (Below.refl _ _) (by show _ = _; simp)
    case sa28 =>
      refine SeqStep.go (o := ⟨some 88, _, _, _, _, _⟩) rfl rfl (fun xs y hy hV K hK => ?_)
      simp only [putsF, List.foldl_cons, List.foldl_nil, Act.put, List.setIfInBounds_toArray, List.set_cons_zero, List.set_cons_succ] at hK ⊢
      have e2 : xs 2 = _ := hV 2 rfl
      have e27 : xs 27 = _ := (hV 27 rfl)
      clear hV
      simp only [e2, e27] at hK ⊢
      clear e2 e27
      go_wp2_with fail
      exact hK.out _ _ (Below.refl _ _) (by exact rfl)
    case sta => exact (AllSt.cons (stable_isV _) (AllSt.cons (stable_isV _) (AllSt.cons (stable_isV _) (AllSt.cons (stable_isV _) (AllSt.cons (stable_isV _) (AllSt.cons (stable_isV _) (AllSt.cons (stable_isV _) (AllSt.cons (stable_isV _) (AllSt.cons (stable_isV _) (AllSt.cons (stable_isV _) (AllSt.cons (stable_isV _) (AllSt.cons (stable_isV _) (AllSt.cons (stable_isV _) (AllSt.cons (stable_isV _) (AllSt.cons (fun _ _ _ h _ => h) (AllSt.cons (fun _ _ _ h _ => h) (AllSt.cons (fun _ _ _ h _ => h) (AllSt.cons (fun _ _ _ h _ => h) (AllSt.cons (fun _ _ _ h _ => h) (AllSt.cons (stable_isV _) (AllSt.cons (stable_isV _) (AllSt.cons (fun _ _ _ h _ => h) (AllSt.cons (fun _ _ _ h _ => h) (AllSt.cons (fun _ _ _ h _ => h) (AllSt.cons (fun _ _ _ h _ => h) (AllSt.cons (fun _ _ _ h _ => h) (AllSt.cons (stable_isV _) (AllSt.cons (stable_isV _) (AllSt.cons (stable_isV _) AllSt.nil)))))))))))))))))))))))))))))
    case fina =>
      intro xs y hy hV
      simp only [putsF, List.foldl_cons, List.foldl_nil, Act.put, List.setIfInBounds_toArray, List.set_cons_zero, List.set_cons_succ]
      have e0 : xs 0 = _ := hV 0 (by decide)
      have e1 : xs 1 = _ := hV 1 (by decide)
      have e2 : xs 2 = _ := hV 2 (by decide)
      have e3 : xs 3 = _ := hV 3 (by decide)
      have e4 : xs 4 = _ := hV 4 (by decide)
      have e5 : xs 5 = _ := hV 5 (by decide)
      have e6 : xs 6 = _ := hV 6 (by decide)
      have e7 : xs 7 = _ := hV 7 (by decide)
      have e8 : xs 8 = _ := hV 8 (by decide)
      have e9 : xs 9 = _ := hV 9 (by decide)
      have e10 : xs 10 = _ := hV 10 (by decide)
      have e11 : xs 11 = _ := hV 11 (by decide)
      have e12 : xs 12 = _ := (hV 12 (by decide))
      have e13 : xs 13 = _ := hV 13 (by decide)
      have e19 : xs 19 = _ := (hV 19 (by decide))
      have e20 : xs 20 = _ := hV 20 (by decide)
      have e26 : xs 26 = _ := (hV 26 (by decide))
      have e27 : xs 27 = _ := (hV 27 (by decide))
      have e28 : xs 28 = _ := hV 28 (by decide)
      clear hV
      simp only [e0, e1, e2, e3, e4, e5, e6, e7, e8, e9, e10, e11, e12, e13, e19, e20, e26, e27, e28]
      clear e0 e1 e2 e3 e4 e5 e6 e7 e8 e9 e10 e11 e12 e13 e19 e20 e26 e27 e28
      have b4 := b3.trans (hy.mono b3.size)
      have r4 := r3.below hy z3
      have z4 := r4.lt
      have hr4 := (hr3.below hy).more hy.size
      clear r3 z3 hr3 b3
      obtain ⟨_, q0, q1, q2, q3, q4, q5, q6⟩ := row_at7 r4
      go_upto_region 11 with (refine wpList_bs3 rfl (.tmp 90) (.tmp 92) (.tmp 94) rfl m.top m.ease m.jerk rfl rfl rfl ?_)
      obtain ⟨Y, hY⟩ : ∃ Y, Y = y.alloc (.cells #[.int .i64 m.top, .int .i64 m.ease, .int .i64 m.jerk, .int .i64 m.top, .int .i64 m.ease, .int .i64 m.jerk, .int .i64 m.top, .int .i64 m.ease, .int .i64 m.jerk] 35) := ⟨_, rfl⟩
      rw [← hY]
      have b5 : Below w.heap.size w Y := by subst hY; exact b4.alloc b4.size _
      have r5 : Row Y w.heap.size 39 [.int .i64 m.top, .int .i64 m.ease, .int .i64 m.jerk, .int .i64 x.side, .int .i64 x.low, .int .i64 x.high, .bool fails] := by subst hY; exact r4.alloc _
      have hr5 : Reads Y y.heap.size 3 A1 t.length (ptCells t) := by subst hY; exact hr4.alloc (Nat.le_refl _) _
      have n5 : Row Y y.heap.size 35 [.int .i64 m.top, .int .i64 m.ease, .int .i64 m.jerk, .int .i64 m.top, .int .i64 m.ease, .int .i64 m.jerk, .int .i64 m.top, .int .i64 m.ease, .int .i64 m.jerk] := by subst hY; exact Row.new y _ _
      have hmo := (motB_iff m).1 (limE_zero.1 Hlim.out).2.1
      clear hY q0 q1 q2 q3 q4 q5 q6 r4 hr4
      obtain ⟨_, n0, n1, n2⟩ := row_at9 n5
      have w1e : wrap64 (m.top - 1) = m.top - 1 := IntWalk.wrap64_in _ (by omega)
      have w2e : wrap64 (m.ease - 1) = m.ease - 1 := IntWalk.wrap64_in _ (by omega)
      have w3e : wrap64 (m.jerk - 1) = m.jerk - 1 := IntWalk.wrap64_in _ (by omega)
      go_upto_region 14 with (fail)
      have z9' : w.heap.size ≠ y.heap.size := Nat.ne_of_lt z4
      obtain ⟨Z, hZ⟩ : ∃ Z, Z = (((Y.setCell ⟨y.heap.size, 0, none⟩ (.int .i64 (m.top - 1))).setCell ⟨y.heap.size, 4, none⟩ (.int .i64 (m.ease - 1))).setCell ⟨y.heap.size, 8, none⟩ (.int .i64 (m.jerk - 1))) := ⟨_, rfl⟩
      rw [← hZ]
      have b6 : Below w.heap.size w Z := by subst hZ; exact ((b5.setCell (p := ⟨y.heap.size, 0, none⟩) b4.size _).setCell (p := ⟨y.heap.size, 4, none⟩) b4.size _).setCell (p := ⟨y.heap.size, 8, none⟩) b4.size _
      have r6 : Row Z w.heap.size 39 [.int .i64 m.top, .int .i64 m.ease, .int .i64 m.jerk, .int .i64 x.side, .int .i64 x.low, .int .i64 x.high, .bool fails] := by subst hZ; exact ((r5.far (p := ⟨y.heap.size, 0, none⟩) z9' _).far (p := ⟨y.heap.size, 4, none⟩) z9' _).far (p := ⟨y.heap.size, 8, none⟩) z9' _
      have n6 : Row Z y.heap.size 35 [.int .i64 (m.top - 1), .int .i64 m.ease, .int .i64 m.jerk, .int .i64 m.top, .int .i64 (m.ease - 1), .int .i64 m.jerk, .int .i64 m.top, .int .i64 m.ease, .int .i64 (m.jerk - 1)] := by
        subst hZ
        have h := ((n5.set 0 (.int .i64 (m.top - 1))).set 4 (.int .i64 (m.ease - 1))).set 8 (.int .i64 (m.jerk - 1))
        simpa only [List.set_cons_zero, List.set_cons_succ] using h
      have hr6 : Reads Z y.heap.size 3 A1 t.length (ptCells t) := by subst hZ; exact ((hr5.setCell (p := ⟨y.heap.size, 0, none⟩) (Nat.le_refl _) _).setCell (p := ⟨y.heap.size, 4, none⟩) (Nat.le_refl _) _).setCell (p := ⟨y.heap.size, 8, none⟩) (Nat.le_refl _) _
      obtain ⟨Ml, hMl⟩ : ∃ Ml : List Pt, Ml = [⟨m.top - 1, m.ease, m.jerk⟩, ⟨m.top, m.ease - 1, m.jerk⟩, ⟨m.top, m.ease, m.jerk - 1⟩] := ⟨_, rfl⟩
      have hm6 : Reads Z (y.heap.size + 1) 3 (some ⟨y.heap.size, 0, none⟩) 3 (ptCells Ml) := by subst hMl; exact n6.reads rfl (Nat.lt_succ_self _)
      have hMl3 : Ml.length = 3 := by subst hMl; rfl
      have HL : Hid (∀ (k : Nat) (p : Pt), Ml[k]? = some p → p.x ≤ m.top ∧ p.y ≤ m.ease ∧ p.z ≤ m.jerk) := fun k p hp => by
        subst hMl
        have := List.mem_of_getElem? hp
        simp at this
        rcases this with rfl | rfl | rfl <;> (dsimp only; omega)
      have z6 := n6.lt
      obtain ⟨g9, hg9⟩ : ∃ g9, g9 = y.heap.size := ⟨_, rfl⟩
      rw [← hg9] at hr6 hm6 z6 ⊢
      have hMl3 := Lib.hid hMl3
      clear hMl n6 n5 hZ hg9 z9' b5 r5 hr5 n0 n1 n2 w1e w2e w3e z4
      have zr := r6.lt
      go_wp2_with fail
      go_loopw [14] (fun i wr => ∃ k : Nat, k ≤ 3 ∧ i = .int .i64 k ∧ Below Z.heap.size Z wr) (fun i _ => 3 - (intOf i).toNat)
      case atStart => exact ⟨0, by omega, rfl, Below.refl _ _⟩
      case round =>
        obtain ⟨k, hk, rfl, hbel⟩ := hrel
        have bwr := b6.trans (hbel.mono b6.size)
        have rwr := r6.below hbel zr
        have zwr := rwr.lt
        have hrw : Reads wr g9 3 A1 t.length (ptCells t) := hr6.below (hbel.mono (Nat.le_of_lt z6))
        have z9 : g9 < wr.heap.size := Nat.lt_of_lt_of_le z6 hbel.size
        have HRw : Hid (∀ X, Below wr.heap.size wr X → Reads X X.heap.size 3 A1 t.length (ptCells t)) := fun X hX => (hrw.below (hX.mono (Nat.le_of_lt z9))).more (Nat.le_trans (Nat.le_of_lt z9) hX.size)
        clear hrw
        by_cases hlt : k < 3
        · obtain ⟨p, hp⟩ : ∃ p, Ml[k]? = some p := ⟨_, List.getElem?_eq_getElem (by rw [hMl3.out]; exact hlt)⟩
          obtain ⟨d1, d2, d3⟩ := HL.out k p hp
          have hkl : (k : Int) < 3 := by omega
          have hk0 : (0 : Int) ≤ (k : Int) := by omega
          have e3 : IntKind.i64.wrap ((k : Int) + 1) = (k : Int) + 1 := IntWalk.i64_in _ (by omega)
          obtain ⟨b, o, eA, hb, k0, k1, k2⟩ := (hm6.below (hbel.mono z6)).atp hlt
          injection eA with eA
          injection eA with eb eo
          subst eb
          subst eo
          have hpp : ptAt Ml k = p := by simp [ptAt, hp]
          rw [hpp] at k0 k1 k2
          simp only [Nat.zero_add] at k0 k1 k2
          obtain ⟨⟨ch2, bo, er2⟩, hke⟩ : ∃ q, q = keepS t ⟨p.x, p.y, p.z⟩ x fails := ⟨_, rfl⟩
          have HKp : Hid (∀ X, Reads X X.heap.size 3 A1 t.length (ptCells t) → Calls Try.prog 20 #[.slice A1 t.length c1, .agg #[.int .i64 p.x, .int .i64 p.y, .int .i64 p.z], .agg #[.int .i64 x.side, .int .i64 x.low, .int .i64 x.high], .bool fails] X fun e w' => e = .returned (.tuple #[.agg #[.int .i64 (ch2.ph : Int), .int .i64 (ch2.bf : Int), .int .i64 (ch2.af : Int)], .bool bo, .int .i64 er2]) ∧ Below X.heap.size X w') := fun X hX => (HK.out X ⟨p.x, p.y, p.z⟩ A1 c1 hX).mono fun e w' h => by
            obtain ⟨⟨a1, a2, a3, h1, h2⟩, h3⟩ := h
            have h1 := h1.out
            rw [← hke] at h1
            injection h1 with h4 h5
            injection h5 with h5 h6
            subst h4 h5 h6
            exact ⟨h2, h3⟩
          have HS : Hid (er2 = 0 → kept = true → bo = true) := fun h1 h2 => by
            have h := slow_less (t := t) (m := m) (m' := ⟨p.x, p.y, p.z⟩) (x := x) (fails := fails) Hlim.out (by rw [← hke]; exact h1) (by rw [hkm.out]; exact h2) d1 d2 d3
            rw [← hke] at h
            exact h
          clear hke hpp hp d1 d2 d3
          go_upto_region 17 with (fail)
          refine wp_region_store 18 14 15 16 2 (w0 := wr) (ord := [0, 1, 2, 3, 4, 5, 6, 7, 8, 9, 10, 11, 12, 13, 14, 15, 16, 17]) (ds := [(0, 124), (1, 125), (2, 126), (3, 127), (4, 128), (5, 129), (6, 130), (7, 131), (8, 132), (9, 133), (10, 123), (11, 134), (12, 135), (13, 136), (14, 15), (16, 16), (17, 17)]) (l := [isV (.slice A1 t.length c1), isV (.slice (some ⟨g9, 0, none⟩) 3 3), isV (.int .i64 (k : Int)), isV (.pointer (some ⟨g9, k * 3, none⟩)), isV (.agg #[.int .i64 p.x, .int .i64 p.y, .int .i64 p.z]), isV (.pointer (some ⟨w.heap.size, 3, none⟩)), isV (.agg #[.int .i64 x.side, .int .i64 x.low, .int .i64 x.high]), isV (.pointer (some ⟨w.heap.size, 6, none⟩)), isV (.bool fails), isV (.tuple #[.agg #[.int .i64 (ch2.ph : Int), .int .i64 (ch2.bf : Int), .int .i64 (ch2.af : Int)], .bool bo, .int .i64 er2]), isV (.tuple #[.agg #[.int .i64 (ch2.ph : Int), .int .i64 (ch2.bf : Int), .int .i64 (ch2.af : Int)], .bool bo, .int .i64 er2]), isV (.agg #[.int .i64 (ch2.ph : Int), .int .i64 (ch2.bf : Int), .int .i64 (ch2.af : Int)]), isV (.bool bo), isV (.int .i64 er2), isPlace wr.heap.size 24 3, anyV, isV (.bool bo), isV (.int .i64 er2)]) (holdsRow 24 [.int .i64 (ch2.ph : Int), .int .i64 (ch2.bf : Int), .int .i64 (ch2.af : Int)]) rfl rfl (by kernel_rfl) (by kernel_rfl) (by first | rfl | kernel_rfl) (by kernel_rfl) rfl (AddSteps.cons (k := 0) (k' := 1) rfl ?sb0 (AddSteps.cons (k := 1) (k' := 2) rfl ?sb1 (AddSteps.cons (k := 2) (k' := 3) rfl ?sb2 (AddSteps.cons (k := 3) (k' := 4) rfl ?sb3 (AddSteps.cons (k := 4) (k' := 5) rfl ?sb4 (AddSteps.cons (k := 5) (k' := 6) rfl ?sb5 (AddSteps.cons (k := 6) (k' := 7) rfl ?sb6 (AddSteps.cons (k := 7) (k' := 8) rfl ?sb7 (AddSteps.cons (k := 8) (k' := 9) rfl ?sb8 (AddSteps.cons (k := 9) (k' := 10) rfl ?sb9 (AddSteps.cons (k := 10) (k' := 11) rfl ?sb10 (AddSteps.cons (k := 11) (k' := 12) rfl ?sb11 (AddSteps.cons (k := 12) (k' := 13) rfl ?sb12 (AddSteps.cons (k := 13) (k' := 14) rfl ?sb13 (AddSteps.cons (k := 14) (k' := 15) rfl ?sb14 AddSteps.nil))))))))))))))) ?ssb (AddSteps.cons (k := 16) (k' := 17) rfl ?sb16 (AddSteps.cons (k := 17) (k' := 18) rfl ?sb17 AddSteps.nil)) rfl ?stb (stable_holdsRow _ _) ?finb
          case sb0 =>
            refine AddStep.go (o := ⟨some 124, _, _, _, _, _⟩) rfl rfl (fun xs y hy hV K hK => ?_)
            clear hV
            simp only [putsF, List.foldl_cons, List.foldl_nil, Act.put, List.setIfInBounds_toArray, List.set_cons_zero, List.set_cons_succ] at hK ⊢
            go_wp2_with fail
            exact hK.out _ _ (Below.refl _ _) (by exact rfl)
          case sb1 =>
            refine AddStep.go (o := ⟨some 125, _, _, _, _, _⟩) rfl rfl (fun xs y hy hV K hK => ?_)
            clear hV
            simp only [putsF, List.foldl_cons, List.foldl_nil, Act.put, List.setIfInBounds_toArray, List.set_cons_zero, List.set_cons_succ] at hK ⊢
            go_wp2_with fail
            exact hK.out _ _ (Below.refl _ _) (by exact rfl)
          case sb2 =>
            refine AddStep.go (o := ⟨some 126, _, _, _, _, _⟩) rfl rfl (fun xs y hy hV K hK => ?_)
            clear hV
            simp only [putsF, List.foldl_cons, List.foldl_nil, Act.put, List.setIfInBounds_toArray, List.set_cons_zero, List.set_cons_succ] at hK ⊢
            go_wp2_with fail
            exact hK.out _ _ (Below.refl _ _) (by exact rfl)
          case sb3 =>
            refine AddStep.go (o := ⟨some 127, _, _, _, _, _⟩) rfl rfl (fun xs y hy hV K hK => ?_)
            have e1 : xs 1 = .slice (some ⟨g9, 0, none⟩) 3 3 := (hV 1 (by kernel_rfl))
            have e2 : xs 2 = .int .i64 (k : Int) := (hV 2 (by kernel_rfl))
            clear hV
            simp only [putsF, List.foldl_cons, List.foldl_nil, Act.put, List.setIfInBounds_toArray, List.set_cons_zero, List.set_cons_succ] at hK ⊢
            simp only [e1, e2] at hK ⊢
            clear e1 e2
            go_wp2_with fail
            exact hK.out _ _ (Below.refl _ _) (by exact rfl)
          case sb4 =>
            refine AddStep.go (o := ⟨some 128, _, _, _, _, _⟩) rfl rfl (fun xs y hy hV K hK => ?_)
            have e3 : xs 3 = .pointer (some ⟨g9, k * 3, none⟩) := (hV 3 (by kernel_rfl))
            clear hV
            simp only [putsF, List.foldl_cons, List.foldl_nil, Act.put, List.setIfInBounds_toArray, List.set_cons_zero, List.set_cons_succ] at hK ⊢
            simp only [e3] at hK ⊢
            clear e3
            obtain ⟨_, q0, q1, q2, q3, q4, q5, q6⟩ := row_at7 (rwr.below hy zwr)
            have k0 := (hy.cell (p := ⟨g9, k * 3, none⟩) z9).trans k0
            have k1 := (hy.cell (p := ⟨g9, k * 3 + 1, none⟩) z9).trans k1
            have k2 := (hy.cell (p := ⟨g9, k * 3 + 2, none⟩) z9).trans k2
            go_wp2_with fail
            exact hK.out _ _ (Below.refl _ _) (by exact rfl)
          case sb5 =>
            refine AddStep.go (o := ⟨some 129, _, _, _, _, _⟩) rfl rfl (fun xs y hy hV K hK => ?_)
            clear hV
            simp only [putsF, List.foldl_cons, List.foldl_nil, Act.put, List.setIfInBounds_toArray, List.set_cons_zero, List.set_cons_succ] at hK ⊢
            go_wp2_with fail
            exact hK.out _ _ (Below.refl _ _) (by exact rfl)
          case sb6 =>
            refine AddStep.go (o := ⟨some 130, _, _, _, _, _⟩) rfl rfl (fun xs y hy hV K hK => ?_)
            have e5 : xs 5 = .pointer (some ⟨w.heap.size, 3, none⟩) := (hV 5 (by kernel_rfl))
            clear hV
            simp only [putsF, List.foldl_cons, List.foldl_nil, Act.put, List.setIfInBounds_toArray, List.set_cons_zero, List.set_cons_succ] at hK ⊢
            simp only [e5] at hK ⊢
            clear e5
            obtain ⟨_, q0, q1, q2, q3, q4, q5, q6⟩ := row_at7 (rwr.below hy zwr)
            have k0 := (hy.cell (p := ⟨g9, k * 3, none⟩) z9).trans k0
            have k1 := (hy.cell (p := ⟨g9, k * 3 + 1, none⟩) z9).trans k1
            have k2 := (hy.cell (p := ⟨g9, k * 3 + 2, none⟩) z9).trans k2
            go_wp2_with fail
            exact hK.out _ _ (Below.refl _ _) (by exact rfl)
          case sb7 =>
            refine AddStep.go (o := ⟨some 131, _, _, _, _, _⟩) rfl rfl (fun xs y hy hV K hK => ?_)
            clear hV
            simp only [putsF, List.foldl_cons, List.foldl_nil, Act.put, List.setIfInBounds_toArray, List.set_cons_zero, List.set_cons_succ] at hK ⊢
            go_wp2_with fail
            exact hK.out _ _ (Below.refl _ _) (by exact rfl)
          case sb8 =>
            refine AddStep.go (o := ⟨some 132, _, _, _, _, _⟩) rfl rfl (fun xs y hy hV K hK => ?_)
            have e7 : xs 7 = .pointer (some ⟨w.heap.size, 6, none⟩) := (hV 7 (by kernel_rfl))
            clear hV
            simp only [putsF, List.foldl_cons, List.foldl_nil, Act.put, List.setIfInBounds_toArray, List.set_cons_zero, List.set_cons_succ] at hK ⊢
            simp only [e7] at hK ⊢
            clear e7
            obtain ⟨_, q0, q1, q2, q3, q4, q5, q6⟩ := row_at7 (rwr.below hy zwr)
            have k0 := (hy.cell (p := ⟨g9, k * 3, none⟩) z9).trans k0
            have k1 := (hy.cell (p := ⟨g9, k * 3 + 1, none⟩) z9).trans k1
            have k2 := (hy.cell (p := ⟨g9, k * 3 + 2, none⟩) z9).trans k2
            go_wp2_with fail
            exact hK.out _ _ (Below.refl _ _) (by exact rfl)
          case sb9 =>
            refine AddStep.go (o := ⟨some 133, _, _, _, _, _⟩) rfl rfl (fun xs y hy hV K hK => ?_)
            have e0 : xs 0 = .slice A1 t.length c1 := (hV 0 (by kernel_rfl))
            have e4 : xs 4 = .agg #[.int .i64 p.x, .int .i64 p.y, .int .i64 p.z] := (hV 4 (by kernel_rfl))
            have e6 : xs 6 = .agg #[.int .i64 x.side, .int .i64 x.low, .int .i64 x.high] := (hV 6 (by kernel_rfl))
            have e8 : xs 8 = .bool fails := (hV 8 (by kernel_rfl))
            clear hV
            simp only [putsF, List.foldl_cons, List.foldl_nil, Act.put, List.setIfInBounds_toArray, List.set_cons_zero, List.set_cons_succ] at hK ⊢
            simp only [e0, e4, e6, e8] at hK ⊢
            clear e0 e4 e6 e8
            go_wp2_with (go_at_call 20; refine (HKp.out y (HRw.out y hy)).mono ?_; rintro e z ⟨rfl, hz⟩)
            exact hK.out _ _ hz (by exact rfl)
          case sb10 =>
            refine AddStep.go (o := ⟨some 123, _, _, _, _, _⟩) rfl rfl (fun xs y hy hV K hK => ?_)
            have e9 : xs 9 = .tuple #[.agg #[.int .i64 (ch2.ph : Int), .int .i64 (ch2.bf : Int), .int .i64 (ch2.af : Int)], .bool bo, .int .i64 er2] := (hV 9 (by kernel_rfl))
            clear hV
            simp only [putsF, List.foldl_cons, List.foldl_nil, Act.put, List.setIfInBounds_toArray, List.set_cons_zero, List.set_cons_succ] at hK ⊢
            simp only [e9] at hK ⊢
            clear e9
            go_wp2_with fail
            exact hK.out _ _ (Below.refl _ _) (by exact rfl)
          case sb11 =>
            refine AddStep.go (o := ⟨some 134, _, _, _, _, _⟩) rfl rfl (fun xs y hy hV K hK => ?_)
            have e10 : xs 10 = .tuple #[.agg #[.int .i64 (ch2.ph : Int), .int .i64 (ch2.bf : Int), .int .i64 (ch2.af : Int)], .bool bo, .int .i64 er2] := (hV 10 (by kernel_rfl))
            clear hV
            simp only [putsF, List.foldl_cons, List.foldl_nil, Act.put, List.setIfInBounds_toArray, List.set_cons_zero, List.set_cons_succ] at hK ⊢
            simp only [e10] at hK ⊢
            clear e10
            go_wp2_with fail
            exact hK.out _ _ (Below.refl _ _) (by exact rfl)
          case sb12 =>
            refine AddStep.go (o := ⟨some 135, _, _, _, _, _⟩) rfl rfl (fun xs y hy hV K hK => ?_)
            have e10 : xs 10 = .tuple #[.agg #[.int .i64 (ch2.ph : Int), .int .i64 (ch2.bf : Int), .int .i64 (ch2.af : Int)], .bool bo, .int .i64 er2] := (hV 10 (by kernel_rfl))
            clear hV
            simp only [putsF, List.foldl_cons, List.foldl_nil, Act.put, List.setIfInBounds_toArray, List.set_cons_zero, List.set_cons_succ] at hK ⊢
            simp only [e10] at hK ⊢
            clear e10
            go_wp2_with fail
            exact hK.out _ _ (Below.refl _ _) (by exact rfl)
          case sb13 =>
            refine AddStep.go (o := ⟨some 136, _, _, _, _, _⟩) rfl rfl (fun xs y hy hV K hK => ?_)
            have e10 : xs 10 = .tuple #[.agg #[.int .i64 (ch2.ph : Int), .int .i64 (ch2.bf : Int), .int .i64 (ch2.af : Int)], .bool bo, .int .i64 er2] := (hV 10 (by kernel_rfl))
            clear hV
            simp only [putsF, List.foldl_cons, List.foldl_nil, Act.put, List.setIfInBounds_toArray, List.set_cons_zero, List.set_cons_succ] at hK ⊢
            simp only [e10] at hK ⊢
            clear e10
            go_wp2_with fail
            exact hK.out _ _ (Below.refl _ _) (by exact rfl)
          case sb14 =>
            refine AddStep.go (o := ⟨some 15, _, _, _, _, _⟩) rfl rfl (fun xs y hy hV K hK => ?_)
            clear hV
            simp only [putsF, List.foldl_cons, List.foldl_nil, Act.put, List.setIfInBounds_toArray, List.set_cons_zero, List.set_cons_succ] at hK ⊢
            go_wp2_with fail
            exact hK.out _ _ ((Below.refl _ _).alloc (Nat.le_refl _) _) ⟨y.heap.size, _, rfl, hy.size, Row.new y _ _, rfl⟩
          case ssb =>
            refine StoreStep.go (o := ⟨none, _, _, _, _, _⟩) rfl rfl rfl (fun xs y hy hV K hK => ?_)
            simp only [putsF, List.foldl_cons, List.foldl_nil, Act.put, List.setIfInBounds_toArray, List.set_cons_zero, List.set_cons_succ] at hK ⊢
            obtain ⟨g, cs, e14, hg, hrow, hlen⟩ := (hV 14 (by kernel_rfl))
            have e11 : xs 11 = .agg #[.int .i64 (ch2.ph : Int), .int .i64 (ch2.bf : Int), .int .i64 (ch2.af : Int)] := (hV 11 (by kernel_rfl))
            clear hV
            simp only [e14, e11] at hK ⊢
            clear e14 e11
            match cs, hlen, hrow with
            | [a0, a1, a2], _, hrow =>
              obtain ⟨_, q0, q1, q2⟩ := Row.at_3 hrow
              go_wp2_with fail
              exact hK.out _ (below_set3 hy hg _ _ _) (KeepL.cons (fun _ h => h) (KeepL.cons (fun _ h => h) (KeepL.cons (fun _ h => h) (KeepL.cons (fun _ h => h) (KeepL.cons (fun _ h => h) (KeepL.cons (fun _ h => h) (KeepL.cons (fun _ h => h) (KeepL.cons (fun _ h => h) (KeepL.cons (fun _ h => h) (KeepL.cons (fun _ h => h) (KeepL.cons (fun _ h => h) (KeepL.cons (fun _ h => h) (KeepL.cons (fun _ h => h) (KeepL.cons (fun _ h => h) (KeepL.cons (keep_place _ _ _) (KeepL.cons (fun _ h => h) (KeepL.cons (fun _ h => h) (KeepL.cons (fun _ h => h) KeepL.nil)))))))))))))))))) ⟨g, rfl, row_set3 hrow _ _ _⟩
          case sb16 =>
            refine AddStep.go (o := ⟨some 16, _, _, _, _, _⟩) rfl rfl (fun xs y hy hV K hK => ?_)
            have e12 : xs 12 = .bool bo := (hV 12 (by kernel_rfl))
            clear hV
            simp only [putsF, List.foldl_cons, List.foldl_nil, Act.put, List.setIfInBounds_toArray, List.set_cons_zero, List.set_cons_succ] at hK ⊢
            simp only [e12] at hK ⊢
            clear e12
            go_wp2_with fail
            exact hK.out _ _ (Below.refl _ _) (by exact rfl)
          case sb17 =>
            refine AddStep.go (o := ⟨some 17, _, _, _, _, _⟩) rfl rfl (fun xs y hy hV K hK => ?_)
            have e13 : xs 13 = .int .i64 er2 := (hV 13 (by kernel_rfl))
            clear hV
            simp only [putsF, List.foldl_cons, List.foldl_nil, Act.put, List.setIfInBounds_toArray, List.set_cons_zero, List.set_cons_succ] at hK ⊢
            simp only [e13] at hK ⊢
            clear e13
            go_wp2_with fail
            exact hK.out _ _ (Below.refl _ _) (by exact rfl)
          case stb => exact (AllSt.cons (stable_isV _) (AllSt.cons (stable_isV _) (AllSt.cons (stable_isV _) (AllSt.cons (stable_isV _) (AllSt.cons (stable_isV _) (AllSt.cons (stable_isV _) (AllSt.cons (stable_isV _) (AllSt.cons (stable_isV _) (AllSt.cons (stable_isV _) (AllSt.cons (stable_isV _) (AllSt.cons (stable_isV _) (AllSt.cons (stable_isV _) (AllSt.cons (stable_isV _) (AllSt.cons (stable_isV _) (AllSt.cons (stable_isPlace _ _ _) (AllSt.cons (stable_anyV) (AllSt.cons (stable_isV _) (AllSt.cons (stable_isV _) AllSt.nil))))))))))))))))))
          case finb =>
            intro xs y hy hV hL
            have e0 : xs 0 = .slice A1 t.length c1 := (hV 0 (by decide))
            have e1 : xs 1 = .slice (some ⟨g9, 0, none⟩) 3 3 := (hV 1 (by decide))
            have e2 : xs 2 = .int .i64 (k : Int) := (hV 2 (by decide))
            have e3 : xs 3 = .pointer (some ⟨g9, k * 3, none⟩) := (hV 3 (by decide))
            have e4 : xs 4 = .agg #[.int .i64 p.x, .int .i64 p.y, .int .i64 p.z] := (hV 4 (by decide))
            have e5 : xs 5 = .pointer (some ⟨w.heap.size, 3, none⟩) := (hV 5 (by decide))
            have e6 : xs 6 = .agg #[.int .i64 x.side, .int .i64 x.low, .int .i64 x.high] := (hV 6 (by decide))
            have e7 : xs 7 = .pointer (some ⟨w.heap.size, 6, none⟩) := (hV 7 (by decide))
            have e8 : xs 8 = .bool fails := (hV 8 (by decide))
            have e9 : xs 9 = .tuple #[.agg #[.int .i64 (ch2.ph : Int), .int .i64 (ch2.bf : Int), .int .i64 (ch2.af : Int)], .bool bo, .int .i64 er2] := (hV 9 (by decide))
            have e10 : xs 10 = .tuple #[.agg #[.int .i64 (ch2.ph : Int), .int .i64 (ch2.bf : Int), .int .i64 (ch2.af : Int)], .bool bo, .int .i64 er2] := (hV 10 (by decide))
            have e11 : xs 11 = .agg #[.int .i64 (ch2.ph : Int), .int .i64 (ch2.bf : Int), .int .i64 (ch2.af : Int)] := (hV 11 (by decide))
            have e12 : xs 12 = .bool bo := (hV 12 (by decide))
            have e13 : xs 13 = .int .i64 er2 := (hV 13 (by decide))
            obtain ⟨g, cs, e14, hg, hrow, hlen⟩ := (hV 14 (by decide))
            have e16 : xs 16 = .bool bo := (hV 16 (by decide))
            have e17 : xs 17 = .int .i64 er2 := (hV 17 (by decide))
            clear hV
            simp only [putsF, List.foldl_cons, List.foldl_nil, Act.put, List.setIfInBounds_toArray, List.set_cons_zero, List.set_cons_succ]
            simp only [e0, e1, e2, e3, e4, e5, e6, e7, e8, e9, e10, e11, e12, e13, e14, e16, e17]
            rw [e14] at hL
            clear e0 e1 e2 e3 e4 e5 e6 e7 e8 e9 e10 e11 e12 e13 e14 e16 e17
            have bb := hbel.trans (hy.mono hbel.size)
            by_cases h0 : er2 = 0
            · subst h0
              cases kept with
              | false =>
                go_wp2_with fail
                go_roundw
                case rel => exact ⟨k + 1, by omega, by go_num, bb⟩
                case measure => simp [intOf]; omega
              | true =>
                have hbo := HS.out rfl rfl
                subst hbo
                go_wp2_with fail
                go_roundw
                case rel => exact ⟨k + 1, by omega, by go_num, bb⟩
                case measure => simp [intOf]; omega
            · have h0' : (er2 == 0) = false := by simpa using h0
              go_wp2_with fail
              go_roundw
              case rel => exact ⟨k + 1, by omega, by go_num, bb⟩
              case measure => simp [intOf]; omega
        · obtain rfl : k = 3 := by omega
          clear hlt
          obtain ⟨_, q0, q1, q2, q3, q4, q5, q6⟩ := row_at7 rwr
          go_upto_region 20 with (fail)
          go_wp2_with fail
          refine (HFa.out wr A1 c1 (HRw.out wr (Below.refl _ _))).mono ?_
          rintro e w6 ⟨⟨F, fe, hfm, rfl⟩, hb6⟩
          have b7 := bwr.trans (hb6.mono bwr.size)
          have r7 := rwr.below hb6 zwr
          have z7 := r7.lt
          have HR7 : Hid (∀ X, Below w6.heap.size w6 X → Reads X X.heap.size 3 A1 t.length (ptCells t)) := fun X hX => HRw.out X (hb6.trans (hX.mono hb6.size))
          clear q0 q1 q2 q3 q4 q5 q6 rwr zwr bwr HRw hb6 hm6 hr6 r6 zr z6 z9 b6 hbel
          obtain ⟨_, q0, q1, q2, q3, q4, q5, q6⟩ := row_at7 r7
          have hsf := slow_fast (fails := fails) Hlim.out
          rw [hfm.out] at hsf
          rcases hsf with ⟨h1, h2, h3⟩ | ⟨Fn, h1, h2, h3, h4, h5, h6⟩
          · injection h1 with h1 h1'
            subst h1 h1'
            rw [hkm.out] at h3
            dsimp only at h3
            subst h3
            go_upto_region 24 with (fail)
            obtain ⟨V, hV⟩ : ∃ V, V = w6.alloc (.cells #[.int .i64 1, .int .i64 m.ease, .int .i64 m.jerk] 35) := ⟨_, rfl⟩
            rw [← hV]
            have b8 : Below w.heap.size w V := by subst hV; exact b7.alloc b7.size _
            have r8 : Row V w.heap.size 39 [.int .i64 m.top, .int .i64 m.ease, .int .i64 m.jerk, .int .i64 x.side, .int .i64 x.low, .int .i64 x.high, .bool fails] := by subst hV; exact r7.alloc _
            have n8 : Row V w6.heap.size 35 [.int .i64 1, .int .i64 m.ease, .int .i64 m.jerk] := by subst hV; exact Row.new w6 _ _
            have hr8 : Reads V V.heap.size 3 A1 t.length (ptCells t) := HR7.out V (by subst hV; exact (Below.refl _ _).alloc (Nat.le_refl _) _)
            clear hV q0 q1 q2 q3 q4 q5 q6 r7 z7 b7 HR7
            obtain ⟨_, q0, q1, q2, q3, q4, q5, q6⟩ := row_at7 r8
            obtain ⟨_, n0, n1, n2⟩ := Row.at_3 n8
            go_wp2_with fail
            refine (HK.out V ⟨1, m.ease, m.jerk⟩ A1 c1 hr8).mono ?_
            rintro e w8 ⟨⟨ch3, bo3, er3, hk3, rfl⟩, hb9⟩
            rw [hk3.out] at h2
            injection h2 with h2a h2b
            subst h2a h2b
            have b9 := b8.trans (hb9.mono b8.size)
            clear q0 q1 q2 q3 q4 q5 q6 n0 n1 n2 r8 n8 hr8 b8 hb9
            go_wp2_with fail
            refine (Hfin.out _ (b9.alloc b9.size _)).mono ?_
            rintro e w10 ⟨rfl, hb10⟩
            go_wp2_with fail
            go_ret
            exact ⟨rfl, hb10⟩
          · injection h1 with h1 h1'
            subst h1 h1'
            have h20 : ¬ ((Fn : Int) < 1) := by omega
            have h21 : ¬ (m.top < (Fn : Int)) := by omega
            have hr7 := HR7.out w6 (Below.refl _ _)
            go_upto_region 30 with (fail)
            obtain ⟨V, hV⟩ : ∃ V, V = w6.alloc (.cells #[.int .i64 (Fn : Int), .int .i64 m.ease, .int .i64 m.jerk] 35) := ⟨_, rfl⟩
            rw [← hV]
            have bV : Below w6.heap.size w6 V := by subst hV; exact (Below.refl _ _).alloc (Nat.le_refl _) _
            have b8 : Below w.heap.size w V := b7.trans (bV.mono b7.size)
            have r8 : Row V w.heap.size 39 [.int .i64 m.top, .int .i64 m.ease, .int .i64 m.jerk, .int .i64 x.side, .int .i64 x.low, .int .i64 x.high, .bool fails] := r7.below bV z7
            have n8 : Row V w6.heap.size 35 [.int .i64 (Fn : Int), .int .i64 m.ease, .int .i64 m.jerk] := by subst hV; exact Row.new w6 _ _
            have hr8 : Reads V V.heap.size 3 A1 t.length (ptCells t) := HR7.out V bV
            clear hV q0 q1 q2 q3 q4 q5 q6 r7
            obtain ⟨_, q0, q1, q2, q3, q4, q5, q6⟩ := row_at7 r8
            obtain ⟨_, n0, n1, n2⟩ := Row.at_3 n8
            go_wp2_with fail
            refine (HK.out V ⟨(Fn : Int), m.ease, m.jerk⟩ A1 c1 hr8).mono ?_
            rintro e w8 ⟨⟨ch3, bo3, er3, hk3, rfl⟩, hb9⟩
            rw [hk3.out] at h5
            injection h5 with h5a h5b
            subst h5a h5b
            have b9 := b8.trans (hb9.mono b8.size)
            have c9 := bV.trans (hb9.mono bV.size)
            have r9 := r8.below hb9 r8.lt
            have n9 := n8.below hb9 n8.lt
            clear q0 q1 q2 q3 q4 q5 q6 n0 n1 n2 r8 n8 hr8 b8 hb9 bV
            go_upto_region 31 with (fail)
            obtain ⟨U, hU⟩ : ∃ U, U = w8.alloc (.cells #[.int .i64 (ch3.ph : Int), .int .i64 (ch3.bf : Int), .int .i64 (ch3.af : Int)] 24) := ⟨_, rfl⟩
            rw [← hU]
            have b10 : Below w.heap.size w U := by subst hU; exact b9.alloc b9.size _
            have c10 : Below w6.heap.size w6 U := by subst hU; exact c9.alloc c9.size _
            have r10 : Row U w.heap.size 39 [.int .i64 m.top, .int .i64 m.ease, .int .i64 m.jerk, .int .i64 x.side, .int .i64 x.low, .int .i64 x.high, .bool fails] := by subst hU; exact r9.alloc _
            have n10 : Row U w6.heap.size 35 [.int .i64 (Fn : Int), .int .i64 m.ease, .int .i64 m.jerk] := by subst hU; exact n9.alloc _
            clear hU r9 n9 b9 c9
            obtain ⟨_, q0, q1, q2, q3, q4, q5, q6⟩ := row_at7 r10
            obtain ⟨_, n0, n1, n2⟩ := Row.at_3 n10
            have e5 : IntKind.i64.wrap ((Fn : Int) + 1) = (Fn : Int) + 1 := IntWalk.i64_in _ (by omega)
            by_cases hft : (Fn : Int) = m.top
            · go_wp2_with fail
              refine (Hfin.out U b10).mono ?_
              rintro e w10 ⟨rfl, hb10⟩
              go_wp2_with fail
              go_ret
              exact ⟨rfl, hb10⟩
            · have h6 := h6.resolve_left hft
              go_upto_region 36 with (fail)
              obtain ⟨U2, hU2⟩ : ∃ U2, U2 = U.setCell ⟨w6.heap.size, 0, none⟩ (.int .i64 ((Fn : Int) + 1)) := ⟨_, rfl⟩
              rw [← hU2]
              have b11 : Below w.heap.size w U2 := by subst hU2; exact b10.setCell (p := ⟨w6.heap.size, 0, none⟩) b7.size _
              have r11 : Row U2 w.heap.size 39 [.int .i64 m.top, .int .i64 m.ease, .int .i64 m.jerk, .int .i64 x.side, .int .i64 x.low, .int .i64 x.high, .bool fails] := by subst hU2; exact r10.far (p := ⟨w6.heap.size, 0, none⟩) (Nat.ne_of_lt z7) _
              have n11 : Row U2 w6.heap.size 35 [.int .i64 ((Fn : Int) + 1), .int .i64 m.ease, .int .i64 m.jerk] := by subst hU2; exact n10.set 0 (.int .i64 ((Fn : Int) + 1))
              have hr11 : Reads U2 U2.heap.size 3 A1 t.length (ptCells t) := by subst hU2; exact ((hr7.below c10).setCell (p := ⟨w6.heap.size, 0, none⟩) (Nat.le_refl _) _).more (by simp [World.setCell]; exact c10.size)
              clear hU2 q0 q1 q2 q3 q4 q5 q6 n0 n1 n2 r10 n10 b10 c10
              obtain ⟨_, q0, q1, q2, q3, q4, q5, q6⟩ := row_at7 r11
              obtain ⟨_, n0, n1, n2⟩ := Row.at_3 n11
              go_wp2_with fail
              refine (HK.out U2 ⟨(Fn : Int) + 1, m.ease, m.jerk⟩ A1 c1 hr11).mono ?_
              rintro e w9 ⟨⟨ch4, bo4, er4, hk4, rfl⟩, hb12⟩
              rw [hk4.out] at h6
              injection h6 with h6a h6b
              subst h6a h6b
              have b12 := b11.trans (hb12.mono b11.size)
              go_wp2_with fail
              refine (Hfin.out _ b12).mono ?_
              rintro e w10 ⟨rfl, hb10⟩
              go_wp2_with fail
              go_ret
              exact ⟨rfl, hb10⟩
end Go.Proofs.Ytkmiapfkebdpbaa
