/- The walk of InspectForce, with its plain facts. Conditions: arguments that read as data. -/
import Derived.Test.YtaocgkmobfocjaaIcg
import Derived.Test.YtaocgkmobfocjaaIam
namespace Go.Proofs.Ytaocgkmobfocjaa
open Go.RowKit

theorem lastS_is {p : EntZ → Bool} : ∀ {l : List EntZ} {i : Nat}, i < l.length → p (l.getD i default) = true → (∀ j, i < j → j < l.length → p (l.getD j default) = false) → lastS p l = some (l.getD i default) := by
  intro l
  induction l using snoc_ind with
  | h0 => intro i hi; exact absurd hi (by simp)
  | h1 l y ih =>
    intro i hi hp hno
    rw [lastS_snoc]
    rw [List.length_append, List.length_singleton] at hi
    by_cases q : i = l.length
    · subst q
      have e : (l ++ [y]).getD l.length default = y := by simp
      rw [e] at hp ⊢
      rw [if_pos hp]
    · have hi2 : i < l.length := by omega
      have h3 := hno l.length hi2 (by simp)
      have e : (l ++ [y]).getD l.length default = y := by simp
      rw [e] at h3
      rw [if_neg (by rw [h3]; simp), fm_getD hi2]
      rw [fm_getD hi2] at hp
      refine ih hi2 hp (fun j h1 h2 => ?_)
      have := hno j h1 (by rw [List.length_append]; omega)
      rwa [fm_getD h2] at this
theorem take_getD {l : List EntZ} {n i : Nat} (h : i < n) : (l.take n).getD i default = l.getD i default := by
  simp only [List.getD_eq_getElem?_getD, List.getElem?_take]
  rw [if_pos h]
/-- The days go up. -/
theorem LogOk.up_to {k : BookZ} {l : List EntZ} (h : LogOk k l) {i j : Nat} (hij : i ≤ j) (hj : j < l.length) : (l.getD i default).day ≤ (l.getD j default).day := by
  have hk := (h.take (j + 1)).last.1
  have e : l.take (j + 1) = l.take j ++ [l.getD j default] := by
    rw [List.take_succ_eq_append_getElem hj, ent_getD hj]
  have e2 : lastDay (l.take (j + 1)) = (l.getD j default).day := by rw [e, lastDay_snoc]
  have hm : l.getD i default ∈ l.take (j + 1) := by
    rw [← take_getD (show i < j + 1 by omega), ent_getD (by rw [List.length_take]; omega)]
    exact List.getElem_mem _
  have := (hk _ hm).2
  rwa [e2] at this
theorem up_mem {k : BookZ} {l : List EntZ} (h : LogOk k l) {j : Nat} {d : Int} (hj : j < l.length) (hd : (l.getD j default).day ≤ d) : j < upN l d := by
  rcases Nat.lt_or_ge j (upN l d) with q | q
  · exact q
  · have h1 := upN_out (l := l) (day := d) (by omega)
    have h2 := h.up_to q hj
    omega
theorem up_not {k : BookZ} {l : List EntZ} (h : LogOk k l) {j : Nat} {d : Int} (hj : j < l.length) (hd : upN l d ≤ j) : d < (l.getD j default).day := by
  have h1 := upN_out (l := l) (day := d) (by omega)
  have h2 := h.up_to hd hj
  omega
/-- What is asked of the last check in n entries. -/
def chB (r : Int) (x : EntZ) : Bool := decide (x.kind = 1) && decide (x.a = r)
def snS (u : List EntZ) (r : Int) (m : Nat) : Int := match lastS (chB r) (u.take m) with | none => -1 | some x => x.day
theorem snS_zero (u : List EntZ) (r : Int) : snS u r 0 = -1 := rfl
theorem snS_yes {u : List EntZ} {r : Int} {m : Nat} (hm : m < u.length) (h1 : u[m].kind = 1) (h2 : u[m].a = r) : snS u r (m + 1) = u[m].day := by
  unfold snS
  rw [List.take_succ_eq_append_getElem hm, lastS_snoc, if_pos (by unfold chB; rw [h1, h2]; simp)]
theorem snS_no {u : List EntZ} {r : Int} {m : Nat} (hm : m < u.length) (h : ¬ (u[m].kind = 1 ∧ u[m].a = r)) : snS u r (m + 1) = snS u r m := by
  unfold snS
  rw [List.take_succ_eq_append_getElem hm, lastS_snoc, if_neg (by unfold chB; simpa using h)]
theorem snS_out {u : List EntZ} {r : Int} {m : Nat} (hm : u.length ≤ m) : snS u r m = snS u r u.length := by
  unfold snS
  rw [List.take_of_length_le hm, List.take_length]
theorem due_mem {k : BookZ} {l : List EntZ} {day : Int} {i : Nat} (hi : i < k.rules.length) : ((i : Int) ∈ dueS k l day) ↔ infS l i (k.rules.getD i default) < day := by
  unfold dueS
  rw [numsL_mem]
  constructor
  · rintro ⟨j, hj, hp, he⟩
    obtain rfl : i = j := by omega
    exact of_decide_eq_true hp
  · intro h; exact ⟨i, hi, decide_eq_true h, rfl⟩
theorem infS_last {l m : List EntZ} {i : Nat} {u : RuZ} (h : lastS (forceB (i : Int) u.ride) l = lastS (forceB (i : Int) u.ride) m) : infS l i u = infS m i u := by unfold infS; rw [h]
theorem last_up {k : BookZ} {l : List EntZ} (h : LogOk k l) {p : EntZ → Bool} {d e : Int} (hde : d ≤ e) {j : Nat} (hj : j < upN l d) (hp : p (l.getD j default) = true) (hno : ∀ m, j < m → m < upN l e → p (l.getD m default) = false) : lastS p (upL l d) = some (l.getD j default) := by
  have hn := upN_le l d
  have hle : upN l d ≤ upN l e := by
    rcases Nat.lt_or_ge (upN l e) (upN l d) with q | q
    · have h1 := up_not h (j := upN l e) (d := e) (by omega) (Nat.le_refl _)
      have h2 := upN_in l d q
      omega
    · exact q
  have hlen : (upL l d).length = upN l d := by unfold upL; rw [List.length_take]; omega
  have e1 : (upL l d).getD j default = l.getD j default := by unfold upL; exact take_getD hj
  rw [← e1]
  refine lastS_is (by omega) (by rw [e1]; exact hp) (fun m h1 h2 => ?_)
  rw [hlen] at h2
  unfold upL
  rw [take_getD h2]
  exact hno m h1 (by omega)
theorem inf_at {k : BookZ} {l : List EntZ} (h : LogOk k l) {i : Nat} {u : RuZ} (hu : 1 ≤ u.every ∧ u.every ≤ 10000) {d e : Int} (hd : 0 ≤ d) (hi : ¬ infS (upL l e) i u < d) : ∃ j, j < upN l e ∧ (l.getD j default).kind = 1 ∧ (l.getD j default).a = (i : Int) ∧ d - (l.getD j default).day < u.every ∧ 0 ≤ (l.getD j default).day ∧ infS (upL l e) i u = (l.getD j default).day + u.every - 1 ∧ (∀ m, j < m → m < upN l e → forceB (i : Int) u.ride (l.getD m default) = false) := by
  have hn := upN_le l e
  have hlen : (upL l e).length = upN l e := by unfold upL; rw [List.length_take]; omega
  have hg : ∀ m, m < upN l e → (upL l e).getD m default = l.getD m default := fun m hm => by unfold upL; exact take_getD hm
  unfold infS at hi ⊢
  cases hl : lastS (forceB (i : Int) u.ride) (upL l e) with
  | none => rw [hl, if_pos (.inl rfl)] at hi; omega
  | some x =>
    rw [hl] at hi
    by_cases h6 : x.kind = 6
    · rw [if_pos (.inr h6)] at hi; omega
    · rw [if_neg (by simp [h6])] at hi ⊢
      obtain ⟨j, h1, h2, hp, h4⟩ := lastS_at hl
      rw [hlen] at h1
      rw [hg j h1] at h2
      have hx : 0 ≤ x.day ∧ x.day ≤ 10000 := h.day (by rw [← h2, ent_getD (by omega)]; exact List.getElem_mem _)
      have e1 : wrap64 (x.day + u.every) = x.day + u.every := (i64w _).symm.trans (IntWalk.i64_in _ (by omega))
      have e2 : wrap64 (x.day + u.every - 1) = x.day + u.every - 1 := (i64w _).symm.trans (IntWalk.i64_in _ (by omega))
      simp only [Option.getD_some] at hi ⊢
      rw [e1, e2] at hi ⊢
      unfold forceB at hp
      rw [Bool.or_eq_true, Bool.and_eq_true, Bool.and_eq_true] at hp
      rcases hp with hp | hp
      · refine ⟨j, h1, by rw [h2]; exact of_decide_eq_true hp.1, by rw [h2]; exact of_decide_eq_true hp.2, by rw [h2]; omega, by rw [h2]; exact hx.1, by rw [h2], fun m h5 h7 => ?_⟩
        have := h4 m h5 (by omega)
        rwa [hg m h7] at this
      · exact absurd (of_decide_eq_true hp.1) h6
/-- A check that is in force was so on all days from its last one on. -/
theorem force_since {k : BookZ} {l : List EntZ} (h : LogOk k l) {i : Nat} (hi : i < k.rules.length) {day : Int} (hd : 0 ≤ day) (hn : ¬ ((i : Int) ∈ dueS k (upL l day) day)) {sn : Int} (hs : sn = snS (upL l day) (i : Int) (upL l day).length) : (0 ≤ sn ∧ sn ≤ day) ∧ day - sn < (k.rules.getD i default).every ∧ ∀ d, sn ≤ d → d ≤ day → ¬ ((i : Int) ∈ dueS k (upL l d) d) := by
  rw [due_mem hi] at hn
  have hu := (book_rule h.book hi).2.1
  obtain ⟨j, h1, h2, h3, h4, h5, h6, h7⟩ := inf_at h hu hd hn
  have hjl : j < l.length := Nat.lt_of_lt_of_le h1 (upN_le l day)
  have hc : lastS (chB (i : Int)) (upL l day) = some (l.getD j default) := by
    refine last_up h (Int.le_refl _) h1 (by unfold chB; rw [h2, h3]; simp) (fun m a b => ?_)
    have := h7 m a b
    unfold forceB at this
    rw [Bool.or_eq_false_iff] at this
    exact this.1
  have hsn : sn = (l.getD j default).day := by
    rw [hs]; unfold snS; rw [List.take_length, hc]
  rw [hsn]
  refine ⟨⟨h5, upN_in l day h1⟩, h4, fun d a b => ?_⟩
  rw [due_mem hi]
  have e : infS (upL l d) i (k.rules.getD i default) = infS (upL l day) i (k.rules.getD i default) := by
    refine infS_last ?_
    have hp : forceB (i : Int) (k.rules.getD i default).ride (l.getD j default) = true := by unfold forceB; rw [h2, h3]; simp
    rw [last_up h b (up_mem h hjl a) hp h7, last_up h (Int.le_refl _) h1 hp h7]
  rw [e]
  omega
/-- What is due is so on the next day, unless it is checked then. -/
theorem force_next {k : BookZ} {l : List EntZ} (h : LogOk k l) {i : Nat} (hi : i < k.rules.length) {day : Int} (hd : 0 ≤ day) (h1 : (i : Int) ∈ dueS k (upL l day) day) (h2 : ¬ ((i : Int) ∈ dueS k (upL l (day + 1)) (day + 1))) : ∃ j, j < l.length ∧ (l.getD j default).kind = 1 ∧ (l.getD j default).a = (i : Int) ∧ (l.getD j default).day = day + 1 := by
  rw [due_mem hi] at h1 h2
  have hu := (book_rule h.book hi).2.1
  obtain ⟨j, q1, q2, q3, q4, q5, q6, q7⟩ := inf_at h hu (by omega) h2
  have hjl : j < l.length := Nat.lt_of_lt_of_le q1 (upN_le l _)
  have hp : forceB (i : Int) (k.rules.getD i default).ride (l.getD j default) = true := by unfold forceB; rw [q2, q3]; simp
  rcases Nat.lt_or_ge j (upN l day) with q | q
  · have e : infS (upL l day) i (k.rules.getD i default) = infS (upL l (day + 1)) i (k.rules.getD i default) := by
      refine infS_last ?_
      rw [last_up h (show day ≤ day + 1 by omega) q hp q7, last_up h (Int.le_refl _) q1 hp q7]
    rw [e] at h1
    omega
  · have := up_not h hjl q
    have := upN_in l (day + 1) q1
    exact ⟨j, hjl, q2, q3, by omega⟩

/-- The last check of the next day, if any. -/
def LaF (l : List EntZ) (r day : Int) (m : Nat) (la : Int) : Prop := (∃ j, j < m ∧ j < l.length ∧ (l.getD j default).kind = 1 ∧ (l.getD j default).a = r ∧ (l.getD j default).day = day) → 0 ≤ la
theorem LaF.no {l : List EntZ} {r day : Int} {m : Nat} {la : Int} (h : LaF l r day m la) (hn : ¬ ((l.getD m default).kind = 1 ∧ (l.getD m default).a = r ∧ (l.getD m default).day = day)) : LaF l r day (m + 1) la := by
  rintro ⟨j, h1, h2, h3, h4, h5⟩
  by_cases q : j = m
  · subst q; exact absurd ⟨h3, h4, h5⟩ hn
  · exact h ⟨j, by omega, h2, h3, h4, h5⟩
set_option maxRecDepth 100000 in
set_option maxHeartbeats 4000000 in
theorem force_walk {w : World} (k : BookZ) (R : BkR) (hk : BkIn w w.heap.size k R) (l : List EntZ) (A : Option Addr) (c : Nat) (hr : Reads w w.heap.size 5 A l.length (entCells l)) (hl : l.length ≤ maxLen) (hlc : l.length ≤ c) (day : Int) :
    Calls Try.prog 12 #[bookV k R, .slice A l.length c, .int .i64 day] w (TrueI w) := by
  obtain ⟨W, hW⟩ : ∃ W, W = w.alloc (.cells #[.slice R.A1 k.rules.length R.c1, .slice R.A2 k.ranks.length R.c2, .slice R.A3 k.insured.length R.c3] 25) := ⟨_, rfl⟩
  have bW : Below w.heap.size w W := by subst hW; exact (Below.refl _ _).alloc (Nat.le_refl _) _
  have r0 : Row W w.heap.size 25 [.slice R.A1 k.rules.length R.c1, .slice R.A2 k.ranks.length R.c2, .slice R.A3 k.insured.length R.c3] := by subst hW; exact Row.new w _ _
  obtain ⟨zb, hzb⟩ : ∃ z, z = w.heap.size := ⟨_, rfl⟩
  rw [← hzb] at r0
  have gW0 : W.cell? ⟨zb, 0, none⟩ = some (.slice R.A1 k.rules.length R.c1) := r0.cell (j := 0) (by simp)
  have gW1 : W.cell? ⟨zb, 1, none⟩ = some (.slice R.A2 k.ranks.length R.c2) := r0.cell (j := 1) (by simp)
  have gW2 : W.cell? ⟨zb, 2, none⟩ = some (.slice R.A3 k.insured.length R.c3) := r0.cell (j := 2) (by simp)
  have lW := r0.lt
  have HBW := Lib.hid bW
  have HGW := Lib.hid r0
  have HW : Hid (∀ X, Below w.heap.size w X → Calls Try.prog 17 #[] X fun e w' => e = .returned (.bool true) ∧ Below w.heap.size w w') := fun X hX => (works_any X).mono fun e w' h => ⟨h.1, hX.trans (h.2.mono hX.size)⟩
  have HL := Lib.hid (long_any A l.length c W)
  have H3 : Hid (∀ (day : Int) X, Below w.heap.size w X → Calls Try.prog 20 #[bookV k R, .slice A l.length c, .int .i64 day] X (LsTo X (onE k l day) (lsE (onE k l day) (dueS k (upL l day) day)))) := fun day X hX => Due_any k R l A c w.heap.size day X hX.size hl hlc (hr.below hX) (hk.below hX)
  have HUp : Hid (∀ (X : World), Below w.heap.size w X → Calls Try.prog 40 #[.slice A l.length c, .int .i64 day] X fun e w' => e = .returned (.slice A (upL l day).length c) ∧ w' = X) := fun X hX => rUpto_any l A c w.heap.size day X hX.size hl hlc (hr.below hX)
  have HEt : Hid (∀ (i : Nat) (hi : i < l.length) (X : World), Below w.heap.size w X → ∃ b o, A = some ⟨b, o, none⟩ ∧ b < X.heap.size ∧ X.cell? ⟨b, o + i * 5, none⟩ = some (.int .i64 l[i].day) ∧ X.cell? ⟨b, o + i * 5 + 1, none⟩ = some (.int .i64 l[i].kind) ∧ X.cell? ⟨b, o + i * 5 + 2, none⟩ = some (.int .i64 l[i].a) ∧ X.cell? ⟨b, o + i * 5 + 3, none⟩ = some (.int .i64 l[i].b) ∧ X.cell? ⟨b, o + i * 5 + 4, none⟩ = some (.int .i64 l[i].c)) := fun i hi X hX => (ent_cells hr).out i hi X hX hX.size
  have HRr : Hid (∀ (i : Nat) (hi : i < k.rules.length) (X : World), Below w.heap.size w X → ∃ b o, R.A1 = some ⟨b, o, none⟩ ∧ b < X.heap.size ∧ X.cell? ⟨b, o + i * 4 + 1, none⟩ = some (.int .i64 k.rules[i].every)) := fun i hi X hX => by
    obtain ⟨b, o, h1, h2, h3, h4, -, -⟩ := ru_at (hk.rules.below hX) hi
    exact ⟨b, o, h1, by have := hX.size; omega, h4⟩
  have HOk := Lib.hid (fun (d : Int) h => onE_ok (k := k) (l := l) (day := d) h)
  have HOi : Hid (∀ d : Int, LogOk k l → 0 ≤ d ∧ d ≤ 10000 → onE k l d = 0) := fun d h1 h2 => onE_in h1 h2
  have hul := upL_len (l := l) (day := day)
  have HUl : Hid (∀ (i : Nat) (h : i < (upL l day).length) (h2 : i < l.length), (upL l day)[i] = l[i]) := fun i h h2 => by simp [upL]
  have HFs : Hid (LogOk k l → ∀ i : Nat, i < k.rules.length → 0 ≤ day → ¬ ((i : Int) ∈ dueS k (upL l day) day) → ∀ sn, sn = snS (upL l day) (i : Int) (upL l day).length → (0 ≤ sn ∧ sn ≤ day) ∧ day - sn < (k.rules.getD i default).every ∧ ∀ d, sn ≤ d → d ≤ day → ¬ ((i : Int) ∈ dueS k (upL l d) d)) := fun h i hi hd hn sn hs => force_since h hi hd hn hs
  have HFn : Hid (LogOk k l → ∀ i : Nat, i < k.rules.length → 0 ≤ day → ((i : Int) ∈ dueS k (upL l day) day) → ¬ ((i : Int) ∈ dueS k (upL l (day + 1)) (day + 1)) → ∃ j, j < l.length ∧ (l.getD j default).kind = 1 ∧ (l.getD j default).a = (i : Int) ∧ (l.getD j default).day = day + 1) := fun h i hi hd h1 h2 => force_next h hi hd h1 h2
  have HDl : Hid (∀ d, (dueS k (upL l d) d).length ≤ maxLen) := fun d => Nat.le_trans (numsL_len _ _) hk.l1
  have hl1 := hk.l1
  have hll := hl
  unfold maxLen at hl1 hll
  have HLE : Hid (∀ E (L : List Int), E = 0 → lsE E L = L) := fun E L h => if_pos h
  generalize (decide (30 < l.length) && decide (l.length ≤ 100)) = lg at HL
  unfold bookV at *
  clear bW r0 hk hr hl hlc
  go_enter Try.func12, Try.ntmps12
  go_upto_region 1 with fail
  rw [← hW, ← hzb]
  clear hW hzb
  cases lg with
  | true =>
    go_wp2_with (first | (go_at_call 16; refine HL.out.mono ?_; rintro e w' ⟨rfl, hw⟩; rw [hw]; clear hw) | (go_at_call 17; refine (HW.out _ HBW.out).mono ?_; rintro e w' ⟨rfl, hb⟩; have BW := Lib.hid hb; clear hb))
    go_ret
    exact ⟨rfl, BW.out⟩
  | false =>
  by_cases hdm : 10000 ≤ day
  · have d1 : decide ((10000 : Int) ≤ day) = true := decide_eq_true hdm
    go_wp2_with (first | (go_at_call 16; refine HL.out.mono ?_; rintro e w' ⟨rfl, hw⟩; rw [hw]; clear hw) | (go_at_call 17; refine (HW.out _ HBW.out).mono ?_; rintro e w' ⟨rfl, hb⟩; have BW := Lib.hid hb; clear hb))
    go_ret
    exact ⟨rfl, BW.out⟩
  have d1 : decide ((10000 : Int) ≤ day) = false := decide_eq_false hdm
  obtain ⟨dy, d2⟩ : ∃ dy, IntKind.i64.wrap (day + 1) = dy := ⟨_, rfl⟩
  have HDy := Lib.hid d2
  go_upto_region 3 with (go_at_call 16; refine HL.out.mono ?_; rintro e w' ⟨rfl, hw⟩; rw [hw]; clear hw)
  clear HL d1
  have H3a := Lib.hid (H3.out day)
  have H3b := Lib.hid (H3.out dy)
  go_upto_region 4 with (go_at_call 20; refine (H3a.out W HBW.out).mono ?_; rintro e X1 ⟨hX1, Aa, ca, rfl, hra⟩)
  have HBX1 := Lib.hid (HBW.out.trans (hX1.mono HBW.out.size))
  have sX1 := HGW.out.below hX1 HGW.out.lt
  have gX10 : X1.cell? ⟨zb, 0, none⟩ = some (.slice R.A1 k.rules.length R.c1) := sX1.cell (j := 0) (by simp)
  have gX11 : X1.cell? ⟨zb, 1, none⟩ = some (.slice R.A2 k.ranks.length R.c2) := sX1.cell (j := 1) (by simp)
  have gX12 : X1.cell? ⟨zb, 2, none⟩ = some (.slice R.A3 k.insured.length R.c3) := sX1.cell (j := 2) (by simp)
  have lX1 := sX1.lt
  have HGX1 := Lib.hid sX1
  have HRa := Lib.hid hra
  clear hX1 hra sX1 gW0 gW1 gW2 lW
  go_upto_region 5 with (go_at_call 20; refine (H3b.out X1 HBX1.out).mono ?_; rintro e X2 ⟨hX2, Ab, cb, rfl, hrb⟩)
  have HBX2 := Lib.hid (HBX1.out.trans (hX2.mono HBX1.out.size))
  have sX2 := HGX1.out.below hX2 HGX1.out.lt
  have gX20 : X2.cell? ⟨zb, 0, none⟩ = some (.slice R.A1 k.rules.length R.c1) := sX2.cell (j := 0) (by simp)
  have gX21 : X2.cell? ⟨zb, 1, none⟩ = some (.slice R.A2 k.ranks.length R.c2) := sX2.cell (j := 1) (by simp)
  have gX22 : X2.cell? ⟨zb, 2, none⟩ = some (.slice R.A3 k.insured.length R.c3) := sX2.cell (j := 2) (by simp)
  have lX2 := sX2.lt
  have HGX2 := Lib.hid sX2
  have HRb := Lib.hid hrb
  have HRa_X2 := Lib.hid ((HRa.out.below hX2).more hX2.size)
  clear HRa
  have HRa := HRa_X2
  clear HRa_X2
  clear hX2 hrb sX2 gX10 gX11 gX12 lX1
  clear H3a H3b d2
  by_cases h0 : onE k l day = 0
  case neg =>
    have HNe := Lib.hid h0
    generalize onE k l day = E1 at HNe h0 ⊢
    generalize onE k l dy = E2
    have q1 : (E1 != 0) = true := by simpa using h0
    have q2 : (E1 == 0) = false := by simpa using h0
    have q3 : decide (E1 = 0) = false := decide_eq_false h0
    clear h0
    go_wp2_with (go_at_call 17; refine (HW.out _ HBX2.out).mono ?_; rintro e w' ⟨rfl, hb⟩; have BW := Lib.hid hb; clear hb)
    go_ret
    exact ⟨rfl, BW.out⟩
  have hd00 := (HOk.out _ h0).2
  obtain rfl : dy = day + 1 := by rw [← HDy.out]; exact IntWalk.i64_in _ (by omega)
  clear HDy
  by_cases h1 : onE k l (day + 1) = 0
  case neg =>
    have HNe := Lib.hid h1
    rw [h0]
    clear h0
    generalize onE k l (day + 1) = E2 at h1 ⊢
    have q1 : (E2 != 0) = true := by simpa using h1
    have q2 : (E2 == 0) = false := by simpa using h1
    have q3 : decide (E2 = 0) = false := decide_eq_false h1
    clear h1
    go_wp2_with (go_at_call 17; refine (HW.out _ HBX2.out).mono ?_; rintro e w' ⟨rfl, hb⟩; have BW := Lib.hid hb; clear hb)
    go_ret
    exact ⟨rfl, BW.out⟩
  have hok := HOk.out _ h0
  have hday := HOk.out _ h1
  have HLok := Lib.hid hok.1
  have hlen := hok.1.len
  have hd0 := hok.2.1
  have hd1 := hday.2.2
  rw [HLE.out _ _ h0] at HRa ⊢
  rw [HLE.out _ _ h1] at HRb ⊢
  rw [h0, h1]
  clear hok hday h0 h1 HOk HLE
  have HUx := Lib.hid (HUp.out X2 HBX2.out)
  clear HUp
  go_upto_region 8 with (go_at_call 40; with_reducible refine HUx.out.mono ?_; rintro e w' ⟨rfl, hw⟩; rw [hw]; clear hw)
  clear HUx
  have HFs2 := Lib.hid (HFs.out HLok.out)
  have HFn2 := Lib.hid (HFn.out HLok.out)
  clear HFs HFn
  have HMa := Lib.hid (HDl.out day)
  have HMb := Lib.hid (HDl.out (day + 1))
  generalize hDa : dueS k (upL l day) day = da at HRa HMa HFn2 ⊢
  generalize hDb : dueS k (upL l (day + 1)) (day + 1) = db at HRb HMb HFn2 ⊢
  have HDa := Lib.hid hDa
  clear hDa hDb
  obtain ⟨u, hu⟩ : ∃ u, u = upL l day := ⟨_, rfl⟩
  have HUu := Lib.hid hu
  rw [← hu] at HUl hul ⊢
  clear hu
  go_upto_region 9 with fail
  clear gX20 gX21 gX22 lX2
  go_loopw [12] (fun q wr => ∃ n : Nat, n ≤ k.rules.length ∧ q = .int .i64 n ∧ Below X2.heap.size X2 wr) (fun q _ => k.rules.length - (intOf q).toNat)
  case atStart => exact ⟨0, Nat.zero_le _, rfl, Below.refl _ _⟩
  case round =>
    obtain ⟨r, hrn, rfl, hbel⟩ := hrel
    have HBL := Lib.hid hbel
    have HBr := Lib.hid (HBX2.out.trans (hbel.mono HBX2.out.size))
    have HGr := Lib.hid (HGX2.out.below hbel HGX2.out.lt)
    have HRa1 := Lib.hid ((HRa.out.below hbel).more hbel.size)
    have HRb1 := Lib.hid ((HRb.out.below hbel).more hbel.size)
    clear hbel
    have sG := HGr.out
    have g0 : wr.cell? ⟨zb, 0, none⟩ = some (.slice R.A1 k.rules.length R.c1) := sG.cell (j := 0) (by simp)
    have g1 : wr.cell? ⟨zb, 1, none⟩ = some (.slice R.A2 k.ranks.length R.c2) := sG.cell (j := 1) (by simp)
    have g2 : wr.cell? ⟨zb, 2, none⟩ = some (.slice R.A3 k.insured.length R.c3) := sG.cell (j := 2) (by simp)
    have lG := sG.lt
    clear sG
    by_cases hrl : r < k.rules.length
    · have n1 : (r : Int) < (k.rules.length : Int) := by omega
      have n0 : ¬ (r : Int) < 0 := by omega
      have en : IntKind.i64.wrap ((r : Int) + 1) = (r : Int) + 1 := IntWalk.i64_in _ (by omega)
      have ed : IntKind.i64.wrap (day + 1) = day + 1 := IntWalk.i64_in _ (by omega)
      have hha := has_any da Aa ca (r : Int) wr HMa.out HRa1.out
      have hhb := has_any db Ab cb (r : Int) wr HMb.out HRb1.out
      have HFn3 := Lib.hid (HFn2.out r hrl hd0)
      have HFs3 := Lib.hid (fun h => HFs2.out r hrl hd0 h)
      clear HRa1 HRb1
      go_upto_region 13 with fail
      go_loopw [13, 14, 15] (fun la sn q wz => ∃ m : Nat, m ≤ l.length ∧ q = .int .i64 m ∧ (∃ z : Int, la = .int .i64 z ∧ Hid (LaF l (r : Int) (day + 1) m z)) ∧ (∃ y : Int, sn = .int .i64 y ∧ Hid (y = snS u (r : Int) m)) ∧ wz = wr) (fun _ _ q _ => l.length - (intOf q).toNat)
      case atStart => exact ⟨0, Nat.zero_le _, rfl, ⟨-1, rfl, fun h => by obtain ⟨j, hj, -⟩ := h; omega⟩, ⟨-1, rfl, rfl⟩, rfl⟩
      case round =>
        obtain ⟨m, hm, rfl, ⟨la, rfl, hla⟩, ⟨sn, rfl, hsn⟩, rfl⟩ := hrel
        clear g0 g1 g2 lG
        by_cases hml : m < l.length
        · have m1 : (m : Int) < (l.length : Int) := by omega
          have m0 : ¬ (m : Int) < 0 := by omega
          have em : IntKind.i64.wrap ((m : Int) + 1) = (m : Int) + 1 := IntWalk.i64_in _ (by omega)
          obtain ⟨b, o, hA, lb, x0, x1, x2, x3, x4⟩ := HEt.out m hml wr HBr.out
          have HX := Lib.hid (ent_getD hml)
          have HXu := Lib.hid (fun (h : m < u.length) => HUl.out m h hml)
          generalize l[m] = x at x0 x1 x2 x3 x4 HX HXu
          subst hA
          clear en n1 n0
          by_cases h1 : x.kind = 1
          · have H1 := Lib.hid h1
            rw [h1] at x1
            clear h1
            by_cases ha : x.a = (r : Int)
            · have H2 := Lib.hid ha
              rw [ha] at x2
              clear ha
              have HSy : Hid (∀ h : m < u.length, x.day = snS u (r : Int) (m + 1)) := fun h => by
                have e := HXu.out h
                rw [← e]
                exact (snS_yes h (by rw [e]; exact H1.out) (by rw [e]; exact H2.out)).symm
              have HSo : Hid (u.length ≤ m → snS u (r : Int) (m + 1) = snS u (r : Int) m) := fun h => by rw [snS_out h, snS_out (show u.length ≤ m + 1 by omega)]
              have HL1 : Hid (LaF l (r : Int) (day + 1) (m + 1) (m : Int)) := fun _ => by omega
              by_cases hd : x.day = day + 1
              · rw [hd] at x0
                by_cases hmu : m < u.length
                · have mu : (m : Int) < (u.length : Int) := by omega
                  have HSz : Hid (day + 1 = snS u (r : Int) (m + 1)) := by rw [← hd]; exact HSy.out hmu
                  clear hd hmu ed
                  go_wp2_with fail
                  go_roundw
                  case rel => exact ⟨m + 1, by omega, by go_num, ⟨(m : Int), rfl, HL1⟩, ⟨_, rfl, HSz⟩, (by first | rfl | trivial)⟩
                  case measure => simp [intOf]; omega
                · have mu : ¬ (m : Int) < (u.length : Int) := by omega
                  have HSz : Hid (sn = snS u (r : Int) (m + 1)) := hsn.out.trans (HSo.out (by omega)).symm
                  clear hd hmu ed
                  go_wp2_with fail
                  go_roundw
                  case rel => exact ⟨m + 1, by omega, by go_num, ⟨(m : Int), rfl, HL1⟩, ⟨_, rfl, HSz⟩, (by first | rfl | trivial)⟩
                  case measure => simp [intOf]; omega
              · have b1 : decide (x.day = day + 1) = false := decide_eq_false hd
                have b2 : (x.day == day + 1) = false := by simpa using hd
                have HL2 : Hid (LaF l (r : Int) (day + 1) (m + 1) la) := hla.out.no (fun h => hd (by rw [← HX.out]; exact h.2.2))
                clear hd
                by_cases hmu : m < u.length
                · have mu : (m : Int) < (u.length : Int) := by omega
                  have HSz : Hid (x.day = snS u (r : Int) (m + 1)) := HSy.out hmu
                  clear hmu
                  go_wp2_with fail
                  go_roundw
                  case rel => exact ⟨m + 1, by omega, by go_num, ⟨la, rfl, HL2⟩, ⟨_, rfl, HSz⟩, (by first | rfl | trivial)⟩
                  case measure => simp [intOf]; omega
                · have mu : ¬ (m : Int) < (u.length : Int) := by omega
                  have HSz : Hid (sn = snS u (r : Int) (m + 1)) := hsn.out.trans (HSo.out (by omega)).symm
                  clear hmu
                  go_wp2_with fail
                  go_roundw
                  case rel => exact ⟨m + 1, by omega, by go_num, ⟨la, rfl, HL2⟩, ⟨_, rfl, HSz⟩, (by first | rfl | trivial)⟩
                  case measure => simp [intOf]; omega
            · have HSz : Hid (sn = snS u (r : Int) (m + 1)) := by
                rcases Nat.lt_or_ge m u.length with q | q
                · exact hsn.out.trans (snS_no q (fun h => ha (by rw [← HXu.out q]; exact h.2))).symm
                · exact hsn.out.trans (by rw [snS_out q, snS_out (show u.length ≤ m + 1 by omega)])
              have HL2 : Hid (LaF l (r : Int) (day + 1) (m + 1) la) := hla.out.no (fun h => ha (by rw [← HX.out]; exact h.2.1))
              have a1 : decide (x.a = (r : Int)) = false := decide_eq_false ha
              have a2 : (x.a == (r : Int)) = false := by simpa using ha
              clear ha ed
              by_cases hmu : m < u.length
              · have mu : (m : Int) < (u.length : Int) := by omega
                clear hmu
                go_wp2_with fail
                go_roundw
                case rel => exact ⟨m + 1, by omega, by go_num, ⟨la, rfl, HL2⟩, ⟨_, rfl, HSz⟩, (by first | rfl | trivial)⟩
                case measure => simp [intOf]; omega
              · have mu : ¬ (m : Int) < (u.length : Int) := by omega
                clear hmu
                go_wp2_with fail
                go_roundw
                case rel => exact ⟨m + 1, by omega, by go_num, ⟨la, rfl, HL2⟩, ⟨_, rfl, HSz⟩, (by first | rfl | trivial)⟩
                case measure => simp [intOf]; omega
          · have HSz : Hid (sn = snS u (r : Int) (m + 1)) := by
              rcases Nat.lt_or_ge m u.length with q | q
              · exact hsn.out.trans (snS_no q (fun h => h1 (by rw [← HXu.out q]; exact h.1))).symm
              · exact hsn.out.trans (by rw [snS_out q, snS_out (show u.length ≤ m + 1 by omega)])
            have HL2 : Hid (LaF l (r : Int) (day + 1) (m + 1) la) := hla.out.no (fun h => h1 (by rw [← HX.out]; exact h.1))
            have a1 : decide (x.kind = 1) = false := decide_eq_false h1
            have a2 : (x.kind == 1) = false := by simpa using h1
            clear h1 ed
            by_cases hmu : m < u.length
            · have mu : (m : Int) < (u.length : Int) := by omega
              clear hmu
              go_wp2_with fail
              go_roundw
              case rel => exact ⟨m + 1, by omega, by go_num, ⟨la, rfl, HL2⟩, ⟨_, rfl, HSz⟩, (by first | rfl | trivial)⟩
              case measure => simp [intOf]; omega
            · have mu : ¬ (m : Int) < (u.length : Int) := by omega
              clear hmu
              go_wp2_with fail
              go_roundw
              case rel => exact ⟨m + 1, by omega, by go_num, ⟨la, rfl, HL2⟩, ⟨_, rfl, HSz⟩, (by first | rfl | trivial)⟩
              case measure => simp [intOf]; omega
        · have m1 : ¬ (m : Int) < (l.length : Int) := by omega
          obtain rfl : m = l.length := by omega
          clear hml hm ed
          have HSn : Hid (sn = snS u (r : Int) u.length) := hsn.out.trans (snS_out hul)
          clear hsn
          by_cases hda : (r : Int) ∈ da
          · have HDt := Lib.hid hda
            rw [decide_eq_true hda] at hha
            have HHa := Lib.hid hha
            have HHb := Lib.hid hhb
            clear hha hhb
            by_cases hdb : (r : Int) ∈ db
            · rw [decide_eq_true hdb] at HHb
              clear hda hdb HFs3 HFn3 n0
              go_wp2_with (first | (go_at_call 41; with_reducible refine HHa.out.mono ?_; rintro e w' ⟨rfl, hw⟩; rw [hw]; clear hw) | (go_at_call 41; with_reducible refine HHb.out.mono ?_; rintro e w' ⟨rfl, hw⟩; rw [hw]; clear hw))
              go_roundw
              case rel => exact ⟨r + 1, by omega, by go_num, HBL.out⟩
              case measure => simp [intOf]; omega
            · rw [decide_eq_false hdb] at HHb
              have hpos := hla.out (by
                obtain ⟨j, j1, j2, j3, j4⟩ := HFn3.out hda hdb
                exact ⟨j, j1, j1, j2, j3, j4⟩)
              have hp1 : decide (la < 0) = false := decide_eq_false (by omega)
              clear hda hdb HFs3 HFn3 n0 hpos
              go_wp2_with (first | (go_at_call 41; with_reducible refine HHa.out.mono ?_; rintro e w' ⟨rfl, hw⟩; rw [hw]; clear hw) | (go_at_call 41; with_reducible refine HHb.out.mono ?_; rintro e w' ⟨rfl, hw⟩; rw [hw]; clear hw))
              go_roundw
              case rel => exact ⟨r + 1, by omega, by go_num, HBL.out⟩
              case measure => simp [intOf]; omega
          · rw [decide_eq_false hda] at hha
            have HHa := Lib.hid hha
            clear hha hhb
            have hfs := HFs3.out (by rw [HDa.out]; exact hda) sn (by rw [HSn.out, HUu.out])
            clear HFs3 HFn3 hda
            obtain ⟨⟨hf1, hf0⟩, hf2, hf3⟩ := hfs
            have HF3 := Lib.hid hf3
            clear hf3
            have s1 : decide (sn < 0) = false := decide_eq_false (by omega)
            have s2 : IntKind.i64.wrap (day - sn) = day - sn := IntWalk.i64_in _ (by omega)
            obtain ⟨br, or, hR, lr, y1⟩ := HRr.out r hrl wr HBr.out
            rw [rules_at hrl] at hf2
            generalize k.rules[r] = v at y1 hf2
            have s3 : decide (v.every ≤ day - sn) = false := decide_eq_false (by omega)
            have sG := HGr.out
            have g0 : wr.cell? ⟨zb, 0, none⟩ = some (.slice R.A1 k.rules.length R.c1) := sG.cell (j := 0) (by simp)
            have lG := sG.lt
            clear sG
            rw [hR] at g0
            clear hR hf2
            go_upto_region 24 with (first | (go_at_call 41; with_reducible refine HHa.out.mono ?_; rintro e w' ⟨rfl, hw⟩; rw [hw]; clear hw) | (go_at_call 41; with_reducible refine HHb.out.mono ?_; rintro e w' ⟨rfl, hw⟩; rw [hw]; clear hw))
            clear g0 lr y1 lG s1 s2 s3 HHa HSn
            go_upto_region 25 with fail
            go_loopw [16] (fun q wz => ∃ d : Int, q = .int .i64 d ∧ sn ≤ d ∧ d ≤ day ∧ Below X2.heap.size X2 wz) (fun q _ => (day - intOf q).toNat)
            case atStart => exact ⟨sn, rfl, Int.le_refl _, hf0, HBL.out⟩
            case round =>
              clear HBL HBr HGr
              obtain ⟨d, rfl, hda1, hda2, hbel⟩ := hrel
              have HBL := Lib.hid hbel
              have HBr := Lib.hid (HBX2.out.trans (hbel.mono HBX2.out.size))
              have HGr := Lib.hid (HGX2.out.below hbel HGX2.out.lt)
              clear hbel
              have t1 : IntKind.i64.wrap (sn + 20) = sn + 20 := IntWalk.i64_in _ (by omega)
              have t2 : IntKind.i64.wrap (d + 1) = d + 1 := IntWalk.i64_in _ (by omega)
              by_cases hgo : d < day ∧ d < sn + 20
              · have q1 : decide (d < day) = true := decide_eq_true hgo.1
                have q2 : decide (d < sn + 20) = true := decide_eq_true hgo.2
                have hlt1 := hgo.1
                have e0 := HOi.out d HLok.out ⟨by omega, by omega⟩
                have hD := H3.out d wr HBr.out
                have e1 : lsE 0 (dueS k (upL l d) d) = dueS k (upL l d) d := if_pos rfl
                rw [e0, e1] at hD
                have hnd := HF3.out d hda1 hda2
                have hml := HDl.out d
                generalize dueS k (upL l d) d = de at hD hnd hml
                have HD := Lib.hid hD
                have HNd := Lib.hid hnd
                have HMl := Lib.hid hml
                have sG := HGr.out
                have g0 : wr.cell? ⟨zb, 0, none⟩ = some (.slice R.A1 k.rules.length R.c1) := sG.cell (j := 0) (by simp)
                have g1 : wr.cell? ⟨zb, 1, none⟩ = some (.slice R.A2 k.ranks.length R.c2) := sG.cell (j := 1) (by simp)
                have g2 : wr.cell? ⟨zb, 2, none⟩ = some (.slice R.A3 k.insured.length R.c3) := sG.cell (j := 2) (by simp)
                have lG := sG.lt
                clear sG hD hnd hml e0 e1 hgo t1
                go_upto_region 28 with (go_at_call 20; refine HD.out.mono ?_; rintro e Z ⟨hZ, Ad, cd, rfl, hrd⟩)
                have HBZ := Lib.hid (HBL.out.trans (hZ.mono HBL.out.size))
                have hh := has_any de Ad cd (r : Int) Z HMl.out hrd
                rw [decide_eq_false HNd.out] at hh
                have HH := Lib.hid hh
                clear hZ hrd hh g0 g1 g2 lG
                go_wp2_with (go_at_call 41; with_reducible refine HH.out.mono ?_; rintro e w' ⟨rfl, hw⟩; rw [hw]; clear hw)
                go_roundw
                case rel => exact ⟨d + 1, rfl, by omega, by omega, HBZ.out⟩
                case measure => simp [intOf]; omega
              · have q0 : (decide (d < day) && decide (d < sn + 20)) = false := by
                  rw [Bool.and_eq_false_iff, decide_eq_false_iff_not, decide_eq_false_iff_not]
                  omega
                by_cases hq : d < day
                · have q1 : decide (d < day) = true := decide_eq_true hq
                  have q2 : decide (d < sn + 20) = false := decide_eq_false (by omega)
                  clear hgo hq q0
                  go_wp2_with fail
                  go_roundw
                  case rel => exact ⟨r + 1, by omega, by go_num, HBL.out⟩
                  case measure => simp [intOf]; omega
                · have q1 : decide (d < day) = false := decide_eq_false hq
                  clear hgo hq q0
                  go_wp2_with fail
                  go_roundw
                  case rel => exact ⟨r + 1, by omega, by go_num, HBL.out⟩
                  case measure => simp [intOf]; omega
    · have n1 : ¬ (r : Int) < (k.rules.length : Int) := by omega
      clear hrl hrn
      go_wp2_with (go_at_call 17; refine (HW.out _ HBr.out).mono ?_; rintro e w' ⟨rfl, hb⟩; have BW := Lib.hid hb; clear hb)
      go_ret
      exact ⟨ret_boolI (by simp), BW.out⟩
  
end Go.Proofs.Ytaocgkmobfocjaa
