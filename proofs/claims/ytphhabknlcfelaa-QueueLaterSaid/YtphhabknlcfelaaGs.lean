/- The walk of QueueLater. Conditions: an evening, groups and one more group that read as data. -/
import Derived.Test.YtphhabknlcfelaaEq
import Derived.Test.YtphhabknlcfelaaEz
import Derived.Test.YtphhabknlcfelaaGr
import Derived.Test.YtphhabknlcfelaaGo
import Derived.Test.YtphhabknlcfelaaRj
namespace Go.Proofs.Ytphhabknlcfelaa
open Go.RowKit

theorem grps_snoc {y : World} {base : Nat} {l : List GrpZ} {m : GrpZ} {rs : List (Option Addr × Nat)} {A : Option Addr} {c : Nat} {r : Option Addr × Nat} (ho : y.ownsRow base 55 5 (.slice A (l.length + 1) c) (l.length + 1) (agsL rs l ++ agL r m)) (hlen : l.length + 1 ≤ maxLen)
    (hi : ∀ i, i < l.length → Reads y y.heap.size 1 (rs.getD i default).1 (l.getD i default).wants.length ((l.getD i default).wants.map (Value.int .i64))) (hw : ∀ i, i < l.length → (l.getD i default).wants.length ≤ maxLen)
    (hm : Reads y y.heap.size 1 r.1 m.wants.length (m.wants.map (Value.int .i64))) (hml : m.wants.length ≤ maxLen) : ∃ rs', GrpsIn y y.heap.size A rs' (l ++ [m]) := by
  have g1 : ∀ i, i < l.length → (l ++ [m]).getD i default = l.getD i default := fun i h => by
    rw [List.getD_eq_getElem?_getD, List.getD_eq_getElem?_getD, List.getElem?_append_left h]
  have g2 : (l ++ [m]).getD l.length default = m := by rw [List.getD_eq_getElem?_getD]; simp
  have r1 : ∀ i, i < l.length → ((List.range l.length).map (fun i => rs.getD i default) ++ [r]).getD i default = rs.getD i default := fun i h => by
    rw [List.getD_eq_getElem?_getD, List.getElem?_append_left (by simpa using h), List.getElem?_map, List.getElem?_range h]; rfl
  have r2 : ((List.range l.length).map (fun i => rs.getD i default) ++ [r]).getD l.length default = r := by rw [List.getD_eq_getElem?_getD, List.getElem?_append_right (by simp)]; simp
  have hl : (l ++ [m]).length = l.length + 1 := by simp
  refine ⟨(List.range l.length).map (fun i => rs.getD i default) ++ [r], by rw [hl]; exact hlen, fun _ => ?_, fun i h => ?_, fun i h => ?_⟩
  · obtain ⟨b, o, e, hb, hc⟩ := (own_rds ho).2 (by omega)
    refine ⟨b, o, e, hb, fun i h => ?_⟩
    rw [hl] at h
    have key : ∀ j, j < 5 → y.cell? ⟨b, o + i * 5 + j, none⟩ = some (agV (((List.range l.length).map (fun i => rs.getD i default) ++ [r]).getD i default) ((l ++ [m]).getD i default) j) := fun j hj => by
      have hx : (agsL rs l ++ agL r m)[i * 5 + j]? = some (agV (((List.range l.length).map (fun i => rs.getD i default) ++ [r]).getD i default) ((l ++ [m]).getD i default) j) := by
        rcases Nat.lt_or_ge i l.length with h1 | h1
        · rw [g1 i h1, r1 i h1, List.getElem?_append_left (by rw [agsL_len]; omega)]
          exact agsL_at rs l i h1 j hj
        · obtain rfl : i = l.length := by omega
          rw [g2, r2, List.getElem?_append_right (by rw [agsL_len]; omega), agsL_len, show l.length * 5 + j - l.length * 5 = j by omega]
          exact lt_five (P := fun j => (agL r m)[j]? = some (agV r m j)) rfl rfl rfl rfl rfl j hj
      have := hc _ _ hx
      rw [← Nat.add_assoc] at this
      exact this
    exact ⟨key 0 (by omega), key 1 (by omega), key 2 (by omega), key 3 (by omega), key 4 (by omega)⟩
  · rw [hl] at h
    rcases Nat.lt_or_ge i l.length with h1 | h1
    · rw [g1 i h1, r1 i h1]; exact hi i h1
    · obtain rfl : i = l.length := by omega
      rw [g2, r2]; exact hm
  · rw [hl] at h
    rcases Nat.lt_or_ge i l.length with h1 | h1
    · rw [g1 i h1]; exact hw i h1
    · obtain rfl : i = l.length := by omega
      rw [g2]; exact hml
/-- What the law looks at. -/
structure LaterB (t : Int) (L L' : List VisZ) : Prop where
  ok : LaterOk t L L'
  len : L.length ≤ 1000
theorem laterb_all {f : EveZ} {l : List GrpZ} {m : GrpZ} (hc : checkQ f l = 0) (hc' : checkQ f (l ++ [m]) = 0) {L L' : List VisZ} (hp : L.Perm (eveS f l).visits) (hs : L.Pairwise leV) (hp' : L'.Perm (eveS f (l ++ [m])).visits) (hs' : L'.Pairwise leV) : LaterB m.at_ L L' := by
  obtain ⟨h1, h2⟩ := checkQ_ok.1 hc
  obtain ⟨h1', h2'⟩ := checkQ_ok.1 hc'
  have g := grp_valid h2
  have g' := grp_valid h2'
  have e := eve_valid h1
  have hfit := fit_of (big_start h1 h2).1 (play_his f l (fun x hx => (g x hx).2.2.2.1.1) (fun x hx => (g x hx).2.2.2.2.2))
  have hat := (g' m (by simp)).1
  exact ⟨later_ok f l m e.2.1.1 (fun b hb => by have := (e.2.2 b hb).2.2.1.1; omega) (fun x hx => (g' x hx).2.2.2.1.1) (fun x hx => (g' x hx).2.2.2.2.2) hat L L' hp hs hp' hs', by rw [hp.length_eq]; exact hfit.vis⟩
/-- The rule for a drawn region whose invariant speaks of what has come up, and of its values. -/
def StepY (P : Program) (ops : Array Oper) (Q : Exit → Act → World → Prop) (a : Act) (ds : List (Nat × Tmp)) (I : (Nat → Bool) → (Nat → Value) → World → Prop) (i : Nat) (dst : Option Tmp) : Prop :=
  ∀ (xs : Nat → Value) (done : Nat → Bool) (y : World), I done xs y → done i = false → (∀ j, aheadB ops 8 j i = true → done j = false) → (∀ j, aheadB ops 8 i j = true → done j = true) → ∀ K : Act → World → Prop,
    Shut (∀ v z, I (setD done i) (setX xs i v) z → K ((putsF a ds xs).put dst v) z) → wpOp P ops Q i K (putsF a ds xs) y
def StepsY (P : Program) (ops : Array Oper) (Q : Exit → Act → World → Prop) (a : Act) (ds : List (Nat × Tmp)) (I : (Nat → Bool) → (Nat → Value) → World → Prop) : Nat → Nat → Prop
  | _, 0 => True
  | k, n + 1 => (∀ o, ops[k]? = some o → StepY P ops Q a ds I k o.dst) ∧ StepsY P ops Q a ds I (k + 1) n
section
variable {P : Program} {ops : Array Oper} {Q : Exit → Act → World → Prop} {a : Act} {ds : List (Nat × Tmp)} {I : (Nat → Bool) → (Nat → Value) → World → Prop}
theorem StepsY.nil {k : Nat} : StepsY P ops Q a ds I k 0 := trivial
theorem StepsY.cons {k k' n : Nat} {o : Oper} (hk : k' = k + 1) (ho : ops[k]? = some o) (h : StepY P ops Q a ds I k o.dst) (hs : StepsY P ops Q a ds I k' n) : StepsY P ops Q a ds I k (n + 1) := by
  subst hk
  exact ⟨fun o' ho' => by rw [ho] at ho'; injection ho' with ho'; subst ho'; exact h, hs⟩
theorem StepsY.at : ∀ (n k : Nat), StepsY P ops Q a ds I k n → ∀ i o, k ≤ i → i < k + n → ops[i]? = some o → StepY P ops Q a ds I i o.dst
  | 0, k, _, i, _, h1, h2, _ => by omega
  | n + 1, k, h, i, o, h1, h2, ho => by
    rcases Nat.lt_or_ge k i with h3 | h3
    · exact StepsY.at n (k + 1) h.2 i o h3 (by omega) ho
    · obtain rfl : i = k := by omega
      exact h.1 o ho
theorem wp_region_stepsY {id : Nat} {w : World} {ord : List Nat} (m : Nat) (hmx : P.follows .mixedOrders = true) (hok : rgB ops ord m ds = true) (hm : ops.size = m) (hI : ∀ xs, I (fun _ => false) xs w.drew)
    (hs : StepsY P ops Q a ds I 0 m)
    (hend : ∀ xs done y, I done xs y → (∀ j, j < m → done j = true) → Q .normal (putsF a ds xs) y) : (Code.region id ops true).wp P Q a w :=
  wp_region_any hmx (anyE_wp _ _ _ _ (rg_startX (E := wpOp P ops Q) (w := w.drew) (m := m) (V := fun _ _ _ => True) (I := I) (fun _ _ _ _ _ h => wpOp_mono h) hok (Nat.le_of_eq hm.symm) hI (fun i o him ho xs done y hy hd hup hdn _ K hK =>
    hs.at m 0 i o (Nat.zero_le _) (by omega) ho xs done y hy hd hup hdn K fun v z hz => hK v z hz trivial fun _ _ _ _ _ _ => trivial) fun xs done y hy hd _ _ => by
      rw [hm, Nat.sub_self]
      exact hend xs done y hy hd))
end
/-- A list of visits, with an error. -/
def LatT (p : List VisZ → Prop) (k2 : Int) (u : Value) (y : World) : Prop := ∃ (L : List VisZ) (A : Option Addr) (c : Nat), u = .tuple #[.slice A L.length c, .int .i64 k2] ∧ p L ∧ Reads y y.heap.size 6 A L.length (L.flatMap visL)
/-- What has come up in the call with one more group. -/
structure LatI (f : EveZ) (l : List GrpZ) (m : GrpZ) (A A2 A9 : Option Addr) (c c2 c9 : Nat) (w2 : World) (k2 : Int) (p : List VisZ → Prop) (done : Nat → Bool) (xs : Nat → Value) (y : World) : Prop where
  bel : Below w2.heap.size w2 y
  v0 : done 0 = true → xs 0 = .agg #[.slice A f.rides.length c, .int .i64 f.walk]
  v1 : done 1 = true → xs 1 = .slice A2 l.length c2
  v2 : done 2 = true → done 5 = false → ∃ A4 c4 rs4, xs 2 = .slice A4 l.length c4 ∧ y.ownsRow w2.heap.size 55 5 (.slice A4 l.length c4) l.length (agsL rs4 l) ∧ ∀ i, i < l.length → y.ownsRow w2.heap.size 3 1 (.slice (rs4.getD i default).1 (l.getD i default).wants.length (rs4.getD i default).2) (l.getD i default).wants.length ((l.getD i default).wants.map (Value.int .i64))
  v3 : done 3 = true → xs 3 = grpV m A9 c9
  v4 : done 4 = true → done 5 = false → ∃ g : Nat, xs 4 = .slice (some ⟨g, 0, none⟩) 1 1 ∧ Row y g 55 (agL (A9, c9) m) ∧ (done 2 = true → (xs 2).ownBlock ≠ some g)
  v5 : done 5 = true → done 6 = false → ∃ A5 c5 rs5, xs 5 = .slice A5 (l.length + 1) c5 ∧ GrpsIn y y.heap.size A5 rs5 (l ++ [m])
  v6 : done 6 = true → LatT p k2 (xs 6) y
  v7 : done 7 = true → xs 7 = xs 6
  v8 : done 8 = true → ∃ q, xs 7 = .tuple #[xs 8, q]
  v9 : done 9 = true → xs 9 = .int .i64 k2
  v10 : done 10 = true → xs 10 = xs 8
  v11 : done 11 = true → xs 11 = xs 9
/-- What is asked, place by place. -/
structure LaterN (t : Int) (L L' : List VisZ) (n : Nat) : Prop where
  l1 : n ≤ L.length
  l2 : n ≤ L'.length
  low : ∀ i (h : i < L.length), i < n → L[i].left < t
  at1 : ∀ h : n < L.length, t ≤ L[n].left
  at2 : ∀ h : n < L'.length, t ≤ L'[n].left
  same : ∀ i (h : i < L.length) (h' : i < L'.length), i < n → L'[i] = L[i]
theorem later_n {t : Int} {L L' : List VisZ} (h : LaterOk t L L') : ∃ n, LaterN t L L' n := by
  obtain ⟨P, S, S', rfl, rfl, h1, h2, h3⟩ := h
  refine ⟨P.length, by simp, by simp, fun i h hi => ?_, fun h => ?_, fun h => ?_, fun i h h' hi => ?_⟩
  · rw [List.getElem_append_left hi]; exact h1 _ (List.getElem_mem hi)
  · rw [List.getElem_append_right (Nat.le_refl _)]; exact h2 _ (List.getElem_mem _)
  · rw [List.getElem_append_right (Nat.le_refl _)]; exact h3 _ (List.getElem_mem _)
  · rw [List.getElem_append_left hi, List.getElem_append_left hi]
/-- A quiet tail step by step, in a box that the elaborator doesn't open. -/
structure BoxP (p : Prop) : Prop where
  out : p
theorem box_step {P : Program} {ops : Array Oper} {w : World} {Q : Act → Prop} {a : Act} {o : Oper} {rest : List Oper}
    (h : ∀ K : Act → Prop, (∀ a, BoxP (wpStill P ops w Q rest a) → K a) → if Region.wanted o (yielded ops a.tmps) then o.still P a w K else K (a.put o.dst undef)) : BoxP (wpStill P ops w Q (o :: rest) a) :=
  ⟨h _ (fun _ h => h.out)⟩
theorem box_nil {P : Program} {ops : Array Oper} {w : World} {Q : Act → Prop} {a : Act} (h : Q a) : BoxP (wpStill P ops w Q [] a) := ⟨h⟩
set_option maxRecDepth 100000 in
set_option maxHeartbeats 1000000 in
theorem lplay_wide (f : EveZ) (l : List GrpZ) (A A2 : Option Addr) (c c2 B : Nat) (rs : List (Option Addr × Nat)) (w : World) (hB : B ≤ w.heap.size) (hr : Reads w B 5 A f.rides.length (bthCells f.rides)) (hn : f.rides.length ≤ maxLen) (hl : GrpsIn w B A2 rs l) (n1 : f.rides.length ≤ 1000) (n2 : l.length ≤ 1000) (n3 : ∀ i, i < l.length → (l.getD i default).wants.length ≤ 1000) :
    Calls Try.prog 40 #[eveV f A c, .slice A2 l.length c2] w (PlayedTo w f l) := by
  obtain ⟨W, hW⟩ : ∃ W, W = w.alloc (.cells #[.slice A f.rides.length c, .int .i64 f.walk] 24) := ⟨_, rfl⟩
  have bW : Below w.heap.size w W := by subst hW; exact (Below.refl _ _).alloc (Nat.le_refl _) _
  have r0 : Row W w.heap.size 24 [.slice A f.rides.length c, .int .i64 f.walk] := by subst hW; exact Row.new w _ _
  have q0 : W.cell? ⟨w.heap.size, 0, none⟩ = some (.slice A f.rides.length c) := r0.cell (j := 0) (by simp)
  have q1 : W.cell? ⟨w.heap.size, 1, none⟩ = some (.int .i64 f.walk) := r0.cell (j := 1) (by simp)
  have lW : w.heap.size < W.heap.size := r0.lt
  have HR : Hid (∀ X, Below w.heap.size w X → B ≤ X.heap.size ∧ Reads X B 5 A f.rides.length (bthCells f.rides) ∧ GrpsIn X B A2 rs l) := fun X hX => ⟨Nat.le_trans hB hX.size, hr.below (hX.mono hB), hl.below (hX.mono hB)⟩
  have HC : Hid (∀ X, Below w.heap.size w X → Calls Try.prog 18 #[eveV f A c] X (EveTo X f)) := fun X hX => rCopy_any f A c B X (HR.out X hX).1 (HR.out X hX).2.1 n1
  have HG : Hid (∀ X, Below w.heap.size w X → Calls Try.prog 19 #[.slice A2 l.length c2] X (GrpTo X l)) := fun X hX => rCopyGroups_any l A2 c2 B rs X (HR.out X hX).1 (HR.out X hX).2.2 n2 n3
  have HZ : Hid (∀ (E : Ending) (X Y : World), Below w.heap.size w X → PlayedTo X f l E Y → PlayedTo w f l E Y) := fun E X Y hX ⟨L, A, c, h1, h2, h3, h4⟩ => ⟨L, A, c, h1, h2, hX.trans (h3.mono hX.size), h4⟩
  have HBW := Lib.hid bW
  unfold eveV at HC ⊢
  clear hr hl n1 n2 n3 r0
  go_enter Try.func40, Try.ntmps40
  go_upto_region 1 with (fail)
  rw [← hW]
  clear hW
  go_wp2_with (first
    | (go_at_call 21; refine HP.out.mono ?_; rintro e w3 ⟨L, A5, c5, rfl, h2, h3, h4⟩; have H5 := Lib.hid (HZ.out _ w2 w3 b2.out ⟨L, A5, c5, rfl, h2, h3, h4⟩); clear h2 h3 h4; generalize checkQ f l = kk at H5 ⊢)
    | (go_at_call 19; refine (HG.out _ b1.out).mono ?_; rintro e w2 ⟨A4, c4, rs4, rfl, hb2, hg4⟩; have b2 := Lib.hid (b1.out.trans (hb2.mono b1.out.size)); have hP := Play_any f l A3 A4 c3 c4 w2.heap.size rs4 w2 (Nat.le_refl _) ((hE1.out.below hb2).more hb2.size) hn hg4; unfold eveV at hP; have HP := Lib.hid hP; clear hb2 hg4 hP)
    | (go_at_call 18; refine (HC.out _ HBW.out).mono ?_; rintro e w1 ⟨A3, c3, rfl, hb1, ho1⟩; have b1 := Lib.hid (HBW.out.trans (hb1.mono HBW.out.size)); have hE1 := Lib.hid (own_rds ho1); clear hb1 ho1; unfold eveV))
  go_ret2
  exact H5.out
set_option maxRecDepth 100000 in
set_option maxHeartbeats 4000000 in
theorem qlater_walk (f : EveZ) (l : List GrpZ) (m : GrpZ) (A A2 A9 : Option Addr) (c c2 c9 B : Nat) (rs : List (Option Addr × Nat)) (w : World) (hB : B ≤ w.heap.size) (hr : Reads w B 5 A f.rides.length (bthCells f.rides)) (hn : f.rides.length ≤ maxLen) (hl : GrpsIn w B A2 rs l) (hm : Reads w B 1 A9 m.wants.length (m.wants.map (Value.int .i64))) (hml : m.wants.length ≤ maxLen) :
    Calls Try.prog 13 #[eveV f A c, .slice A2 l.length c2, grpV m A9 c9] w (TrueP w) := by
  obtain ⟨W, hW⟩ : ∃ W, W = (w.alloc (.cells #[.slice A f.rides.length c, .int .i64 f.walk] 24)).alloc (.cells #[.int .i64 m.at_, .int .i64 m.size, .int .i64 m.tokens, .slice A9 m.wants.length c9, .int .i64 m.patience] 55) := ⟨_, rfl⟩
  have bW : Below w.heap.size w W := by subst hW; exact ((Below.refl _ _).alloc (Nat.le_refl _) _).alloc (by simp) _
  have r0 : Row W w.heap.size 24 [.slice A f.rides.length c, .int .i64 f.walk] := by subst hW; exact (Row.new w _ _).alloc _
  have rg : Row W (w.heap.size + 1) 55 [.int .i64 m.at_, .int .i64 m.size, .int .i64 m.tokens, .slice A9 m.wants.length c9, .int .i64 m.patience] := by subst hW; rw [show w.heap.size + 1 = (w.alloc (.cells #[.slice A f.rides.length c, .int .i64 f.walk] 24)).heap.size by rw [World.size_alloc]]; exact Row.new _ _ _
  have q0 : W.cell? ⟨w.heap.size, 0, none⟩ = some (.slice A f.rides.length c) := r0.cell (j := 0) (by simp)
  have q1 : W.cell? ⟨w.heap.size, 1, none⟩ = some (.int .i64 f.walk) := r0.cell (j := 1) (by simp)
  have z0 := r0.lt
  have zg := rg.lt
  have HR : Hid (∀ X, Below w.heap.size w X → B ≤ X.heap.size ∧ Reads X B 5 A f.rides.length (bthCells f.rides) ∧ GrpsIn X B A2 rs l ∧ Reads X B 1 A9 m.wants.length (m.wants.map (Value.int .i64))) := fun X hX => ⟨Nat.le_trans hB hX.size, hr.below (hX.mono hB), hl.below (hX.mono hB), hm.below (hX.mono hB)⟩
  have HF := Lib.hid (far_any f l A A2 c c2 B rs W (HR.out W bW).1 hn (HR.out W bW).2.2.1)
  have Hfin : Hid (∀ X : World, Below w.heap.size w X → Calls Try.prog 16 #[] X fun e w' => e = .returned (.bool true) ∧ Below w.heap.size w w') := fun X hX => (works_any X).mono fun _ _ h => ⟨h.1, hX.trans (h.2.mono hX.size)⟩
  have HG0 : Hid (∀ X, Below w.heap.size w X → Row X w.heap.size 24 [.slice A f.rides.length c, .int .i64 f.walk] ∧ Row X (w.heap.size + 1) 55 [.int .i64 m.at_, .int .i64 m.size, .int .i64 m.tokens, .slice A9 m.wants.length c9, .int .i64 m.patience] → True) := fun _ _ _ => trivial
  have hmw := hml
  unfold eveV at HF ⊢
  unfold grpV
  clear hr hl hm HG0
  go_enter Try.func13, Try.ntmps13
  go_upto_region 1 with (fail)
  rw [← hW]
  clear hW
  cases hfb : farB f l with
  | true =>
    rw [hfb] at HF
    go_wp2_with (first | (go_at_call 15; refine HF.out.mono ?_; rintro e w1 ⟨rfl, hb1⟩; have b1 := bW.trans (hb1.mono bW.size); clear hb1) | (go_at_call 16; refine (Hfin.out _ b1).mono ?_; rintro e w2 ⟨rfl, hb2⟩; have HB2 := Lib.hid hb2; clear hb2))
    go_ret
    exact ⟨rfl, HB2.out⟩
  | false =>
    rw [hfb] at HF
    obtain ⟨n1, n2, n3⟩ := far_not hfb
    by_cases h20 : (20 : Int) < (m.wants.length : Int)
    · go_wp2_with (first | (go_at_call 15; refine HF.out.mono ?_; rintro e w1 ⟨rfl, hb1⟩; have b1 := bW.trans (hb1.mono bW.size); have rg1 := rg.below hb1 zg; have g3 : w1.cell? ⟨w.heap.size + 1, 3, none⟩ = some (.slice A9 m.wants.length c9) := rg1.cell (j := 3) (by simp); have zg1 := rg1.lt; clear hb1 rg1) | (go_at_call 16; refine (Hfin.out _ b1).mono ?_; rintro e w2 ⟨rfl, hb2⟩; have HB2 := Lib.hid hb2; clear hb2))
      go_ret
      exact ⟨rfl, HB2.out⟩
    have hd20 : decide ((20 : Int) < (m.wants.length : Int)) = false := decide_eq_false h20
    obtain ⟨k, hk⟩ : ∃ k, k = checkQ f l := ⟨_, rfl⟩
    obtain ⟨k2, hk2⟩ : ∃ k, k = checkQ f (l ++ [m]) := ⟨_, rfl⟩
    have HL : Hid (∀ L L' : List VisZ, k = 0 → k2 = 0 → (L.Perm (eveS f l).visits ∧ L.Pairwise leV) → (L'.Perm (eveS f (l ++ [m])).visits ∧ L'.Pairwise leV) → LaterB m.at_ L L') := fun L L' h1 h2 h3 h4 => laterb_all (by rw [← hk]; exact h1) (by rw [← hk2]; exact h2) h3.1 h3.2 h4.1 h4.2
    have HP : Hid (∀ X, Below w.heap.size w X → Calls Try.prog 40 #[eveV f A c, .slice A2 l.length c2] X fun e w' => ∃ (L : List VisZ) (A3 : Option Addr) (c3 : Nat), e = .returned (.tuple #[.slice A3 L.length c3, .int .i64 k]) ∧ (k = 0 → L.Perm (eveS f l).visits ∧ L.Pairwise leV) ∧ Below X.heap.size X w' ∧ Reads w' w'.heap.size 6 A3 L.length (L.flatMap visL)) := fun X hX => (lplay_any f l A A2 c c2 B rs X (HR.out X hX).1 (HR.out X hX).2.1 hn (HR.out X hX).2.2.1 hfb).mono fun e w' ⟨L, A3, c3, h1, h2, h3, h4⟩ => ⟨L, A3, c3, by rw [hk]; exact h1, fun h0 => by
      rw [hk] at h0
      exact ⟨(h2 h0).1, (h2 h0).2.1⟩, h3, h4⟩
    have hlg : (l ++ [m]).length = l.length + 1 := by simp
    have hwg : ∀ i, i < (l ++ [m]).length → ((l ++ [m]).getD i default).wants.length ≤ 1000 := fun i h => by
      rw [hlg] at h
      rcases Nat.lt_or_ge i l.length with h1 | h1
      · rw [List.getD_eq_getElem?_getD, List.getElem?_append_left h1, ← List.getD_eq_getElem?_getD]
        have := n3 i h1
        omega
      · obtain rfl : i = l.length := by omega
        rw [List.getD_eq_getElem?_getD]
        simp
        omega
    have HP2 : Hid (∀ X A5 c5 rs5, Below w.heap.size w X → GrpsIn X X.heap.size A5 rs5 (l ++ [m]) → Calls Try.prog 40 #[eveV f A c, .slice A5 (l.length + 1) c5] X fun e w' => ∃ (L : List VisZ) (A3 : Option Addr) (c3 : Nat), e = .returned (.tuple #[.slice A3 L.length c3, .int .i64 k2]) ∧ (k2 = 0 → L.Perm (eveS f (l ++ [m])).visits ∧ L.Pairwise leV) ∧ Below X.heap.size X w' ∧ Reads w' w'.heap.size 6 A3 L.length (L.flatMap visL)) := fun X A5 c5 rs5 hX hg => by
      have := lplay_wide f (l ++ [m]) A A5 c c5 X.heap.size rs5 X (Nat.le_refl _) (((HR.out X hX).2.1).more (HR.out X hX).1) hn hg (by omega) (by omega) hwg
      rw [hlg] at this
      exact this.mono fun e w' ⟨L, A3, c3, h1, h2, h3, h4⟩ => ⟨L, A3, c3, by rw [hk2]; exact h1, fun h0 => by
        rw [hk2] at h0
        exact ⟨(h2 h0).1, (h2 h0).2.1⟩, h3, h4⟩
    have HC : Hid (∀ X, Below w.heap.size w X → Calls Try.prog 19 #[.slice A2 l.length c2] X (GrpTo2 X l)) := fun X hX => rCopyGroups_own l A2 c2 B rs X (HR.out X hX).1 (HR.out X hX).2.2.1 (by omega) (fun i hi => by have := n3 i hi; omega)
    unfold eveV at HP HP2
    clear hfb hk hk2 hlg hwg
    go_upto_region 3 with (go_at_call 15; refine HF.out.mono ?_; rintro e w1 ⟨rfl, hb1⟩; have b1 := bW.trans (hb1.mono bW.size); have rg1 := rg.below hb1 zg; have r1 := r0.below hb1 z0; have g3 : w1.cell? ⟨w.heap.size + 1, 3, none⟩ = some (.slice A9 m.wants.length c9) := rg1.cell (j := 3) (by simp); have zg1 := rg1.lt; have z1 := r1.lt; have x0 : w1.cell? ⟨w.heap.size, 0, none⟩ = some (.slice A f.rides.length c) := r1.cell (j := 0) (by simp); have x1 : w1.cell? ⟨w.heap.size, 1, none⟩ = some (.int .i64 f.walk) := r1.cell (j := 1) (by simp); clear hb1)
    clear q0 q1 r0 rg z0 zg HF g3
    go_upto_region 4 with (go_at_call 40; refine (HP.out w1 b1).mono ?_; rintro e w2 ⟨L, A3, c3, rfl, hL, hb2, hr2⟩)
    have b2 := b1.trans (hb2.mono b1.size)
    have r2 := r1.below hb2 z1
    have rg2 := rg1.below hb2 zg1
    have z2 := r2.lt
    have zg2 := rg2.lt
    clear x0 x1 r1 rg1 hb2 z1 zg1 b1 HP
    have HR2 := Lib.hid r2
    have HRG := Lib.hid rg2
    have V2 := Lib.hid hr2
    have B2 := Lib.hid b2
    have HLL := Lib.hid hL
    clear r2 rg2 hr2 b2 hL
    have HW9 : Hid (∀ X, Below w2.heap.size w2 X → Reads X X.heap.size 1 A9 m.wants.length (m.wants.map (Value.int .i64))) := fun X hX => (HR.out X (B2.out.trans (hX.mono B2.out.size))).2.2.2.more (HR.out X (B2.out.trans (hX.mono B2.out.size))).1
    have HPP : Hid (∀ X A5 c5 rs5, Below w2.heap.size w2 X → GrpsIn X X.heap.size A5 rs5 (l ++ [m]) → Calls Try.prog 40 #[.agg #[.slice A f.rides.length c, .int .i64 f.walk], .slice A5 (l.length + 1) c5] X fun e w' => Below X.heap.size X w' ∧ ∃ u, e = .returned u ∧ LatT (fun L => k2 = 0 → L.Perm (eveS f (l ++ [m])).visits ∧ L.Pairwise leV) k2 u w') := fun X A5 c5 rs5 hX hg => (HP2.out X A5 c5 rs5 (B2.out.trans (hX.mono B2.out.size)) hg).mono fun e w' ⟨L, A3, c3, h1, h2, h3, h4⟩ => ⟨h3, _, h1, L, A3, c3, rfl, h2, h4⟩
    have HCC : Hid (∀ X, Below w2.heap.size w2 X → Calls Try.prog 19 #[.slice A2 l.length c2] X (GrpTo2 X l)) := fun X hX => HC.out X (B2.out.trans (hX.mono B2.out.size))
    have pg : ∀ rs4 : List (Option Addr × Nat), ∀ u ∈ agL (A9, c9) m, u.oneCell' = true := fun _ u hu => by unfold agL at hu; simp only [List.mem_cons, List.not_mem_nil, or_false] at hu; rcases hu with rfl | rfl | rfl | rfl | rfl <;> rfl
    obtain ⟨j0, hj, hy0, hy1, hy2⟩ := info_parts Try.info_agroup
    have hw1 : ∀ i, i < l.length → (l.getD i default).wants.length ≤ maxLen := fun i hi => by have := n3 i hi; unfold maxLen; omega
    clear HP2 HC
    go_cut [9, 10] (fun s9 s10 wx => ∃ (L' : List VisZ) (A' : Option Addr) (c' : Nat), s9 = .slice A' L'.length c' ∧ s10 = .int .i64 k2 ∧ (k2 = 0 → L'.Perm (eveS f (l ++ [m])).visits ∧ L'.Pairwise leV) ∧ Below w2.heap.size w2 wx ∧ Reads wx wx.heap.size 6 A' L'.length (L'.flatMap visL))
    case first =>
      refine wp_region_stepsY 12 (ord := [0, 1, 2, 3, 4, 5, 6, 7, 8, 9, 10, 11]) (ds := [(0, 30), (1, 31), (2, 32), (3, 33), (4, 34), (5, 35), (6, 36), (7, 29), (8, 37), (9, 38), (10, 9), (11, 10)]) (I := LatI f l m A A2 A9 c c2 c9 w2 k2 (fun L => k2 = 0 → L.Perm (eveS f (l ++ [m])).visits ∧ L.Pairwise leV)) (by kernel_rfl) (by kernel_rfl) rfl ?iz (StepsY.cons (k := 0) (k' := 1) (o := ⟨some 30, _, _, _, _, _⟩) rfl rfl ?sz0 (StepsY.cons (k := 1) (k' := 2) (o := ⟨some 31, _, _, _, _, _⟩) rfl rfl ?sz1 (StepsY.cons (k := 2) (k' := 3) (o := ⟨some 32, _, _, _, _, _⟩) rfl rfl ?sz2 (StepsY.cons (k := 3) (k' := 4) (o := ⟨some 33, _, _, _, _, _⟩) rfl rfl ?sz3 (StepsY.cons (k := 4) (k' := 5) (o := ⟨some 34, _, _, _, _, _⟩) rfl rfl ?sz4 (StepsY.cons (k := 5) (k' := 6) (o := ⟨some 35, _, _, _, _, _⟩) rfl rfl ?sz5 (StepsY.cons (k := 6) (k' := 7) (o := ⟨some 36, _, _, _, _, _⟩) rfl rfl ?sz6 (StepsY.cons (k := 7) (k' := 8) (o := ⟨some 29, _, _, _, _, _⟩) rfl rfl ?sz7 (StepsY.cons (k := 8) (k' := 9) (o := ⟨some 37, _, _, _, _, _⟩) rfl rfl ?sz8 (StepsY.cons (k := 9) (k' := 10) (o := ⟨some 38, _, _, _, _, _⟩) rfl rfl ?sz9 (StepsY.cons (k := 10) (k' := 11) (o := ⟨some 9, _, _, _, _, _⟩) rfl rfl ?sz10 (StepsY.cons (k := 11) (k' := 12) (o := ⟨some 10, _, _, _, _, _⟩) rfl rfl ?sz11 StepsY.nil)))))))))))) ?finz
      case iz => exact fun xs => ⟨(Below.refl _ _).drew, fun h => Bool.noConfusion h, fun h => Bool.noConfusion h, fun h => Bool.noConfusion h, fun h => Bool.noConfusion h, fun h => Bool.noConfusion h, fun h => Bool.noConfusion h, fun h => Bool.noConfusion h, fun h => Bool.noConfusion h, fun h => Bool.noConfusion h, fun h => Bool.noConfusion h, fun h => Bool.noConfusion h, fun h => Bool.noConfusion h⟩
      case sz0 =>
        intro xs done y hI hd0 hup hdn K hK
        refine wpOp_go (o := ⟨some 30, _, _, _, _, _⟩) rfl rfl ?_
        simp only [putsF, List.foldl_cons, List.foldl_nil, Act.put, List.setIfInBounds_toArray, List.set_cons_zero, List.set_cons_succ] at hK ⊢
        have rE := HR2.out.below hI.bel z2
        have x0 : y.cell? ⟨w.heap.size, 0, none⟩ = some (.slice A f.rides.length c) := rE.cell (j := 0) (by simp)
        have x1 : y.cell? ⟨w.heap.size, 1, none⟩ = some (.int .i64 f.walk) := rE.cell (j := 1) (by simp)
        have lE := rE.lt
        go_wp2_with fail
        exact hK.out _ _ ⟨hI.bel, fun _ => rfl, hI.v1, hI.v2, hI.v3, hI.v4, hI.v5, hI.v6, hI.v7, hI.v8, hI.v9, hI.v10, hI.v11⟩
      case sz1 =>
        intro xs done y hI hd0 hup hdn K hK
        refine wpOp_go (o := ⟨some 31, _, _, _, _, _⟩) rfl rfl ?_
        simp only [putsF, List.foldl_cons, List.foldl_nil, Act.put, List.setIfInBounds_toArray, List.set_cons_zero, List.set_cons_succ] at hK ⊢
        go_wp2_with fail
        exact hK.out _ _ ⟨hI.bel, hI.v0, fun _ => rfl, hI.v2, hI.v3, hI.v4, hI.v5, hI.v6, hI.v7, hI.v8, hI.v9, hI.v10, hI.v11⟩
      case sz2 =>
        intro xs done y hI hd0 hup hdn K hK
        refine wpOp_go (o := ⟨some 32, _, _, _, _, _⟩) rfl rfl ?_
        have e1 := hI.v1 (hdn 1 (by kernel_rfl))
        simp only [putsF, List.foldl_cons, List.foldl_nil, Act.put, List.setIfInBounds_toArray, List.set_cons_zero, List.set_cons_succ] at hK ⊢
        simp only [e1] at hK ⊢
        go_wp2_with (go_at_call 19; refine (HCC.out y hI.bel).mono ?_; rintro e w4 ⟨A4, c4, rs4, rfl, hb4, ho4, hi4⟩)
        exact hK.out _ _ ⟨hI.bel.trans (hb4.mono hI.bel.size), hI.v0, hI.v1, fun _ _ => ⟨A4, c4, rs4, rfl, own_low ho4 hI.bel.size, fun i hi => own_low (hi4 i hi) hI.bel.size⟩, hI.v3, (fun h h5 => by obtain ⟨g, h1, h2, _⟩ := hI.v4 h h5; exact ⟨g, h1, h2.below hb4 h2.lt, fun _ e => by have := (ho4.lt g e).1; have := h2.lt; omega⟩), (fun h => Bool.noConfusion ((hup 5 (by kernel_rfl)).symm.trans h)), (fun h => Bool.noConfusion ((hup 6 (by kernel_rfl)).symm.trans h)), hI.v7, hI.v8, hI.v9, hI.v10, hI.v11⟩
      case sz3 =>
        intro xs done y hI hd0 hup hdn K hK
        refine wpOp_go (o := ⟨some 33, _, _, _, _, _⟩) rfl rfl ?_
        simp only [putsF, List.foldl_cons, List.foldl_nil, Act.put, List.setIfInBounds_toArray, List.set_cons_zero, List.set_cons_succ] at hK ⊢
        have rG := HRG.out.below hI.bel zg2
        have y0 : y.cell? ⟨w.heap.size + 1, 0, none⟩ = some (.int .i64 m.at_) := rG.cell (j := 0) (by simp)
        have y1 : y.cell? ⟨w.heap.size + 1, 1, none⟩ = some (.int .i64 m.size) := rG.cell (j := 1) (by simp)
        have y2 : y.cell? ⟨w.heap.size + 1, 2, none⟩ = some (.int .i64 m.tokens) := rG.cell (j := 2) (by simp)
        have y3 : y.cell? ⟨w.heap.size + 1, 3, none⟩ = some (.slice A9 m.wants.length c9) := rG.cell (j := 3) (by simp)
        have y4 : y.cell? ⟨w.heap.size + 1, 4, none⟩ = some (.int .i64 m.patience) := rG.cell (j := 4) (by simp)
        have lG := rG.lt
        go_wp2_with fail
        exact hK.out _ _ ⟨hI.bel, hI.v0, hI.v1, hI.v2, fun _ => rfl, hI.v4, hI.v5, hI.v6, hI.v7, hI.v8, hI.v9, hI.v10, hI.v11⟩
      case sz4 =>
        intro xs done y hI hd0 hup hdn K hK
        refine wpOp_go (o := ⟨some 34, _, _, _, _, _⟩) rfl rfl ?_
        have e3 := hI.v3 (hdn 3 (by kernel_rfl))
        simp only [putsF, List.foldl_cons, List.foldl_nil, Act.put, List.setIfInBounds_toArray, List.set_cons_zero, List.set_cons_succ] at hK ⊢
        simp only [e3] at hK ⊢
        unfold grpV
        go_wp2_with fail
        have hg := Row.new y 55 #[.int .i64 m.at_, .int .i64 m.size, .int .i64 m.tokens, .slice A9 m.wants.length c9, .int .i64 m.patience]
        have hb4 := (Below.refl y.heap.size y).alloc (Nat.le_refl _) (.cells #[.int .i64 m.at_, .int .i64 m.size, .int .i64 m.tokens, .slice A9 m.wants.length c9, .int .i64 m.patience] 55)
        exact hK.out _ _ ⟨hI.bel.trans (hb4.mono hI.bel.size), hI.v0, hI.v1, (fun h h5 => by obtain ⟨A4, c4, rs4, e4, ho, hi⟩ := hI.v2 h h5; exact ⟨A4, c4, rs4, e4, own_below ho hb4, fun i h => own_below (hi i h) hb4⟩), hI.v3, fun _ h5 => ⟨_, rfl, hg, fun h2 e => by obtain ⟨A4, c4, rs4, e4, ho, _⟩ := hI.v2 h2 h5; have e' : (xs 2).ownBlock = some y.heap.size := e; rw [e4] at e'; have := (ho.lt _ e').2; omega⟩, (fun h => Bool.noConfusion ((hup 5 (by kernel_rfl)).symm.trans h)), (fun h => Bool.noConfusion ((hup 6 (by kernel_rfl)).symm.trans h)), hI.v7, hI.v8, hI.v9, hI.v10, hI.v11⟩
      case sz5 =>
        intro xs done y hI hd0 hup hdn K hK
        refine wpOp_go (o := ⟨some 35, _, _, _, _, _⟩) rfl rfl ?_
        have hv2 := hI.v2 (hdn 2 (by kernel_rfl)) hd0
        have hv4 := hI.v4 (hdn 4 (by kernel_rfl)) hd0
        simp only [putsF, List.foldl_cons, List.foldl_nil, Act.put, List.setIfInBounds_toArray, List.set_cons_zero, List.set_cons_succ] at hK ⊢
        obtain ⟨A4, c4, rs4, e2, ho2, hi2⟩ := hv2
        obtain ⟨g4, e4, hr4, hne⟩ := hv4
        simp only [e2, e4] at hK ⊢
        have hne2 := hne (hdn 2 (by kernel_rfl))
        rw [e2] at hne2
        have hrd := hr4.reads (n := 1) (size := 5) rfl hr4.lt
        refine wp_appG y (.tmp 32) (.tmp 34) 25 (by rfl) w2.heap.size 55 j0 _ 5 56 Try.underlying25 hj hy0 hy1 hy2 rfl (by decide) (.slice A4 l.length c4) l.length (agsL rs4 l) (by rfl) ho2 y.heap.size (some ⟨g4, 0, none⟩) 1 1 (agL (A9, c9) m) (by rfl) hrd (pg rs4) (by unfold maxLen; omega) (by omega) hI.bel.size ?_
        intro v5 z ho5 hg5
        have hbz := hI.bel.grown hg5 hI.bel.size fun k e => (ho2.lt k e).1
        obtain ⟨A5, c5, rfl⟩ := own_slice ho5
        have hin : ∀ i, i < l.length → Reads z z.heap.size 1 (rs4.getD i default).1 (l.getD i default).wants.length ((l.getD i default).wants.map (Value.int .i64)) := fun i hi => own_rds (own_grown (hi2 i hi) hg5 fun g e hty => own_off (hi2 i hi) (own_ty ho2 e) (by decide))
        obtain ⟨rs5, hg⟩ := grps_snoc ho5 (by unfold maxLen; omega) hin hw1 (HW9.out z hbz) (by unfold maxLen; omega)
        exact hK.out _ _ ⟨hbz, hI.v0, hI.v1, (fun _ h => Bool.noConfusion h), hI.v3, (fun _ h => Bool.noConfusion h), fun _ _ => ⟨A5, c5, rs5, rfl, hg⟩, (fun h => Bool.noConfusion ((hup 6 (by kernel_rfl)).symm.trans h)), hI.v7, hI.v8, hI.v9, hI.v10, hI.v11⟩
      case sz6 =>
        intro xs done y hI hd0 hup hdn K hK
        refine wpOp_go (o := ⟨some 36, _, _, _, _, _⟩) rfl rfl ?_
        have e0 := hI.v0 (hdn 0 (by kernel_rfl))
        have hv5 := hI.v5 (hdn 5 (by kernel_rfl)) hd0
        simp only [putsF, List.foldl_cons, List.foldl_nil, Act.put, List.setIfInBounds_toArray, List.set_cons_zero, List.set_cons_succ] at hK ⊢
        obtain ⟨A5, c5, rs5, e5, hg5⟩ := hv5
        simp only [e0, e5] at hK ⊢
        go_wp2_with (go_at_call 40; refine (HPP.out y A5 c5 rs5 hI.bel hg5).mono ?_; rintro e w6 ⟨hb6, u, rfl, hu⟩)
        exact hK.out _ _ ⟨hI.bel.trans (hb6.mono hI.bel.size), hI.v0, hI.v1, (fun _ h => Bool.noConfusion ((hdn 5 (by kernel_rfl)).symm.trans h)), hI.v3, (fun _ h => Bool.noConfusion ((hdn 5 (by kernel_rfl)).symm.trans h)), (fun _ h => Bool.noConfusion h), fun _ => hu, (fun h => Bool.noConfusion ((hup 7 (by kernel_rfl)).symm.trans h)), hI.v8, hI.v9, hI.v10, hI.v11⟩
      case sz7 =>
        intro xs done y hI hd0 hup hdn K hK
        refine wpOp_go (o := ⟨some 29, _, _, _, _, _⟩) rfl rfl ?_
        simp only [putsF, List.foldl_cons, List.foldl_nil, Act.put, List.setIfInBounds_toArray, List.set_cons_zero, List.set_cons_succ] at hK ⊢
        go_wp2_with fail
        exact hK.out _ _ ⟨hI.bel, hI.v0, hI.v1, hI.v2, hI.v3, hI.v4, hI.v5, hI.v6, fun _ => rfl, (fun h => Bool.noConfusion ((hup 8 (by kernel_rfl)).symm.trans h)), hI.v9, hI.v10, hI.v11⟩
      case sz8 =>
        intro xs done y hI hd0 hup hdn K hK
        refine wpOp_go (o := ⟨some 37, _, _, _, _, _⟩) rfl rfl ?_
        have e7 := hI.v7 (hdn 7 (by kernel_rfl))
        have hv6 := hI.v6 (hdn 6 (by kernel_rfl))
        simp only [putsF, List.foldl_cons, List.foldl_nil, Act.put, List.setIfInBounds_toArray, List.set_cons_zero, List.set_cons_succ] at hK ⊢
        obtain ⟨L6, A6, c6, e6, h6, hr6⟩ := hv6
        rw [e6] at e7
        simp only [e7] at hK ⊢
        go_wp2_with fail
        exact hK.out _ _ ⟨hI.bel, hI.v0, hI.v1, hI.v2, hI.v3, hI.v4, hI.v5, hI.v6, hI.v7, fun _ => ⟨_, e7⟩, hI.v9, (fun h => Bool.noConfusion ((hup 10 (by kernel_rfl)).symm.trans h)), hI.v11⟩
      case sz9 =>
        intro xs done y hI hd0 hup hdn K hK
        refine wpOp_go (o := ⟨some 38, _, _, _, _, _⟩) rfl rfl ?_
        have e7 := hI.v7 (hdn 7 (by kernel_rfl))
        have hv6 := hI.v6 (hdn 6 (by kernel_rfl))
        simp only [putsF, List.foldl_cons, List.foldl_nil, Act.put, List.setIfInBounds_toArray, List.set_cons_zero, List.set_cons_succ] at hK ⊢
        obtain ⟨L6, A6, c6, e6, h6, hr6⟩ := hv6
        rw [e6] at e7
        simp only [e7] at hK ⊢
        go_wp2_with fail
        exact hK.out _ _ ⟨hI.bel, hI.v0, hI.v1, hI.v2, hI.v3, hI.v4, hI.v5, hI.v6, hI.v7, hI.v8, fun _ => rfl, hI.v10, (fun h => Bool.noConfusion ((hup 11 (by kernel_rfl)).symm.trans h))⟩
      case sz10 =>
        intro xs done y hI hd0 hup hdn K hK
        refine wpOp_go (o := ⟨some 9, _, _, _, _, _⟩) rfl rfl ?_
        simp only [putsF, List.foldl_cons, List.foldl_nil, Act.put, List.setIfInBounds_toArray, List.set_cons_zero, List.set_cons_succ] at hK ⊢
        go_wp2_with fail
        exact hK.out _ _ ⟨hI.bel, hI.v0, hI.v1, hI.v2, hI.v3, hI.v4, hI.v5, hI.v6, hI.v7, hI.v8, hI.v9, fun _ => rfl, hI.v11⟩
      case sz11 =>
        intro xs done y hI hd0 hup hdn K hK
        refine wpOp_go (o := ⟨some 10, _, _, _, _, _⟩) rfl rfl ?_
        simp only [putsF, List.foldl_cons, List.foldl_nil, Act.put, List.setIfInBounds_toArray, List.set_cons_zero, List.set_cons_succ] at hK ⊢
        go_wp2_with fail
        exact hK.out _ _ ⟨hI.bel, hI.v0, hI.v1, hI.v2, hI.v3, hI.v4, hI.v5, hI.v6, hI.v7, hI.v8, hI.v9, hI.v10, fun _ => rfl⟩
      case finz =>
        intro xs done y hI hd
        have hv6 := hI.v6 (hd 6 (by decide))
        have e7 := hI.v7 (hd 7 (by decide))
        have hv8 := hI.v8 (hd 8 (by decide))
        have e9 := hI.v9 (hd 9 (by decide))
        have e10 := hI.v10 (hd 10 (by decide))
        have e11 := hI.v11 (hd 11 (by decide))
        simp only [putsF, List.foldl_cons, List.foldl_nil, Act.put, List.setIfInBounds_toArray, List.set_cons_zero, List.set_cons_succ]
        obtain ⟨L6, A6, c6, e6, h6, hr6⟩ := hv6
        obtain ⟨p8, e8⟩ := hv8
        rw [e7, e6] at e8
        injection e8 with e8
        simp only [List.cons.injEq, Array.mk.injEq, and_true] at e8
        rw [e9] at e11
        rw [← e8.1] at e10
        simp only [e10, e11]
        have hb6 := hI.bel
        clear hI hd
        go_wp2_with fail
        go_meet
        exact ⟨L6, A6, c6, rfl, rfl, h6, hb6, hr6⟩
    case rest =>
      obtain ⟨L', A', c', rfl, rfl, hL', hb3, hr3⟩ := hcut
      obtain ⟨wx, rfl⟩ : ∃ x : World, x = wc := ⟨_, rfl⟩
      have hbw := B2.out.trans (hb3.mono B2.out.size)
      have BW := Lib.hid hbw
      have B3 := Lib.hid hb3
      have V3 := Lib.hid hr3
      have V1 := Lib.hid ((V2.out.below hb3).more hb3.size)
      have RG := Lib.hid (HRG.out.below hb3 zg2)
      clear hbw hb3 hr3 HW9 HPP HCC pg hj hy0 hy1 hy2 hw1 HR2 z2
      by_cases hk0 : k = 0
      · by_cases hk2 : k2 = 0
        · subst hk0
          subst hk2
          have hB := HL.out L L' rfl rfl (HLL.out rfl) (hL' rfl)
          obtain ⟨n, hN⟩ := later_n hB.ok
          have hlen := hB.len
          have HN := Lib.hid hN
          have hn1 := hN.l1
          have hn2 := hN.l2
          clear hL' HLL HL hB hN
          go_upto_region 8 with fail
          go_loopw [11] (fun iv wr => ∃ i : Nat, i ≤ n ∧ iv = .int .i64 i ∧ Below wx.heap.size wx wr) (fun iv _ => n - (intOf iv).toNat)
          case atStart => exact ⟨0, Nat.zero_le _, rfl, Below.refl _ _⟩
          case round =>
            obtain ⟨i, hi, rfl, hbel⟩ := hrel
            have HBr := Lib.hid hbel
            have rg3 := RG.out.below hbel RG.out.lt
            have y0 : wr.cell? ⟨w.heap.size + 1, 0, none⟩ = some (.int .i64 m.at_) := rg3.cell (j := 0) (by simp)
            have lg := rg3.lt
            have V1r := Lib.hid ((V1.out.below hbel).more hbel.size)
            have e1 : IntKind.i64.wrap ((i : Int) + 1) = (i : Int) + 1 := IntWalk.i64_in _ (by omega)
            clear rg3 hbel
            go_upto_region 8 with fail
            go_cut [59] (fun s59 wy => s59 = .bool (decide (i < n)) ∧ Below wx.heap.size wx wy)
            case first =>
              by_cases hiL : i < L.length
              · have hiL' : (i : Int) < (L.length : Int) := by omega
                obtain ⟨b3, o3, rfl, hb3, -, -, -, -, -, t5⟩ := vis_cells V1r.out hiL
                have hlo := HN.out.low i hiL
                have hhi : i = n → m.at_ ≤ L[i].left := fun h => by subst h; exact HN.out.at1 hiL
                generalize L[i].left = lf at t5 hlo hhi
                by_cases hin : i < n
                · have hlt : lf < m.at_ := hlo hin
                  have hdi : Hid (decide (i < n) = true) := decide_eq_true hin
                  clear hlo hhi V1r
                  go_quiet (fail)
                  go_wp2_with fail
                  go_meet
                  exact ⟨by rw [hdi.out], below_drewN HBr.out _⟩
                · have hlt : decide (lf < m.at_) = false := decide_eq_false (by have := hhi (by omega); omega)
                  have hdi : Hid (decide (i < n) = false) := decide_eq_false hin
                  clear hlo hhi V1r
                  go_quiet (fail)
                  go_wp2_with fail
                  go_meet
                  exact ⟨by rw [hdi.out], below_drewN HBr.out _⟩
              · have hiL' : decide ((i : Int) < (L.length : Int)) = false := decide_eq_false (by omega)
                have hdi : Hid (decide (i < n) = false) := decide_eq_false (by omega)
                clear V1r
                go_quiet (fail)
                go_wp2_with fail
                go_meet
                exact ⟨by rw [hdi.out], below_drewN HBr.out _⟩
            case rest =>
              obtain ⟨rfl, hb4⟩ := hcut
              have HB4 := Lib.hid hb4
              clear hb4 y0 lg V1r HBr
              by_cases hin : i < n
              · rw [decide_eq_true hin]
                go_wp2_with fail
                go_roundw
                case rel => exact ⟨i + 1, by omega, by go_num, HB4.out⟩
                case measure => simp [intOf]; omega
              · rw [decide_eq_false hin]
                obtain rfl : i = n := by omega
                have h10 : ¬ (L'.length : Int) < (i : Int) := by omega
                go_upto_region 13 with fail
                go_loopw [12] (fun jv wr => ∃ j : Nat, j ≤ i ∧ jv = .int .i64 j ∧ Below wx.heap.size wx wr) (fun jv _ => i - (intOf jv).toNat)
                case atStart => exact ⟨0, Nat.zero_le _, rfl, HB4.out⟩
                case round =>
                  obtain ⟨j, hj, rfl, hbel⟩ := hrel
                  have HBj := Lib.hid hbel
                  by_cases hji : j < i
                  · have hji' : (j : Int) < (i : Int) := by omega
                    have hjL' : (j : Int) < (L.length : Int) := by omega
                    have hjM' : (j : Int) < (L'.length : Int) := by omega
                    have e3 : IntKind.i64.wrap ((j : Int) + 1) = (j : Int) + 1 := IntWalk.i64_in _ (by omega)
                    have hjL : j < L.length := by omega
                    have hjM : j < L'.length := by omega
                    obtain ⟨b3, o3, rfl, hb3, t0, t1, t2, t3, t4, t5⟩ := vis_cells (V1.out.below hbel) hjL
                    obtain ⟨b5, o5, rfl, hb5, u0, u1, u2, u3, u4, u5⟩ := vis_cells (V3.out.below hbel) hjM
                    have hs := HN.out.same j hjL hjM hji
                    rw [hs] at u0 u1 u2 u3 u4 u5
                    clear hs
                    generalize L[j] = v at t0 t1 t2 t3 t4 t5 u0 u1 u2 u3 u4 u5
                    have lb3 : b3 < wr.heap.size := Nat.lt_of_lt_of_le hb3 hbel.size
                    have lb5 : b5 < wr.heap.size := Nat.lt_of_lt_of_le hb5 hbel.size
                    clear hbel
                    go_upto_region 15 with fail
                    go_quiet (fail)
                    have bX := below_drewN HBj.out nq
                    obtain ⟨X, hX⟩ : ∃ X, X = wr.drewN nq := ⟨_, rfl⟩
                    rw [← hX] at bX ⊢
                    have HBX := Lib.hid bX
                    clear hX bX t0 t1 t2 t3 t4 t5 u0 u1 u2 u3 u4 u5 lb3 lb5
                    go_wp2_with fail
                    go_roundw
                    case rel => exact ⟨j + 1, by omega, by go_num, HBX.out⟩
                    case measure => simp [intOf]; omega
                  · have hji' : ¬ (j : Int) < (i : Int) := by omega
                    have rg3 := RG.out.below hbel RG.out.lt
                    have y0 : wr.cell? ⟨w.heap.size + 1, 0, none⟩ = some (.int .i64 m.at_) := rg3.cell (j := 0) (by simp)
                    have lg := rg3.lt
                    have V3r := Lib.hid ((V3.out.below hbel).more hbel.size)
                    clear rg3 hbel
                    go_upto_region 17 with fail
                    by_cases hiM : i < L'.length
                    · have hiM' : (i : Int) < (L'.length : Int) := by omega
                      have hne : ((i : Int) == (L'.length : Int)) = false := by simp; omega
                      obtain ⟨b5, o5, rfl, hb5, -, -, -, -, -, u5⟩ := vis_cells V3r.out hiM
                      have hge : ¬ L'[i].left < m.at_ := by have := HN.out.at2 hiM; omega
                      generalize L'[i].left = lf at u5 hge
                      clear V3r
                      refine wp_tail 15 (by kernel_rfl) (by kernel_rfl) ?_
                      simp only [List.take_succ_cons, List.take_zero, List.drop_succ_cons, List.drop_zero]
                      refine BoxP.out ?_
                      refine box_step (fun K hK => ?_)
                      go_simp
                      refine hK _ ?_
                      clear hK K
                      refine box_step (fun K hK => ?_)
                      go_simp
                      refine hK _ ?_
                      clear hK K
                      refine box_step (fun K hK => ?_)
                      go_simp
                      refine hK _ ?_
                      clear hK K
                      refine box_step (fun K hK => ?_)
                      go_simp
                      refine hK _ ?_
                      clear hK K
                      refine box_step (fun K hK => ?_)
                      go_simp
                      refine hK _ ?_
                      clear hK K
                      refine box_step (fun K hK => ?_)
                      rw [if_pos (show Region.wanted _ _ = true from by kernel_rfl)]
                      go_simp
                      refine hK _ ?_
                      clear hK K
                      refine box_step (fun K hK => ?_)
                      rw [if_pos (show Region.wanted _ _ = true from by kernel_rfl)]
                      go_simp
                      refine hK _ ?_
                      clear hK K
                      refine box_step (fun K hK => ?_)
                      rw [if_pos (show Region.wanted _ _ = true from by kernel_rfl)]
                      go_simp
                      refine hK _ ?_
                      clear hK K
                      refine box_step (fun K hK => ?_)
                      rw [if_pos (show Region.wanted _ _ = true from by kernel_rfl)]
                      go_simp
                      refine hK _ ?_
                      clear hK K
                      refine box_step (fun K hK => ?_)
                      rw [if_pos (show Region.wanted _ _ = true from by kernel_rfl)]
                      go_simp
                      refine hK _ ?_
                      clear hK K
                      refine box_step (fun K hK => ?_)
                      rw [if_pos (show Region.wanted _ _ = true from by kernel_rfl)]
                      go_simp
                      refine hK _ ?_
                      clear hK K
                      refine box_step (fun K hK => ?_)
                      rw [if_pos (show Region.wanted _ _ = true from by kernel_rfl)]
                      go_simp
                      refine hK _ ?_
                      clear hK K
                      refine box_step (fun K hK => ?_)
                      rw [if_pos (show Region.wanted _ _ = true from by kernel_rfl)]
                      go_simp
                      refine hK _ ?_
                      clear hK K
                      refine box_step (fun K hK => ?_)
                      go_simp
                      refine hK _ ?_
                      clear hK K
                      refine box_step (fun K hK => ?_)
                      go_simp
                      refine hK _ ?_
                      clear hK K
                      refine box_nil ?_
                      have bX := below_drewN HBj.out 1
                      obtain ⟨X, hX⟩ : ∃ X, X = wr.drewN 1 := ⟨_, rfl⟩
                      rw [← hX] at bX ⊢
                      have HBX := Lib.hid (BW.out.trans (bX.mono BW.out.size))
                      clear hX bX
                      go_wp2_with (go_at_call 16; refine (Hfin.out _ HBX.out).mono ?_; rintro e w6 ⟨rfl, hb6⟩; have HB6 := Lib.hid hb6; clear hb6)
                      go_ret
                      exact ⟨rfl, HB6.out⟩
                    · obtain rfl : i = L'.length := by omega
                      clear V3r hiM hin h10 hn2 hi
                      refine wp_tail 15 (by kernel_rfl) (by kernel_rfl) ?_
                      simp only [List.take_succ_cons, List.take_zero, List.drop_succ_cons, List.drop_zero]
                      refine BoxP.out ?_
                      refine box_step (fun K hK => ?_)
                      go_simp
                      refine hK _ ?_
                      clear hK K
                      refine box_step (fun K hK => ?_)
                      go_simp
                      refine hK _ ?_
                      clear hK K
                      refine box_step (fun K hK => ?_)
                      go_simp
                      refine hK _ ?_
                      clear hK K
                      refine box_step (fun K hK => ?_)
                      go_simp
                      refine hK _ ?_
                      clear hK K
                      refine box_step (fun K hK => ?_)
                      go_simp
                      refine hK _ ?_
                      clear hK K
                      refine box_step (fun K hK => ?_)
                      rw [show Region.wanted _ _ = false from by kernel_rfl, if_neg (by decide)]
                      refine hK _ ?_
                      clear hK K
                      refine box_step (fun K hK => ?_)
                      rw [show Region.wanted _ _ = false from by kernel_rfl, if_neg (by decide)]
                      refine hK _ ?_
                      clear hK K
                      refine box_step (fun K hK => ?_)
                      rw [show Region.wanted _ _ = false from by kernel_rfl, if_neg (by decide)]
                      refine hK _ ?_
                      clear hK K
                      refine box_step (fun K hK => ?_)
                      rw [show Region.wanted _ _ = false from by kernel_rfl, if_neg (by decide)]
                      refine hK _ ?_
                      clear hK K
                      refine box_step (fun K hK => ?_)
                      rw [show Region.wanted _ _ = false from by kernel_rfl, if_neg (by decide)]
                      refine hK _ ?_
                      clear hK K
                      refine box_step (fun K hK => ?_)
                      rw [show Region.wanted _ _ = false from by kernel_rfl, if_neg (by decide)]
                      refine hK _ ?_
                      clear hK K
                      refine box_step (fun K hK => ?_)
                      rw [show Region.wanted _ _ = false from by kernel_rfl, if_neg (by decide)]
                      refine hK _ ?_
                      clear hK K
                      refine box_step (fun K hK => ?_)
                      rw [show Region.wanted _ _ = false from by kernel_rfl, if_neg (by decide)]
                      refine hK _ ?_
                      clear hK K
                      refine box_step (fun K hK => ?_)
                      go_simp
                      refine hK _ ?_
                      clear hK K
                      refine box_step (fun K hK => ?_)
                      go_simp
                      refine hK _ ?_
                      clear hK K
                      refine box_nil ?_
                      have bX := below_drewN HBj.out 1
                      obtain ⟨X, hX⟩ : ∃ X, X = wr.drewN 1 := ⟨_, rfl⟩
                      rw [← hX] at bX ⊢
                      have HBX := Lib.hid (BW.out.trans (bX.mono BW.out.size))
                      clear hX bX
                      go_wp2_with (go_at_call 16; refine (Hfin.out _ HBX.out).mono ?_; rintro e w6 ⟨rfl, hb6⟩; have HB6 := Lib.hid hb6; clear hb6)
                      go_ret
                      exact ⟨rfl, HB6.out⟩
        · have dk2 : (k2 != 0) = true := by simpa using hk2
          subst hk0
          clear hL'
          go_wp2_with (go_at_call 16; refine (Hfin.out _ BW.out).mono ?_; rintro e w6 ⟨rfl, hb6⟩; have HB6 := Lib.hid hb6; clear hb6)
          go_ret
          exact ⟨rfl, HB6.out⟩
      · have dk : (k != 0) = true := by simpa using hk0
        clear hL' HLL HL
        go_wp2_with (go_at_call 16; refine (Hfin.out _ BW.out).mono ?_; rintro e w6 ⟨rfl, hb6⟩; have HB6 := Lib.hid hb6; clear hb6)
        go_ret
        exact ⟨rfl, HB6.out⟩

end Go.Proofs.Ytphhabknlcfelaa
