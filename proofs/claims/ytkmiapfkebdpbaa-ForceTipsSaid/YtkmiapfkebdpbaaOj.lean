/- Contract of the specification's fewest. Conditions: a valid rig that reads as data, a loading that has been begun. -/
import Derived.Test.YtkmiapfkebdpbaaOc
import Derived.Test.YtkmiapfkebdpbaaMd
import Derived.Test.YtkmiapfkebdpbaaRh
import Derived.Test.YtkmiapfkebdpbaaRi
import Derived.Test.YtkmiapfkebdpbaaOq
/- The specification's fewest, plainly: as refSel looks for it; and what an append of one value leaves. No program beyond the names. -/
namespace Go.Proofs.Ytkmiapfkebdpbaa
open Go.RowKit

theorem selS_more (b : Bool) : ∀ (l : List Int) (bs : List Bool) (h : bs.length < l.length), selS l (bs ++ [b]) = selS l bs + (if b then l[bs.length] else 0) := by
  intro l
  induction l with
  | nil => intro bs h; simp at h
  | cons x l ih =>
    intro bs h
    cases bs with
    | nil => simp [selS]
    | cons c bs =>
      have h' : bs.length < l.length := by simpa using h
      have := ih bs h'
      simp only [List.cons_append, selS, this, List.length_cons, List.getElem_cons_succ]
      omega
/-- So the specification looks on, when some seats are settled. -/
def fewR (rd : List Int) (s : Int) (begun : List Bool) (many : Int) : Option (List Bool) :=
  if many < 0 then none else (refSel (rd.drop begun.length) (s + selS rd begun) many.toNat).map (begun ++ ·)
theorem fewR_neg {rd : List Int} {s : Int} {begun : List Bool} {many : Int} (h : many < 0) : fewR rd s begun many = none := by unfold fewR; rw [if_pos h]
theorem fewR_many {rd : List Int} {s : Int} {begun : List Bool} {many : Int} (h : ((rd.length - begun.length : Nat) : Int) < many) : fewR rd s begun many = none := by
  unfold fewR
  rw [if_neg (by omega)]
  have h1 := refSel_some (rd.drop begun.length) (s + selS rd begun) many.toNat
  rw [minSel_many _ _ (by simp; omega)] at h1
  cases h2 : refSel (rd.drop begun.length) (s + selS rd begun) many.toNat with
  | none => rfl
  | some t => rw [h2] at h1; cases h1
theorem fewR_end {rd : List Int} {s : Int} {begun : List Bool} (h : begun.length = rd.length) : fewR rd s begun 0 = if s + selS rd begun < 0 then some begun else none := by
  unfold fewR
  rw [if_neg (by omega), h]
  simp only [List.drop_length, refSel, Int.toNat_zero, true_and]
  split <;> simp
theorem fewR_next {rd : List Int} {s : Int} {begun : List Bool} {many : Int} (h : begun.length < rd.length) (h0 : 0 ≤ many) (h1 : many ≤ ((rd.length - begun.length : Nat) : Int)) :
    fewR rd s begun many = match fewR rd s (begun ++ [true]) (many - 1) with | some t => some t | none => fewR rd s (begun ++ [false]) many := by
  have hd : rd.drop begun.length = rd[begun.length] :: rd.drop (begun.length + 1) := List.drop_eq_getElem_cons h
  have e1 : s + selS rd (begun ++ [true]) = s + selS rd begun + rd[begun.length] := by rw [selS_more true rd begun h]; simp; omega
  have e2 : s + selS rd (begun ++ [false]) = s + selS rd begun := by rw [selS_more false rd begun h]; simp
  unfold fewR
  rw [if_neg (show ¬ many < 0 by omega), hd, e1, e2, List.length_append, List.length_append, List.length_singleton, List.length_singleton]
  simp only [refSel]
  rw [if_neg (show ¬ (rd.drop (begun.length + 1)).length + 1 < many.toNat by simp; omega)]
  rcases Int.lt_or_le 0 many with hm | hm
  · rw [if_neg (show ¬ many.toNat = 0 by omega), if_neg (show ¬ many - 1 < 0 by omega), show (many - 1).toNat = many.toNat - 1 by omega]
    cases refSel (rd.drop (begun.length + 1)) (s + selS rd begun + rd[begun.length]) (many.toNat - 1) with
    | some t => simp
    | none =>
      simp only [Option.map_none]
      rw [if_neg (show ¬ many < 0 by omega)]
      cases refSel (rd.drop (begun.length + 1)) (s + selS rd begun) many.toNat with
      | some t => simp
      | none => rfl
  · obtain rfl : many = 0 := by omega
    rw [if_pos (show (0 : Int).toNat = 0 from rfl), if_pos (show (0 : Int) - 1 < 0 by omega), if_neg (show ¬ (0 : Int) < 0 by omega)]
    simp only
    cases refSel (rd.drop (begun.length + 1)) (s + selS rd begun) (Int.toNat 0) with
    | some t => simp
    | none => rfl
theorem fewR_len {rd : List Int} : ∀ {s : Int} {n : Nat} {t : List Bool}, refSel rd s n = some t → t.length = rd.length := by
  induction rd with
  | nil =>
    intro s n t h
    simp only [refSel] at h
    split at h
    · injection h with h; subst h; rfl
    · cases h
  | cons x l ih =>
    intro s n t h
    simp only [refSel] at h
    split at h
    · cases h
    · split at h
      · rename_i r hr
        injection h with h
        subst h
        split at hr
        · cases hr
        · simp [ih hr]
      · rename_i hr
        cases h2 : refSel l s n with
        | none => rw [h2] at h; cases h
        | some q =>
          rw [h2] at h
          simp only [Option.map_some, Option.some.injEq] at h
          subst h
          simp [ih h2]
theorem fewR_full {rd : List Int} {s : Int} {begun t : List Bool} {many : Int} (h : fewR rd s begun many = some t) (hb : begun.length ≤ rd.length) : t.length = rd.length := by
  unfold fewR at h
  split at h
  · cases h
  · cases h2 : refSel (rd.drop begun.length) (s + selS rd begun) many.toNat with
    | none => rw [h2] at h; cases h
    | some q =>
      rw [h2] at h
      simp only [Option.map_some, Option.some.injEq] at h
      subst h
      have := fewR_len h2
      simp at this ⊢
      omega
/-- A world with one value more in one block's place n: all else is as it was. -/
def OneMore (w w' : World) (u : Value) (n : Nat) : Prop := ∀ (k : Nat) (cs : Array Value) (t : TypeId) (fr : Nat × Nat), w.heap[k]? = some (Obj.cells cs t fr) → ∃ cs' : Array Value, w'.heap[k]? = some (Obj.cells cs' t fr) ∧ cs'.size = cs.size ∧ ∀ j, cs'[j]? = cs[j]? ∨ (j = n ∧ cs'[j]? = some u)
theorem OneMore.own {w w' : World} {u v : Value} {n m base : Nat} {e : TypeId} {xs : List Value} (h : OneMore w w' u n) (ho : w.ownsRow base e 1 v m xs) (hm : m ≤ n) : w'.ownsRow base e 1 v m xs := by
  refine ⟨ho.1, ?_⟩
  rcases ho.2 with ⟨h1, h2⟩ | ⟨g, cap, cur, h1, h2, h3, h4, h5, h6, h7⟩
  · exact .inl ⟨h1, h2⟩
  · obtain ⟨cs', k1, k2, k3⟩ := h g cur e (0, 0) h3
    refine .inr ⟨g, cap, cs', h1, h2, k1, h4, h5, by rw [k2]; exact h6, ?_⟩
    rw [← h7]
    refine List.ext_getElem? fun j => ?_
    rw [List.getElem?_take, List.getElem?_take]
    split
    · rename_i hj
      rcases k3 j with h | ⟨h, _⟩
      · simpa using h
      · omega
    · rfl
theorem OneMore.row1 {w w' : World} {u : Value} {n g : Nat} {t : TypeId} (h : OneMore w w' u n) (hr : Row w g t [u]) : Row w' g t [u] := by
  obtain ⟨cs, h1, h2, h3⟩ := hr
  obtain ⟨cs', k1, k2, k3⟩ := h g cs t (0, 0) h1
  refine ⟨cs', k1, by rw [k2]; exact h2, fun j hj => ?_⟩
  obtain rfl : j = 0 := by simpa using hj
  rcases k3 0 with h | ⟨_, h⟩
  · rw [h]; exact h3 0 hj
  · rw [h]; rfl
theorem OneMore.refl_old {w w' : World} {u : Value} {n : Nat} (h : ∀ k : Nat, k < w.heap.size → w'.heap[k]? = w.heap[k]?) : OneMore w w' u n := fun k cs _ _ hk =>
  ⟨cs, (h k (Array.getElem?_eq_some_iff.1 hk).1).trans hk, rfl, fun _ => .inl rfl⟩
theorem run_app_one {P : Program} (w : World) (base : Nat) (t ty e : TypeId) (i : TypeInfo) (z : Value) (bytes : Nat) (ht : P.underlying t = some (.slice e)) (hi : P.info? e = some i) (hz : i.zero = some z)
    (hsize : i.size = 1) (hby : i.bytes = bytes) (hzs : z.cells.size = 1)
    (v : Value) (n : Nat) (xs : List Value) (hown : w.ownsRow base e 1 v n xs) (g2 c : Nat) (u : Value) (hu : w.cell? ⟨g2, 0, none⟩ = some u) (h1 : u.oneCell' = true)
    (h63 : n + 1 ≤ maxLen) (hbytes : (n + 1) * bytes ≤ 140737488355328) (hbase : base ≤ w.heap.size) :
    ∃ v' w', (Builtin.append_ #[t, t] ty #[v, .slice (some ⟨g2, 0, none⟩) 1 c]).run P w = .ok v' w' ∧ w'.ownsRow base e 1 v' (n + 1) (xs ++ [u]) ∧ w.grownBy w' v.ownBlock ∧ OneMore w w' u n := by
  have hnews : ∀ j x, [u][j]? = some x → w.cell? ((⟨g2, 0, none⟩ : Addr).add j) = some x := by
    intro j x hx
    cases j with
    | zero => simp at hx; subst hx; exact hu
    | succ j => simp at hx
  obtain ⟨v', w', hrun, h2, h3, _, h5⟩ := run_append_own_at (P := P) w base t ty e i z 1 bytes ht hi hz hsize hby hzs (by decide) v n xs hown ⟨g2, 0, none⟩ 1 c [u] rfl hnews (by intro x hx; simp at hx; subst hx; exact h1) h63 hbytes hbase
  refine ⟨v', w', hrun, h2, h3, ?_⟩
  rcases hown.2 with ⟨rfl, _⟩ | ⟨g, cap, cur, rfl, hbg, hg, hnc, hcm, hcs, htake⟩
  · exact OneMore.refl_old fun k hk => h3.block k hk (by simp [Value.ownBlock])
  · by_cases hroom : n + 1 ≤ cap
    · have hfit : n * i.size + [u].length ≤ cur.size := by rw [hsize, hcs]; simpa using hroom
      have hr := run_append_room (P := P) w t ty e i ht hi g n cap cur hg ⟨g2, 0, none⟩ 1 c [u] (by rw [hsize]; rfl) hnews (by intro x hx; simp at hx; subst hx; exact h1) hroom hfit
      rw [hr] at hrun
      injection hrun with _ hrun
      subst hrun
      intro k cs t' fr hk
      by_cases hkg : k = g
      · subst hkg
        rw [hg] at hk
        injection hk with hk
        injection hk with e1 e2 e3
        subst e1 e2 e3
        rw [hsize, Nat.mul_one] at hfit ⊢
        refine ⟨_, setRow_heap w k cur _ _ _ hg, by simp at hfit ⊢; omega, fun j => ?_⟩
        simp only [List.getElem?_toArray]
        simp at hfit
        rcases Nat.lt_trichotomy j n with hj | hj | hj
        · left
          rw [List.append_assoc, List.getElem?_append_left (by simp; omega), List.getElem?_take, if_pos hj]
          simp
        · right
          subst hj
          refine ⟨rfl, ?_⟩
          have hl : (cur.toList.take j).length = j := by simp; omega
          rw [List.append_assoc, List.getElem?_append_right (by rw [hl]; exact Nat.le_refl _), hl, Nat.sub_self]
          rfl
        · left
          rw [List.getElem?_append_right (by simp; omega)]
          simp
          congr 1
          omega
      · exact ⟨cs, (setRow_other w g k _ hkg).trans hk, rfl, fun _ => .inl rfl⟩
    · have holds : ∀ j x, xs[j]? = some x → w.cell? ((⟨g, 0, none⟩ : Addr).add j) = some x := hown.cells (g := g) rfl
      have hr := run_append_grow (P := P) w t ty e i z ht hi hz ⟨g, 0, none⟩ n cap xs (by rw [hsize]; exact hown.1) holds ⟨g2, 0, none⟩ 1 c [u] (by rw [hsize]; rfl) hnews (by omega) (by unfold maxLen at h63; omega) (growslice_fits (by omega) (by rw [hby]; exact hbytes))
      rw [hr] at hrun
      injection hrun with _ hrun
      subst hrun
      exact OneMore.refl_old fun k hk => heap_alloc_old w.drew _ hk
end Go.Proofs.Ytkmiapfkebdpbaa
namespace Go.Proofs.Ytkmiapfkebdpbaa
open Go.RowKit

theorem wp_app1 {P : Program} (w : World) {o : Oper} {a : Act} {K : Act → World → Prop} {Q : Exit → Act → World → Prop} (s x : Operand) (t : TypeId)
    (ho : o.op = .call { callee := .builtin .append, args := #[s, x], argTypes := #[t, t] })
    (base : Nat) (e : TypeId) (i : TypeInfo) (z : Value) (bytes : Nat) (ht : P.underlying t = some (.slice e)) (hi : P.info? e = some i) (hz : i.zero = some z)
    (hsize : i.size = 1) (hby : i.bytes = bytes) (hzs : z.cells.size = 1)
    (v : Value) (n : Nat) (xs : List Value) (hs : a.eval s = v) (hown : w.ownsRow base e 1 v n xs) (g2 c : Nat) (u : Value) (hx : a.eval x = .slice (some ⟨g2, 0, none⟩) 1 c) (hu : w.cell? ⟨g2, 0, none⟩ = some u) (h1 : u.oneCell' = true)
    (h63 : n + 1 ≤ maxLen) (hbytes : (n + 1) * bytes ≤ 140737488355328) (hbase : base ≤ w.heap.size)
    (h : ∀ v' w', w'.ownsRow base e 1 v' (n + 1) (xs ++ [u]) → w.grownBy w' v.ownBlock → OneMore w w' u n → K (a.put o.dst v') w') : Oper.wp P o a w K Q := by
  obtain ⟨v', w', hrun, h2, h3, h4⟩ := run_app_one (P := P) w base t o.type e i z bytes ht hi hz hsize hby hzs v n xs hown g2 c u hu h1 h63 hbytes hbase
  unfold Oper.wp execOp
  simp only [ho, resolve, invoke, builtin, Sem.run_bind, Sem.run_pure, Result.andThen_ok, List.map_toArray, List.map_cons, List.map_nil, hs, hx, hrun]
  exact h v' w' h2 h3 h4
def isLit (v : Value) : Value → World → Prop := fun u y => ∃ g : Nat, u = .slice (some ⟨g, 0, none⟩) 1 1 ∧ Row y g 4 [v]
/-- A loading that was found, if one was. -/
def RO (o : Option (List Bool)) (n : Nat) (u : Value) (y : World) : Prop := ∀ t, o = some t → ∃ (A : Option Addr) (c B : Nat), u = .slice A n c ∧ B ≤ y.heap.size ∧ Reads y B 1 A n (t.map Value.bool)
theorem RO.below {o : Option (List Bool)} {n : Nat} {u : Value} {y z : World} (h : RO o n u y) (hb : Below y.heap.size y z) : RO o n u z := fun t ht => by
  obtain ⟨A, c, B, h1, h2, h3⟩ := h t ht
  exact ⟨A, c, B, h1, Nat.le_trans h2 hb.size, h3.below (hb.mono h2)⟩
def FPc (G n : Nat) (begun : List Bool) (v : Bool) (o : Option (List Bool)) (val : Value) : Nat → Value → World → Prop
  | 0 => isV val
  | 1 => isEmpty G 4 1
  | 2 => isOwn G 4 1 begun.length (begun.map Value.bool)
  | 3 => isLit (.bool v)
  | 4 => isOwn G 4 1 (begun.length + 1) (begun.map Value.bool ++ [.bool v])
  | 5 => fun u y => ∃ u1, u = .tuple #[u1, .bool o.isSome] ∧ RO o n u1 y
  | 6 => RO o n
  | _ => fun _ _ => True
def FP (G n : Nat) (begun : List Bool) (v : Bool) (o : Option (List Bool)) (vals : Nat → Value) (cat : Nat → Nat) (j : Nat) : Value → World → Prop := FPc G n begun v o (vals j) (cat j)
section
variable {G n : Nat} {begun : List Bool} {v : Bool} {o : Option (List Bool)} {vals : Nat → Value} {cat : Nat → Nat} {j c : Nat} {u val : Value} {y : World}
theorem FP.get (h : FP G n begun v o vals cat j u y) (hc : cat j = c + 1) : FPc G n begun v o undef (c + 1) u y := by
  unfold FP at h
  rw [hc] at h
  match c, h with
  | 0, h | 1, h | 2, h | 3, h | 4, h | 5, h => exact h
  | _ + 6, _ => exact trivial
theorem FP.isv (h : FP G n begun v o vals cat j u y) (hc : cat j = 0) (hv : vals j = val) : u = val := by
  unfold FP at h
  rw [hc, hv] at h
  exact h
theorem FP.mk (hc : cat j = c) (hv : vals j = val) (h : FPc G n begun v o val c u y) : FP G n begun v o vals cat j u y := by
  unfold FP
  rw [hc, hv]
  exact h
end
theorem FP.below {G n : Nat} {begun : List Bool} {v : Bool} {o : Option (List Bool)} {vals : Nat → Value} {cat : Nat → Nat} {j : Nat} {u : Value} {y z : World} (h : FP G n begun v o vals cat j u y) (hb : Below y.heap.size y z) : FP G n begun v o vals cat j u z := by
  unfold FP at h ⊢
  generalize cat j = c at h ⊢
  match c, h with
  | 0, h => exact h
  | 1, h => exact stable_isEmpty _ _ _ _ _ _ h hb
  | 2, h => exact stable_isOwn _ _ _ _ _ _ _ _ h hb
  | 3, ⟨g, h1, h2⟩ => exact ⟨g, h1, h2.below hb h2.lt⟩
  | 4, h => exact stable_isOwn _ _ _ _ _ _ _ _ h hb
  | 5, ⟨u1, h1, h2⟩ => exact ⟨u1, h1, h2.below hb⟩
  | 6, h => exact RO.below h hb
  | _ + 7, _ => exact trivial
theorem FP.one {G n : Nat} {begun : List Bool} {v : Bool} {o : Option (List Bool)} {vals : Nat → Value} {cat : Nat → Nat} {j : Nat} {u : Value} {y z : World} (h : FP G n begun v o vals cat j u y) (ho : OneMore y z (.bool v) begun.length) (hs : y.heap.size ≤ z.heap.size) (h4 : cat j < 4) : FP G n begun v o vals cat j u z := by
  unfold FP at h ⊢
  generalize cat j = c at h h4 ⊢
  match c, h, h4 with
  | 0, h, _ => exact h
  | 1, h, _ => exact ⟨h.1, ho.own h.2.1 (Nat.zero_le _), Nat.le_trans h.2.2 hs⟩
  | 2, h, _ => exact ⟨ho.own h.1 (Nat.le_refl _), Nat.le_trans h.2 hs⟩
  | 3, ⟨g, h1, h2⟩, _ => exact ⟨g, h1, ho.row1 h2⟩
  | _ + 4, _, h4 => omega
theorem pres4 {ops : Array Oper} {done : Nat → Bool} {cat : Nat → Nat} {i m : Nat} (hdn : ∀ j, aheadB ops 8 j i = true → done j = false) (hall : (List.range m).all (fun j => decide (j = i) || aheadB ops 8 j i || decide (cat j < 4)) = true) : ∀ j, j < m → j ≠ i → done j = true → cat j < 4 := by
  intro j hj hne hd
  have h := List.all_eq_true.1 hall j (List.mem_range.2 hj)
  simp only [Bool.or_eq_true, decide_eq_true_eq] at h
  rcases h with (h | h) | h
  · exact absurd h hne
  · rw [hdn j h] at hd; cases hd
  · exact h
theorem ldF_all (l : List Bool) : (List.range l.length).map (ldF l) = l := by
  refine List.ext_getElem (by simp) fun i h1 h2 => ?_
  simp [ldF, h2]
def FwPost (w : World) (r : RigZ) (p k : Nat) (begun : List Bool) (many : Int) (e : Ending) (w' : World) : Prop := Below w.heap.size w w' ∧ ∃ u1, e = .returned (.tuple #[u1, .bool (fewR (ridersZ r p k) (momZ r (fun _ => false) p k) begun many).isSome]) ∧ RO (fewR (ridersZ r p k) (momZ r (fun _ => false) p k) begun many) r.seats.length u1 w'
set_option maxRecDepth 100000 in
set_option maxHeartbeats 4000000 in
theorem rfewest_any (r : RigZ) (R : RigR) (B p k : Nat) (hv : rigB r = true) (hk : k < r.feet.length) (hp : p < phZ r) : ∀ (left : Nat) (begun : List Bool) (many : Int) (A5 : Option Addr) (c5 B5 : Nat) (w : World), begun.length + left = r.seats.length → -1 ≤ many → many ≤ 100 → B ≤ w.heap.size → RigIn w B r R → B5 ≤ w.heap.size → Reads w B5 1 A5 begun.length (begun.map Value.bool) →
    Calls Try.prog 78 #[rigV r R, .slice A5 begun.length c5, .int .i64 many, .int .i64 (p : Int), .int .i64 (k : Int)] w (FwPost w r p k begun many) := by
  obtain ⟨i0, hi, hz0, hz1, hz2⟩ := info_parts Try.info_bool
  have hs20 := (rigB_parts hv).1
  have hlen := ridersZ_len r p k
  intro left
  induction left with
  | zero =>
    intro begun many A5 c5 B5 w hbl hm0 hm1 hB hR hB5 hr5
    obtain ⟨W, hW⟩ : ∃ W, W = w.alloc (.cells (rigCells r R).toArray 57) := ⟨_, rfl⟩
    have bW : Below w.heap.size w W := by subst hW; exact (Below.refl _ _).alloc (Nat.le_refl _) _
    have rW : Row W w.heap.size 57 (rigCells r R) := by subst hW; exact Row.new w _ (rigCells r R).toArray
    have hb0 : begun.length = r.seats.length := by omega
    obtain ⟨o, ho⟩ : ∃ o, o = fewR (ridersZ r p k) (momZ r (fun _ => false) p k) begun many := ⟨_, rfl⟩
    have hneg := fun h => ho.trans (fewR_neg h)
    have hmany := fun (h : (0 : Int) < many) => ho.trans (fewR_many (by rw [hlen]; omega))
    have hend : many = 0 → o = if momZ r (ldF begun) p k < 0 then some begun else none := fun h => by
      rw [ho, h, fewR_end (by rw [hlen]; exact hb0), mom_sel r (ldF begun) p k, ← hb0, ldF_all]
    have HMo := Lib.hid (rmoment_any r R W.heap.size p k begun A5 c5 W (Nat.le_refl _) ((hR.below (bW.mono hB)).more (Nat.le_trans hB bW.size)) ((hr5.below (bW.mono hB5)).more (Nat.le_trans hB5 bW.size)) hb0 hv hk hp)
    unfold FwPost
    rw [← ho]
    clear ho
    obtain ⟨S, hS⟩ : ∃ S, S = momZ r (ldF begun) p k := ⟨_, rfl⟩
    rw [← hS] at hend HMo
    have HB0 := Lib.hid (fun (X : World) (hX : Below W.heap.size W X) => (hr5.below (bW.mono hB5)).below (hX.mono (Nat.le_trans hB5 bW.size)))
    have e1 : IntKind.i64.wrap ((r.seats.length : Int) - (begun.length : Int)) = 0 := by rw [IntWalk.i64_in _ (by omega)]; omega
    have Hb0 := Lib.hid hb0
    clear hS hr5 hR hbl hb0
    unfold rigV at HMo ⊢
    unfold rigCells at rW hW
    obtain ⟨_, q0, q1, q2, q3, q4, q5, q6, q7⟩ := Row.at_8 rW
    go_enter Try.func78, Try.ntmps78
    go_upto_region 1 with (fail)
    rw [← hW]
    clear hW
    go_upto_region 2 with (fail)
    by_cases hm : many < 0
    · have ho := hneg hm
      clear hneg hmany hend
      subst ho
      go_wp2_with fail
      refine bodyPost_ret (v := .tuple #[.slice none 0 0, .bool false]) (by simp [results, Try.results78, go_sem]) rfl ?_
      exact ⟨bW, _, rfl, fun t ht => by cases ht⟩
    by_cases hm2 : 0 < many
    · have ho := hmany hm2
      clear hneg hmany hend
      subst ho
      go_wp2_with fail
      refine bodyPost_ret (v := .tuple #[.slice none 0 0, .bool false]) (by simp [results, Try.results78, go_sem]) rfl ?_
      exact ⟨bW, _, rfl, fun t ht => by cases ht⟩
    obtain rfl : many = 0 := by omega
    have Hend := Lib.hid (hend rfl)
    clear hneg hmany hend hm hm2
    go_wp2_with fail
    refine HMo.out.mono ?_
    rintro e w3 ⟨rfl, hb3⟩
    have b3 := bW.trans (hb3.mono bW.size)
    have hr3 := HB0.out w3 hb3
    go_wp2_with fail
    refine bodyPost_ret (v := .tuple #[.slice A5 begun.length c5, .bool (decide (S < 0))]) (by simp [results, Try.results78, go_sem]) rfl ?_
    refine ⟨b3, .slice A5 begun.length c5, ?_, fun t ht => ?_⟩
    · rw [Hend.out]
      by_cases hS : S < 0
      · rw [if_pos hS]; simp [hS]
      · rw [if_neg hS]; simp [hS]
    · rw [Hend.out] at ht
      by_cases hS : S < 0
      · rw [if_pos hS] at ht
        injection ht with ht
        subst ht
        exact ⟨A5, c5, B5, by rw [Hb0.out], Nat.le_trans (Nat.le_trans hB5 bW.size) hb3.size, by rw [← Hb0.out]; exact hr3⟩
      · rw [if_neg hS] at ht
        cases ht
  | succ left ih =>
    intro begun many A5 c5 B5 w hbl hm0 hm1 hB hR hB5 hr5
    obtain ⟨W, hW⟩ : ∃ W, W = w.alloc (.cells (rigCells r R).toArray 57) := ⟨_, rfl⟩
    have bW : Below w.heap.size w W := by subst hW; exact (Below.refl _ _).alloc (Nat.le_refl _) _
    have rW : Row W w.heap.size 57 (rigCells r R) := by subst hW; exact Row.new w _ (rigCells r R).toArray
    obtain ⟨o, ho⟩ : ∃ o, o = fewR (ridersZ r p k) (momZ r (fun _ => false) p k) begun many := ⟨_, rfl⟩
    have hneg := fun h => ho.trans (fewR_neg h)
    have hmany := fun (h : ((left + 1 : Nat) : Int) < many) => ho.trans (fewR_many (by rw [hlen]; omega))
    have hnext := fun h0 (h1 : many ≤ ((left + 1 : Nat) : Int)) => ho.trans (fewR_next (by rw [hlen]; omega) h0 (by rw [hlen]; omega))
    unfold FwPost
    rw [← ho]
    have Ho := Lib.hid ho
    clear ho
    obtain ⟨o1, ho1⟩ : ∃ o1, o1 = fewR (ridersZ r p k) (momZ r (fun _ => false) p k) (begun ++ [true]) (many - 1) := ⟨_, rfl⟩
    obtain ⟨o2, ho2⟩ : ∃ o2, o2 = fewR (ridersZ r p k) (momZ r (fun _ => false) p k) (begun ++ [false]) many := ⟨_, rfl⟩
    have hX : ∀ X, Below w.heap.size w X → B ≤ X.heap.size ∧ RigIn X B r R := fun X hX => ⟨Nat.le_trans hB hX.size, hR.below (hX.mono hB)⟩
    have HI1 : 0 ≤ many → Hid (∀ X A6 c6, Below W.heap.size W X → Reads X X.heap.size 1 A6 (begun.length + 1) (begun.map Value.bool ++ [.bool true]) → Calls Try.prog 78 #[rigV r R, .slice A6 (begun.length + 1) c6, .int .i64 (many - 1), .int .i64 (p : Int), .int .i64 (k : Int)] X fun e w' => Below X.heap.size X w' ∧ ∃ u1, e = .returned (.tuple #[u1, .bool o1.isSome]) ∧ RO o1 r.seats.length u1 w') := fun h0 X A6 c6 hX0 hr6 => by
      have hXX := hX X (bW.trans (hX0.mono bW.size))
      have h := ih (begun ++ [true]) (many - 1) A6 c6 X.heap.size X (by simp; omega) (by omega) (by omega) hXX.1 hXX.2 (Nat.le_refl _) (by simpa using hr6)
      unfold FwPost at h
      rw [← ho1, List.length_append, List.length_singleton] at h
      exact h
    have HI2 : 0 ≤ many → Hid (∀ X A6 c6, Below W.heap.size W X → Reads X X.heap.size 1 A6 (begun.length + 1) (begun.map Value.bool ++ [.bool false]) → Calls Try.prog 78 #[rigV r R, .slice A6 (begun.length + 1) c6, .int .i64 many, .int .i64 (p : Int), .int .i64 (k : Int)] X fun e w' => Below X.heap.size X w' ∧ ∃ u1, e = .returned (.tuple #[u1, .bool o2.isSome]) ∧ RO o2 r.seats.length u1 w') := fun h0 X A6 c6 hX0 hr6 => by
      have hXX := hX X (bW.trans (hX0.mono bW.size))
      have h := ih (begun ++ [false]) many A6 c6 X.heap.size X (by simp; omega) (by omega) (by omega) hXX.1 hXX.2 (Nat.le_refl _) (by simpa using hr6)
      unfold FwPost at h
      rw [← ho2, List.length_append, List.length_singleton] at h
      exact h
    have HB0 : Hid (∀ X, Below W.heap.size W X → Reads X B5 1 A5 begun.length (begun.map Value.bool)) := fun X hX => (hr5.below (bW.mono hB5)).below (hX.mono (Nat.le_trans hB5 bW.size))
    rw [← ho1, ← ho2] at hnext
    clear ih hX hr5 hR ho1 ho2 hlen
    unfold rigV at HI1 HI2 ⊢
    unfold rigCells at rW hW
    obtain ⟨_, q0, q1, q2, q3, q4, q5, q6, q7⟩ := Row.at_8 rW
    obtain ⟨Lf, hLf⟩ : ∃ Lf : Int, Lf = ((left + 1 : Nat) : Int) := ⟨_, rfl⟩
    have e1 : IntKind.i64.wrap ((r.seats.length : Int) - (begun.length : Int)) = Lf := by rw [IntWalk.i64_in _ (by omega)]; omega
    have hl0 : ¬ Lf = 0 := by omega
    rw [← hLf] at hmany hnext
    clear hLf
    go_enter Try.func78, Try.ntmps78
    go_upto_region 1 with (fail)
    rw [← hW]
    clear hW
    go_upto_region 2 with (fail)
    by_cases hm : many < 0
    · have ho := hneg hm
      clear hneg hmany hnext
      subst ho
      go_wp2_with fail
      refine bodyPost_ret (v := .tuple #[.slice none 0 0, .bool false]) (by simp [results, Try.results78, go_sem]) rfl ?_
      exact ⟨bW, _, rfl, fun t ht => by cases ht⟩
    have hm' : 0 ≤ many := by omega
    by_cases hm2 : Lf < many
    · have ho := hmany hm2
      clear hneg hmany hnext
      subst ho
      go_wp2_with fail
      refine bodyPost_ret (v := .tuple #[.slice none 0 0, .bool false]) (by simp [results, Try.results78, go_sem]) rfl ?_
      exact ⟨bW, _, rfl, fun t ht => by cases ht⟩
    have Hnext := Lib.hid (hnext hm' (by omega))
    have HI1 := HI1 hm'
    have HI2 := HI2 hm'
    have HBa := HB0
    have e2 : IntKind.i64.wrap (many - 1) = many - 1 := IntWalk.i64_in _ (by omega)
    clear hneg hmany hnext
    have hbf : (Lf == 0) = false := by simpa using hl0
    go_upto_region 6 with (fail)
    clear hbf hl0 hm hm2 q0 q1 q2 q3 q4 q5 q6 q7
    refine wp_region_steps 16 (ord := [0, 1, 2, 3, 4, 5, 6, 7, 8, 9, 10, 11, 12, 13, 14, 15]) (ds := [(0, 38), (1, 39), (2, 40), (3, 41), (4, 42), (5, 43), (6, 44), (7, 45), (8, 46), (9, 47), (10, 48), (11, 37), (12, 49), (13, 50), (14, 13), (15, 14)]) (I := fun _ y => Below W.heap.size W y) (V := FP W.heap.size r.seats.length begun true o1 (fun j => ([.agg #[.slice R.A1 r.seats.length R.c1, .slice R.A2 r.feet.length R.c2, .int .i64 r.frame, .int .i64 r.center.x, .int .i64 r.center.y, .int .i64 r.center.z, .int .i64 r.empty, .int .i64 r.full], undef, .slice A5 begun.length c5, undef, undef, undef, .int .i64 many, .int .i64 (many - 1), .int .i64 (p : Int), .int .i64 (k : Int), undef, undef, undef, .bool o1.isSome, undef, .bool o1.isSome] : List Value).getD j undef) (fun j => ([0, 1, 0, 2, 3, 4, 0, 0, 0, 0, 5, 5, 6, 0, 6, 0] : List Nat).getD j 7)) (by kernel_rfl) (by kernel_rfl) rfl ((Below.refl _ _).drew) (StepsE.cons (k := 0) (k' := 1) (o := ⟨some 38, _, _, _, _, _⟩) rfl rfl ?sa0 (StepsE.cons (k := 1) (k' := 2) (o := ⟨some 39, _, _, _, _, _⟩) rfl rfl ?sa1 (StepsE.cons (k := 2) (k' := 3) (o := ⟨some 40, _, _, _, _, _⟩) rfl rfl ?sa2 (StepsE.cons (k := 3) (k' := 4) (o := ⟨some 41, _, _, _, _, _⟩) rfl rfl ?sa3 (StepsE.cons (k := 4) (k' := 5) (o := ⟨some 42, _, _, _, _, _⟩) rfl rfl ?sa4 (StepsE.cons (k := 5) (k' := 6) (o := ⟨some 43, _, _, _, _, _⟩) rfl rfl ?sa5 (StepsE.cons (k := 6) (k' := 7) (o := ⟨some 44, _, _, _, _, _⟩) rfl rfl ?sa6 (StepsE.cons (k := 7) (k' := 8) (o := ⟨some 45, _, _, _, _, _⟩) rfl rfl ?sa7 (StepsE.cons (k := 8) (k' := 9) (o := ⟨some 46, _, _, _, _, _⟩) rfl rfl ?sa8 (StepsE.cons (k := 9) (k' := 10) (o := ⟨some 47, _, _, _, _, _⟩) rfl rfl ?sa9 (StepsE.cons (k := 10) (k' := 11) (o := ⟨some 48, _, _, _, _, _⟩) rfl rfl ?sa10 (StepsE.cons (k := 11) (k' := 12) (o := ⟨some 37, _, _, _, _, _⟩) rfl rfl ?sa11 (StepsE.cons (k := 12) (k' := 13) (o := ⟨some 49, _, _, _, _, _⟩) rfl rfl ?sa12 (StepsE.cons (k := 13) (k' := 14) (o := ⟨some 50, _, _, _, _, _⟩) rfl rfl ?sa13 (StepsE.cons (k := 14) (k' := 15) (o := ⟨some 13, _, _, _, _, _⟩) rfl rfl ?sa14 (StepsE.cons (k := 15) (k' := 16) (o := ⟨some 14, _, _, _, _, _⟩) rfl rfl ?sa15 StepsE.nil)))))))))))))))) ?fina
    case sa0 =>
      intro xs done y hI hd0 hdn hup hV K hK
      refine wpOp_go (o := ⟨some 38, _, _, _, _, _⟩) rfl rfl ?_
      clear hV
      simp only [putsF, List.foldl_cons, List.foldl_nil, Act.put, List.setIfInBounds_toArray, List.set_cons_zero, List.set_cons_succ] at hK ⊢
      obtain ⟨_, q0, q1, q2, q3, q4, q5, q6, q7⟩ := Row.at_8 (rW.below hI rW.lt)
      go_wp2_with fail
      exact hK.out _ _ hI (FP.mk (c := 0) (val := .agg #[.slice R.A1 r.seats.length R.c1, .slice R.A2 r.feet.length R.c2, .int .i64 r.frame, .int .i64 r.center.x, .int .i64 r.center.y, .int .i64 r.center.z, .int .i64 r.empty, .int .i64 r.full]) (by kernel_rfl) (by kernel_rfl) (by exact rfl)) (fun _ _ _ _ _ h => h)
    case sa1 =>
      intro xs done y hI hd0 hdn hup hV K hK
      refine wpOp_go (o := ⟨some 39, _, _, _, _, _⟩) rfl rfl ?_
      clear hV
      simp only [putsF, List.foldl_cons, List.foldl_nil, Act.put, List.setIfInBounds_toArray, List.set_cons_zero, List.set_cons_succ] at hK ⊢
      go_wp2_with fail
      exact hK.out _ _ (hI.alloc hI.size _) (FP.mk (c := 1) (val := undef) (by kernel_rfl) (by kernel_rfl) (new_empty hI.size)) (fun j u _ _ _ h => FP.below h ((Below.refl _ _).alloc (Nat.le_refl _) _))
    case sa2 =>
      intro xs done y hI hd0 hdn hup hV K hK
      refine wpOp_go (o := ⟨some 40, _, _, _, _, _⟩) rfl rfl ?_
      clear hV
      simp only [putsF, List.foldl_cons, List.foldl_nil, Act.put, List.setIfInBounds_toArray, List.set_cons_zero, List.set_cons_succ] at hK ⊢
      go_wp2_with fail
      exact hK.out _ _ hI (FP.mk (c := 0) (val := .slice A5 begun.length c5) (by kernel_rfl) (by kernel_rfl) (by exact rfl)) (fun _ _ _ _ _ h => h)
    case sa3 =>
      intro xs done y hI hd0 hdn hup hV K hK
      refine wpOp_go (o := ⟨some 41, _, _, _, _, _⟩) rfl rfl ?_
      have h1 : FPc W.heap.size r.seats.length begun true o1 undef 1 (xs 1) y := FP.get (hV 1 (by kernel_rfl)) (by kernel_rfl)
      have e2 : xs 2 = .slice A5 begun.length c5 := FP.isv (hV 2 (by kernel_rfl)) (by kernel_rfl) (by kernel_rfl)
      clear hV
      simp only [putsF, List.foldl_cons, List.foldl_nil, Act.put, List.setIfInBounds_toArray, List.set_cons_zero, List.set_cons_succ] at hK ⊢
      have h1 : isEmpty W.heap.size 4 1 (xs 1) y := h1
      simp only [e2] at hK ⊢
      clear e2
      refine wp_app0 _ (.tmp 39) (.tmp 40) 64 (by rfl) W.heap.size 4 i0 _ 1 1 Try.underlying64 hi hz0 hz1 hz2 rfl (by decide) _ (by rfl) h1 _ A5 begun.length c5 (begun.map Value.bool) (by rfl) (HBa.out y hI) bools_one (by unfold maxLen; omega) (by omega) ?_
      intro v1 z ho hb
      exact hK.out _ _ (hI.trans (hb.mono hI.size)) (FP.mk (c := 2) (val := undef) (by kernel_rfl) (by kernel_rfl) ⟨ho, Nat.le_trans hI.size hb.size⟩) (fun j u _ _ _ h => FP.below h hb)
    case sa4 =>
      intro xs done y hI hd0 hdn hup hV K hK
      refine wpOp_go (o := ⟨some 42, _, _, _, _, _⟩) rfl rfl ?_
      clear hV
      simp only [putsF, List.foldl_cons, List.foldl_nil, Act.put, List.setIfInBounds_toArray, List.set_cons_zero, List.set_cons_succ] at hK ⊢
      go_wp2_with fail
      exact hK.out _ _ (hI.alloc hI.size _) (FP.mk (c := 3) (val := undef) (by kernel_rfl) (by kernel_rfl) ⟨y.heap.size, rfl, Row.new y _ #[_]⟩) (fun j u _ _ _ h => FP.below h ((Below.refl _ _).alloc (Nat.le_refl _) _))
    case sa5 =>
      intro xs done y hI hd0 hdn hup hV K hK
      refine wpOp_go (o := ⟨some 43, _, _, _, _, _⟩) rfl rfl ?_
      have h3 : FPc W.heap.size r.seats.length begun true o1 undef 2 (xs 3) y := FP.get (hV 3 (by kernel_rfl)) (by kernel_rfl)
      have h4 : FPc W.heap.size r.seats.length begun true o1 undef 3 (xs 4) y := FP.get (hV 4 (by kernel_rfl)) (by kernel_rfl)
      clear hV
      simp only [putsF, List.foldl_cons, List.foldl_nil, Act.put, List.setIfInBounds_toArray, List.set_cons_zero, List.set_cons_succ] at hK ⊢
      have h3 : isOwn W.heap.size 4 1 begun.length (begun.map Value.bool) (xs 3) y := h3
      obtain ⟨g4, e4, hg4⟩ : isLit (.bool true) (xs 4) y := h4
      simp only [e4] at hK ⊢
      clear e4
      refine wp_app1 _ (.tmp 41) (.tmp 42) 64 (by rfl) W.heap.size 4 i0 _ 1 Try.underlying64 hi hz0 hz1 hz2 rfl _ begun.length (begun.map Value.bool) (by rfl) h3.1 g4 1 (.bool true) (by rfl) (hg4.cell (j := 0) (by simp)) rfl (by unfold maxLen; omega) (by omega) hI.size ?_
      intro v1 z ho hg hone
      exact hK.out _ _ (hI.grown hg hI.size (fun k e => (h3.1.lt k e).1)) (FP.mk (c := 4) (val := undef) (by kernel_rfl) (by kernel_rfl) ⟨ho, Nat.le_trans hI.size hg.size⟩) (fun j u hj hne hdj h => FP.one h hone hg.size (pres4 (m := 16) (cat := fun j => ([0, 1, 0, 2, 3, 4, 0, 0, 0, 0, 5, 5, 6, 0, 6, 0] : List Nat).getD j 7) hdn (by kernel_rfl) j hj hne hdj))
    case sa6 =>
      intro xs done y hI hd0 hdn hup hV K hK
      refine wpOp_go (o := ⟨some 44, _, _, _, _, _⟩) rfl rfl ?_
      clear hV
      simp only [putsF, List.foldl_cons, List.foldl_nil, Act.put, List.setIfInBounds_toArray, List.set_cons_zero, List.set_cons_succ] at hK ⊢
      go_wp2_with fail
      exact hK.out _ _ hI (FP.mk (c := 0) (val := .int .i64 many) (by kernel_rfl) (by kernel_rfl) (by exact rfl)) (fun _ _ _ _ _ h => h)
    case sa7 =>
      intro xs done y hI hd0 hdn hup hV K hK
      refine wpOp_go (o := ⟨some 45, _, _, _, _, _⟩) rfl rfl ?_
      have e6 : xs 6 = .int .i64 many := FP.isv (hV 6 (by kernel_rfl)) (by kernel_rfl) (by kernel_rfl)
      clear hV
      simp only [putsF, List.foldl_cons, List.foldl_nil, Act.put, List.setIfInBounds_toArray, List.set_cons_zero, List.set_cons_succ] at hK ⊢
      simp only [e6] at hK ⊢
      clear e6
      go_wp2_with fail
      exact hK.out _ _ hI (FP.mk (c := 0) (val := .int .i64 (many - 1)) (by kernel_rfl) (by kernel_rfl) (by exact rfl)) (fun _ _ _ _ _ h => h)
    case sa8 =>
      intro xs done y hI hd0 hdn hup hV K hK
      refine wpOp_go (o := ⟨some 46, _, _, _, _, _⟩) rfl rfl ?_
      clear hV
      simp only [putsF, List.foldl_cons, List.foldl_nil, Act.put, List.setIfInBounds_toArray, List.set_cons_zero, List.set_cons_succ] at hK ⊢
      go_wp2_with fail
      exact hK.out _ _ hI (FP.mk (c := 0) (val := .int .i64 (p : Int)) (by kernel_rfl) (by kernel_rfl) (by exact rfl)) (fun _ _ _ _ _ h => h)
    case sa9 =>
      intro xs done y hI hd0 hdn hup hV K hK
      refine wpOp_go (o := ⟨some 47, _, _, _, _, _⟩) rfl rfl ?_
      clear hV
      simp only [putsF, List.foldl_cons, List.foldl_nil, Act.put, List.setIfInBounds_toArray, List.set_cons_zero, List.set_cons_succ] at hK ⊢
      go_wp2_with fail
      exact hK.out _ _ hI (FP.mk (c := 0) (val := .int .i64 (k : Int)) (by kernel_rfl) (by kernel_rfl) (by exact rfl)) (fun _ _ _ _ _ h => h)
    case sa10 =>
      intro xs done y hI hd0 hdn hup hV K hK
      refine wpOp_go (o := ⟨some 48, _, _, _, _, _⟩) rfl rfl ?_
      have e0 : xs 0 = .agg #[.slice R.A1 r.seats.length R.c1, .slice R.A2 r.feet.length R.c2, .int .i64 r.frame, .int .i64 r.center.x, .int .i64 r.center.y, .int .i64 r.center.z, .int .i64 r.empty, .int .i64 r.full] := FP.isv (hV 0 (by kernel_rfl)) (by kernel_rfl) (by kernel_rfl)
      have h5 : FPc W.heap.size r.seats.length begun true o1 undef 4 (xs 5) y := FP.get (hV 5 (by kernel_rfl)) (by kernel_rfl)
      have e7 : xs 7 = .int .i64 (many - 1) := FP.isv (hV 7 (by kernel_rfl)) (by kernel_rfl) (by kernel_rfl)
      have e8 : xs 8 = .int .i64 (p : Int) := FP.isv (hV 8 (by kernel_rfl)) (by kernel_rfl) (by kernel_rfl)
      have e9 : xs 9 = .int .i64 (k : Int) := FP.isv (hV 9 (by kernel_rfl)) (by kernel_rfl) (by kernel_rfl)
      clear hV
      simp only [putsF, List.foldl_cons, List.foldl_nil, Act.put, List.setIfInBounds_toArray, List.set_cons_zero, List.set_cons_succ] at hK ⊢
      obtain ⟨h5, hb5⟩ : isOwn W.heap.size 4 1 (begun.length + 1) (begun.map Value.bool ++ [Value.bool true]) (xs 5) y := h5
      obtain ⟨AA5, cc5, e5, hr5⟩ := own_reads h5
      simp only [e0, e5, e7, e8, e9] at hK ⊢
      clear e0 e5 e7 e8 e9
      go_wp2_with (go_at_call 78; refine (HI1.out y AA5 cc5 hI hr5).mono ?_; rintro e z ⟨hz, u1, rfl, hro⟩)
      exact hK.out _ _ (hI.trans (hz.mono hI.size)) (FP.mk (c := 5) (val := undef) (by kernel_rfl) (by kernel_rfl) ⟨u1, rfl, hro⟩) (fun j u _ _ _ h => FP.below h hz)
    case sa11 =>
      intro xs done y hI hd0 hdn hup hV K hK
      refine wpOp_go (o := ⟨some 37, _, _, _, _, _⟩) rfl rfl ?_
      have h10 : FPc W.heap.size r.seats.length begun true o1 undef 5 (xs 10) y := FP.get (hV 10 (by kernel_rfl)) (by kernel_rfl)
      clear hV
      simp only [putsF, List.foldl_cons, List.foldl_nil, Act.put, List.setIfInBounds_toArray, List.set_cons_zero, List.set_cons_succ] at hK ⊢
      obtain ⟨u10, e10, h10⟩ : ∃ u1, xs 10 = .tuple #[u1, .bool o1.isSome] ∧ RO o1 r.seats.length u1 y := h10
      simp only [e10] at hK ⊢
      clear e10
      go_wp2_with fail
      exact hK.out _ _ hI (FP.mk (c := 5) (val := undef) (by kernel_rfl) (by kernel_rfl) ⟨u10, rfl, h10⟩) (fun _ _ _ _ _ h => h)
    case sa12 =>
      intro xs done y hI hd0 hdn hup hV K hK
      refine wpOp_go (o := ⟨some 49, _, _, _, _, _⟩) rfl rfl ?_
      have h11 : FPc W.heap.size r.seats.length begun true o1 undef 5 (xs 11) y := FP.get (hV 11 (by kernel_rfl)) (by kernel_rfl)
      clear hV
      simp only [putsF, List.foldl_cons, List.foldl_nil, Act.put, List.setIfInBounds_toArray, List.set_cons_zero, List.set_cons_succ] at hK ⊢
      obtain ⟨u11, e11, h11⟩ : ∃ u1, xs 11 = .tuple #[u1, .bool o1.isSome] ∧ RO o1 r.seats.length u1 y := h11
      simp only [e11] at hK ⊢
      clear e11
      go_wp2_with fail
      exact hK.out _ _ hI (FP.mk (c := 6) (val := undef) (by kernel_rfl) (by kernel_rfl) h11) (fun _ _ _ _ _ h => h)
    case sa13 =>
      intro xs done y hI hd0 hdn hup hV K hK
      refine wpOp_go (o := ⟨some 50, _, _, _, _, _⟩) rfl rfl ?_
      have h11 : FPc W.heap.size r.seats.length begun true o1 undef 5 (xs 11) y := FP.get (hV 11 (by kernel_rfl)) (by kernel_rfl)
      clear hV
      simp only [putsF, List.foldl_cons, List.foldl_nil, Act.put, List.setIfInBounds_toArray, List.set_cons_zero, List.set_cons_succ] at hK ⊢
      obtain ⟨u11, e11, h11⟩ : ∃ u1, xs 11 = .tuple #[u1, .bool o1.isSome] ∧ RO o1 r.seats.length u1 y := h11
      simp only [e11] at hK ⊢
      clear e11
      go_wp2_with fail
      exact hK.out _ _ hI (FP.mk (c := 0) (val := .bool o1.isSome) (by kernel_rfl) (by kernel_rfl) (by exact rfl)) (fun _ _ _ _ _ h => h)
    case sa14 =>
      intro xs done y hI hd0 hdn hup hV K hK
      refine wpOp_go (o := ⟨some 13, _, _, _, _, _⟩) rfl rfl ?_
      have h12 : FPc W.heap.size r.seats.length begun true o1 undef 6 (xs 12) y := FP.get (hV 12 (by kernel_rfl)) (by kernel_rfl)
      clear hV
      simp only [putsF, List.foldl_cons, List.foldl_nil, Act.put, List.setIfInBounds_toArray, List.set_cons_zero, List.set_cons_succ] at hK ⊢
      have h12 : RO o1 r.seats.length (xs 12) y := h12
      go_wp2_with fail
      exact hK.out _ _ hI (FP.mk (c := 6) (val := undef) (by kernel_rfl) (by kernel_rfl) h12) (fun _ _ _ _ _ h => h)
    case sa15 =>
      intro xs done y hI hd0 hdn hup hV K hK
      refine wpOp_go (o := ⟨some 14, _, _, _, _, _⟩) rfl rfl ?_
      have e13 : xs 13 = .bool o1.isSome := FP.isv (hV 13 (by kernel_rfl)) (by kernel_rfl) (by kernel_rfl)
      clear hV
      simp only [putsF, List.foldl_cons, List.foldl_nil, Act.put, List.setIfInBounds_toArray, List.set_cons_zero, List.set_cons_succ] at hK ⊢
      simp only [e13] at hK ⊢
      clear e13
      go_wp2_with fail
      exact hK.out _ _ hI (FP.mk (c := 0) (val := .bool o1.isSome) (by kernel_rfl) (by kernel_rfl) (by exact rfl)) (fun _ _ _ _ _ h => h)
    case fina =>
      intro xs done w5 hy hdone hV
      have e0 : xs 0 = .agg #[.slice R.A1 r.seats.length R.c1, .slice R.A2 r.feet.length R.c2, .int .i64 r.frame, .int .i64 r.center.x, .int .i64 r.center.y, .int .i64 r.center.z, .int .i64 r.empty, .int .i64 r.full] := FP.isv (hV 0 (by decide)) (by kernel_rfl) (by kernel_rfl)
      have e2 : xs 2 = .slice A5 begun.length c5 := FP.isv (hV 2 (by decide)) (by kernel_rfl) (by kernel_rfl)
      have e6 : xs 6 = .int .i64 many := FP.isv (hV 6 (by decide)) (by kernel_rfl) (by kernel_rfl)
      have e7 : xs 7 = .int .i64 (many - 1) := FP.isv (hV 7 (by decide)) (by kernel_rfl) (by kernel_rfl)
      have e8 : xs 8 = .int .i64 (p : Int) := FP.isv (hV 8 (by decide)) (by kernel_rfl) (by kernel_rfl)
      have e9 : xs 9 = .int .i64 (k : Int) := FP.isv (hV 9 (by decide)) (by kernel_rfl) (by kernel_rfl)
      have h12 : FPc W.heap.size r.seats.length begun true o1 undef 6 (xs 12) w5 := FP.get (hV 12 (by decide)) (by kernel_rfl)
      have e13 : xs 13 = .bool o1.isSome := FP.isv (hV 13 (by decide)) (by kernel_rfl) (by kernel_rfl)
      have h14 : FPc W.heap.size r.seats.length begun true o1 undef 6 (xs 14) w5 := FP.get (hV 14 (by decide)) (by kernel_rfl)
      have e15 : xs 15 = .bool o1.isSome := FP.isv (hV 15 (by decide)) (by kernel_rfl) (by kernel_rfl)
      clear hV
      simp only [putsF, List.foldl_cons, List.foldl_nil, Act.put, List.setIfInBounds_toArray, List.set_cons_zero, List.set_cons_succ]
      have h12 : RO o1 r.seats.length (xs 12) w5 := h12
      have h14 : RO o1 r.seats.length (xs 14) w5 := h14
      simp only [e0, e2, e6, e7, e8, e9, e13, e15]
      clear e0 e2 e6 e7 e8 e9 e13 e15
      have by1 := bW.trans (hy.mono bW.size)
      cases o1 with
      | some t1 =>
        have ho := Hnext.out
        dsimp only at ho
        clear Hnext
        subst ho
        go_wp2_with fail
        refine bodyPost_ret (v := .tuple #[xs 14, .bool true]) (by simp [results, Try.results78, go_sem]) rfl ?_
        exact ⟨by1, _, rfl, h14⟩
      | none =>
        have ho := Hnext.out
        dsimp only at ho
        clear Hnext
        subst ho
        have r5 := rW.below hy rW.lt
        have HIb : Hid (∀ X A6 c6, Below w5.heap.size w5 X → Reads X X.heap.size 1 A6 (begun.length + 1) (begun.map Value.bool ++ [.bool false]) → Calls Try.prog 78 #[.agg #[.slice R.A1 r.seats.length R.c1, .slice R.A2 r.feet.length R.c2, .int .i64 r.frame, .int .i64 r.center.x, .int .i64 r.center.y, .int .i64 r.center.z, .int .i64 r.empty, .int .i64 r.full], .slice A6 (begun.length + 1) c6, .int .i64 many, .int .i64 (p : Int), .int .i64 (k : Int)] X fun e w' => Below X.heap.size X w' ∧ ∃ u1, e = .returned (.tuple #[u1, .bool o.isSome]) ∧ RO o r.seats.length u1 w') := fun X A6 c6 hX => HI2.out X A6 c6 (hy.trans (hX.mono hy.size))
        have HBb := Lib.hid (fun (X : World) (hX : Below w5.heap.size w5 X) => HB0.out X (hy.trans (hX.mono hy.size)))
        clear h14 h12 rW hdone
        go_upto_region 9 with (fail)
        refine wp_region_steps 14 (ord := [0, 1, 2, 3, 4, 5, 6, 7, 8, 9, 10, 11, 12, 13]) (ds := [(0, 53), (1, 54), (2, 55), (3, 56), (4, 57), (5, 58), (6, 59), (7, 60), (8, 61), (9, 62), (10, 63), (11, 64), (12, 10), (13, 11)]) (I := fun _ y => Below w5.heap.size w5 y) (V := FP w5.heap.size r.seats.length begun false o (fun j => ([.agg #[.slice R.A1 r.seats.length R.c1, .slice R.A2 r.feet.length R.c2, .int .i64 r.frame, .int .i64 r.center.x, .int .i64 r.center.y, .int .i64 r.center.z, .int .i64 r.empty, .int .i64 r.full], undef, .slice A5 begun.length c5, undef, undef, undef, .int .i64 many, .int .i64 (p : Int), .int .i64 (k : Int), undef, undef, .bool o.isSome, undef, .bool o.isSome] : List Value).getD j undef) (fun j => ([0, 1, 0, 2, 3, 4, 0, 0, 0, 5, 6, 0, 6, 0] : List Nat).getD j 7)) (by kernel_rfl) (by kernel_rfl) rfl ((Below.refl _ _).drew) (StepsE.cons (k := 0) (k' := 1) (o := ⟨some 53, _, _, _, _, _⟩) rfl rfl ?sb0 (StepsE.cons (k := 1) (k' := 2) (o := ⟨some 54, _, _, _, _, _⟩) rfl rfl ?sb1 (StepsE.cons (k := 2) (k' := 3) (o := ⟨some 55, _, _, _, _, _⟩) rfl rfl ?sb2 (StepsE.cons (k := 3) (k' := 4) (o := ⟨some 56, _, _, _, _, _⟩) rfl rfl ?sb3 (StepsE.cons (k := 4) (k' := 5) (o := ⟨some 57, _, _, _, _, _⟩) rfl rfl ?sb4 (StepsE.cons (k := 5) (k' := 6) (o := ⟨some 58, _, _, _, _, _⟩) rfl rfl ?sb5 (StepsE.cons (k := 6) (k' := 7) (o := ⟨some 59, _, _, _, _, _⟩) rfl rfl ?sb6 (StepsE.cons (k := 7) (k' := 8) (o := ⟨some 60, _, _, _, _, _⟩) rfl rfl ?sb7 (StepsE.cons (k := 8) (k' := 9) (o := ⟨some 61, _, _, _, _, _⟩) rfl rfl ?sb8 (StepsE.cons (k := 9) (k' := 10) (o := ⟨some 62, _, _, _, _, _⟩) rfl rfl ?sb9 (StepsE.cons (k := 10) (k' := 11) (o := ⟨some 63, _, _, _, _, _⟩) rfl rfl ?sb10 (StepsE.cons (k := 11) (k' := 12) (o := ⟨some 64, _, _, _, _, _⟩) rfl rfl ?sb11 (StepsE.cons (k := 12) (k' := 13) (o := ⟨some 10, _, _, _, _, _⟩) rfl rfl ?sb12 (StepsE.cons (k := 13) (k' := 14) (o := ⟨some 11, _, _, _, _, _⟩) rfl rfl ?sb13 StepsE.nil)))))))))))))) ?finb
        case sb0 =>
          intro xs done y hI hd0 hdn hup hV K hK
          refine wpOp_go (o := ⟨some 53, _, _, _, _, _⟩) rfl rfl ?_
          clear hV
          simp only [putsF, List.foldl_cons, List.foldl_nil, Act.put, List.setIfInBounds_toArray, List.set_cons_zero, List.set_cons_succ] at hK ⊢
          obtain ⟨_, q0, q1, q2, q3, q4, q5, q6, q7⟩ := Row.at_8 (r5.below hI r5.lt)
          go_wp2_with fail
          exact hK.out _ _ hI (FP.mk (c := 0) (val := .agg #[.slice R.A1 r.seats.length R.c1, .slice R.A2 r.feet.length R.c2, .int .i64 r.frame, .int .i64 r.center.x, .int .i64 r.center.y, .int .i64 r.center.z, .int .i64 r.empty, .int .i64 r.full]) (by kernel_rfl) (by kernel_rfl) (by exact rfl)) (fun _ _ _ _ _ h => h)
        case sb1 =>
          intro xs done y hI hd0 hdn hup hV K hK
          refine wpOp_go (o := ⟨some 54, _, _, _, _, _⟩) rfl rfl ?_
          clear hV
          simp only [putsF, List.foldl_cons, List.foldl_nil, Act.put, List.setIfInBounds_toArray, List.set_cons_zero, List.set_cons_succ] at hK ⊢
          go_wp2_with fail
          exact hK.out _ _ (hI.alloc hI.size _) (FP.mk (c := 1) (val := undef) (by kernel_rfl) (by kernel_rfl) (new_empty hI.size)) (fun j u _ _ _ h => FP.below h ((Below.refl _ _).alloc (Nat.le_refl _) _))
        case sb2 =>
          intro xs done y hI hd0 hdn hup hV K hK
          refine wpOp_go (o := ⟨some 55, _, _, _, _, _⟩) rfl rfl ?_
          clear hV
          simp only [putsF, List.foldl_cons, List.foldl_nil, Act.put, List.setIfInBounds_toArray, List.set_cons_zero, List.set_cons_succ] at hK ⊢
          go_wp2_with fail
          exact hK.out _ _ hI (FP.mk (c := 0) (val := .slice A5 begun.length c5) (by kernel_rfl) (by kernel_rfl) (by exact rfl)) (fun _ _ _ _ _ h => h)
        case sb3 =>
          intro xs done y hI hd0 hdn hup hV K hK
          refine wpOp_go (o := ⟨some 56, _, _, _, _, _⟩) rfl rfl ?_
          have h1 : FPc w5.heap.size r.seats.length begun false o undef 1 (xs 1) y := FP.get (hV 1 (by kernel_rfl)) (by kernel_rfl)
          have e2 : xs 2 = .slice A5 begun.length c5 := FP.isv (hV 2 (by kernel_rfl)) (by kernel_rfl) (by kernel_rfl)
          clear hV
          simp only [putsF, List.foldl_cons, List.foldl_nil, Act.put, List.setIfInBounds_toArray, List.set_cons_zero, List.set_cons_succ] at hK ⊢
          have h1 : isEmpty w5.heap.size 4 1 (xs 1) y := h1
          simp only [e2] at hK ⊢
          clear e2
          refine wp_app0 _ (.tmp 54) (.tmp 55) 64 (by rfl) w5.heap.size 4 i0 _ 1 1 Try.underlying64 hi hz0 hz1 hz2 rfl (by decide) _ (by rfl) h1 _ A5 begun.length c5 (begun.map Value.bool) (by rfl) (HBb.out y hI) bools_one (by unfold maxLen; omega) (by omega) ?_
          intro v1 z ho hb
          exact hK.out _ _ (hI.trans (hb.mono hI.size)) (FP.mk (c := 2) (val := undef) (by kernel_rfl) (by kernel_rfl) ⟨ho, Nat.le_trans hI.size hb.size⟩) (fun j u _ _ _ h => FP.below h hb)
        case sb4 =>
          intro xs done y hI hd0 hdn hup hV K hK
          refine wpOp_go (o := ⟨some 57, _, _, _, _, _⟩) rfl rfl ?_
          clear hV
          simp only [putsF, List.foldl_cons, List.foldl_nil, Act.put, List.setIfInBounds_toArray, List.set_cons_zero, List.set_cons_succ] at hK ⊢
          go_wp2_with fail
          exact hK.out _ _ (hI.alloc hI.size _) (FP.mk (c := 3) (val := undef) (by kernel_rfl) (by kernel_rfl) ⟨y.heap.size, rfl, Row.new y _ #[_]⟩) (fun j u _ _ _ h => FP.below h ((Below.refl _ _).alloc (Nat.le_refl _) _))
        case sb5 =>
          intro xs done y hI hd0 hdn hup hV K hK
          refine wpOp_go (o := ⟨some 58, _, _, _, _, _⟩) rfl rfl ?_
          have h3 : FPc w5.heap.size r.seats.length begun false o undef 2 (xs 3) y := FP.get (hV 3 (by kernel_rfl)) (by kernel_rfl)
          have h4 : FPc w5.heap.size r.seats.length begun false o undef 3 (xs 4) y := FP.get (hV 4 (by kernel_rfl)) (by kernel_rfl)
          clear hV
          simp only [putsF, List.foldl_cons, List.foldl_nil, Act.put, List.setIfInBounds_toArray, List.set_cons_zero, List.set_cons_succ] at hK ⊢
          have h3 : isOwn w5.heap.size 4 1 begun.length (begun.map Value.bool) (xs 3) y := h3
          obtain ⟨g4, e4, hg4⟩ : isLit (.bool false) (xs 4) y := h4
          simp only [e4] at hK ⊢
          clear e4
          refine wp_app1 _ (.tmp 56) (.tmp 57) 64 (by rfl) w5.heap.size 4 i0 _ 1 Try.underlying64 hi hz0 hz1 hz2 rfl _ begun.length (begun.map Value.bool) (by rfl) h3.1 g4 1 (.bool false) (by rfl) (hg4.cell (j := 0) (by simp)) rfl (by unfold maxLen; omega) (by omega) hI.size ?_
          intro v1 z ho hg hone
          exact hK.out _ _ (hI.grown hg hI.size (fun k e => (h3.1.lt k e).1)) (FP.mk (c := 4) (val := undef) (by kernel_rfl) (by kernel_rfl) ⟨ho, Nat.le_trans hI.size hg.size⟩) (fun j u hj hne hdj h => FP.one h hone hg.size (pres4 (m := 14) (cat := fun j => ([0, 1, 0, 2, 3, 4, 0, 0, 0, 5, 6, 0, 6, 0] : List Nat).getD j 7) hdn (by kernel_rfl) j hj hne hdj))
        case sb6 =>
          intro xs done y hI hd0 hdn hup hV K hK
          refine wpOp_go (o := ⟨some 59, _, _, _, _, _⟩) rfl rfl ?_
          clear hV
          simp only [putsF, List.foldl_cons, List.foldl_nil, Act.put, List.setIfInBounds_toArray, List.set_cons_zero, List.set_cons_succ] at hK ⊢
          go_wp2_with fail
          exact hK.out _ _ hI (FP.mk (c := 0) (val := .int .i64 many) (by kernel_rfl) (by kernel_rfl) (by exact rfl)) (fun _ _ _ _ _ h => h)
        case sb7 =>
          intro xs done y hI hd0 hdn hup hV K hK
          refine wpOp_go (o := ⟨some 60, _, _, _, _, _⟩) rfl rfl ?_
          clear hV
          simp only [putsF, List.foldl_cons, List.foldl_nil, Act.put, List.setIfInBounds_toArray, List.set_cons_zero, List.set_cons_succ] at hK ⊢
          go_wp2_with fail
          exact hK.out _ _ hI (FP.mk (c := 0) (val := .int .i64 (p : Int)) (by kernel_rfl) (by kernel_rfl) (by exact rfl)) (fun _ _ _ _ _ h => h)
        case sb8 =>
          intro xs done y hI hd0 hdn hup hV K hK
          refine wpOp_go (o := ⟨some 61, _, _, _, _, _⟩) rfl rfl ?_
          clear hV
          simp only [putsF, List.foldl_cons, List.foldl_nil, Act.put, List.setIfInBounds_toArray, List.set_cons_zero, List.set_cons_succ] at hK ⊢
          go_wp2_with fail
          exact hK.out _ _ hI (FP.mk (c := 0) (val := .int .i64 (k : Int)) (by kernel_rfl) (by kernel_rfl) (by exact rfl)) (fun _ _ _ _ _ h => h)
        case sb9 =>
          intro xs done y hI hd0 hdn hup hV K hK
          refine wpOp_go (o := ⟨some 62, _, _, _, _, _⟩) rfl rfl ?_
          have e0 : xs 0 = .agg #[.slice R.A1 r.seats.length R.c1, .slice R.A2 r.feet.length R.c2, .int .i64 r.frame, .int .i64 r.center.x, .int .i64 r.center.y, .int .i64 r.center.z, .int .i64 r.empty, .int .i64 r.full] := FP.isv (hV 0 (by kernel_rfl)) (by kernel_rfl) (by kernel_rfl)
          have h5 : FPc w5.heap.size r.seats.length begun false o undef 4 (xs 5) y := FP.get (hV 5 (by kernel_rfl)) (by kernel_rfl)
          have e6 : xs 6 = .int .i64 many := FP.isv (hV 6 (by kernel_rfl)) (by kernel_rfl) (by kernel_rfl)
          have e7 : xs 7 = .int .i64 (p : Int) := FP.isv (hV 7 (by kernel_rfl)) (by kernel_rfl) (by kernel_rfl)
          have e8 : xs 8 = .int .i64 (k : Int) := FP.isv (hV 8 (by kernel_rfl)) (by kernel_rfl) (by kernel_rfl)
          clear hV
          simp only [putsF, List.foldl_cons, List.foldl_nil, Act.put, List.setIfInBounds_toArray, List.set_cons_zero, List.set_cons_succ] at hK ⊢
          obtain ⟨h5, hb5⟩ : isOwn w5.heap.size 4 1 (begun.length + 1) (begun.map Value.bool ++ [Value.bool false]) (xs 5) y := h5
          obtain ⟨AA5, cc5, e5, hr5⟩ := own_reads h5
          simp only [e0, e5, e6, e7, e8] at hK ⊢
          clear e0 e5 e6 e7 e8
          go_wp2_with (go_at_call 78; refine (HIb.out y AA5 cc5 hI hr5).mono ?_; rintro e z ⟨hz, u1, rfl, hro⟩)
          exact hK.out _ _ (hI.trans (hz.mono hI.size)) (FP.mk (c := 5) (val := undef) (by kernel_rfl) (by kernel_rfl) ⟨u1, rfl, hro⟩) (fun j u _ _ _ h => FP.below h hz)
        case sb10 =>
          intro xs done y hI hd0 hdn hup hV K hK
          refine wpOp_go (o := ⟨some 63, _, _, _, _, _⟩) rfl rfl ?_
          have h9 : FPc w5.heap.size r.seats.length begun false o undef 5 (xs 9) y := FP.get (hV 9 (by kernel_rfl)) (by kernel_rfl)
          clear hV
          simp only [putsF, List.foldl_cons, List.foldl_nil, Act.put, List.setIfInBounds_toArray, List.set_cons_zero, List.set_cons_succ] at hK ⊢
          obtain ⟨u9, e9, h9⟩ : ∃ u1, xs 9 = .tuple #[u1, .bool o.isSome] ∧ RO o r.seats.length u1 y := h9
          simp only [e9] at hK ⊢
          clear e9
          go_wp2_with fail
          exact hK.out _ _ hI (FP.mk (c := 6) (val := undef) (by kernel_rfl) (by kernel_rfl) h9) (fun _ _ _ _ _ h => h)
        case sb11 =>
          intro xs done y hI hd0 hdn hup hV K hK
          refine wpOp_go (o := ⟨some 64, _, _, _, _, _⟩) rfl rfl ?_
          have h9 : FPc w5.heap.size r.seats.length begun false o undef 5 (xs 9) y := FP.get (hV 9 (by kernel_rfl)) (by kernel_rfl)
          clear hV
          simp only [putsF, List.foldl_cons, List.foldl_nil, Act.put, List.setIfInBounds_toArray, List.set_cons_zero, List.set_cons_succ] at hK ⊢
          obtain ⟨u9, e9, h9⟩ : ∃ u1, xs 9 = .tuple #[u1, .bool o.isSome] ∧ RO o r.seats.length u1 y := h9
          simp only [e9] at hK ⊢
          clear e9
          go_wp2_with fail
          exact hK.out _ _ hI (FP.mk (c := 0) (val := .bool o.isSome) (by kernel_rfl) (by kernel_rfl) (by exact rfl)) (fun _ _ _ _ _ h => h)
        case sb12 =>
          intro xs done y hI hd0 hdn hup hV K hK
          refine wpOp_go (o := ⟨some 10, _, _, _, _, _⟩) rfl rfl ?_
          have h10 : FPc w5.heap.size r.seats.length begun false o undef 6 (xs 10) y := FP.get (hV 10 (by kernel_rfl)) (by kernel_rfl)
          clear hV
          simp only [putsF, List.foldl_cons, List.foldl_nil, Act.put, List.setIfInBounds_toArray, List.set_cons_zero, List.set_cons_succ] at hK ⊢
          have h10 : RO o r.seats.length (xs 10) y := h10
          go_wp2_with fail
          exact hK.out _ _ hI (FP.mk (c := 6) (val := undef) (by kernel_rfl) (by kernel_rfl) h10) (fun _ _ _ _ _ h => h)
        case sb13 =>
          intro xs done y hI hd0 hdn hup hV K hK
          refine wpOp_go (o := ⟨some 11, _, _, _, _, _⟩) rfl rfl ?_
          have e11 : xs 11 = .bool o.isSome := FP.isv (hV 11 (by kernel_rfl)) (by kernel_rfl) (by kernel_rfl)
          clear hV
          simp only [putsF, List.foldl_cons, List.foldl_nil, Act.put, List.setIfInBounds_toArray, List.set_cons_zero, List.set_cons_succ] at hK ⊢
          simp only [e11] at hK ⊢
          clear e11
          go_wp2_with fail
          exact hK.out _ _ hI (FP.mk (c := 0) (val := .bool o.isSome) (by kernel_rfl) (by kernel_rfl) (by exact rfl)) (fun _ _ _ _ _ h => h)
        case finb =>
          intro xs9 done w6 hy9 hdone hV
          have e0 : xs9 0 = .agg #[.slice R.A1 r.seats.length R.c1, .slice R.A2 r.feet.length R.c2, .int .i64 r.frame, .int .i64 r.center.x, .int .i64 r.center.y, .int .i64 r.center.z, .int .i64 r.empty, .int .i64 r.full] := FP.isv (hV 0 (by decide)) (by kernel_rfl) (by kernel_rfl)
          have e2 : xs9 2 = .slice A5 begun.length c5 := FP.isv (hV 2 (by decide)) (by kernel_rfl) (by kernel_rfl)
          have e6 : xs9 6 = .int .i64 many := FP.isv (hV 6 (by decide)) (by kernel_rfl) (by kernel_rfl)
          have e7 : xs9 7 = .int .i64 (p : Int) := FP.isv (hV 7 (by decide)) (by kernel_rfl) (by kernel_rfl)
          have e8 : xs9 8 = .int .i64 (k : Int) := FP.isv (hV 8 (by decide)) (by kernel_rfl) (by kernel_rfl)
          have h10 : FPc w5.heap.size r.seats.length begun false o undef 6 (xs9 10) w6 := FP.get (hV 10 (by decide)) (by kernel_rfl)
          have e11 : xs9 11 = .bool o.isSome := FP.isv (hV 11 (by decide)) (by kernel_rfl) (by kernel_rfl)
          have h12 : FPc w5.heap.size r.seats.length begun false o undef 6 (xs9 12) w6 := FP.get (hV 12 (by decide)) (by kernel_rfl)
          have e13 : xs9 13 = .bool o.isSome := FP.isv (hV 13 (by decide)) (by kernel_rfl) (by kernel_rfl)
          clear hV
          simp only [putsF, List.foldl_cons, List.foldl_nil, Act.put, List.setIfInBounds_toArray, List.set_cons_zero, List.set_cons_succ]
          have h10 : RO o r.seats.length (xs9 10) w6 := h10
          have h12 : RO o r.seats.length (xs9 12) w6 := h12
          simp only [e0, e2, e6, e7, e8, e11, e13]
          clear e0 e2 e6 e7 e8 e11 e13
          have by2 := by1.trans (hy9.mono by1.size)
          go_wp2_with fail
          refine bodyPost_ret (v := .tuple #[xs9 12, .bool o.isSome]) (by simp [results, Try.results78, go_sem]) rfl ?_
          exact ⟨by2, _, rfl, h12⟩
end Go.Proofs.Ytkmiapfkebdpbaa
