/- The walk of QueuePlays. Conditions: an evening and groups that read as data. -/
import Derived.Test.YtijbhcdnbaaobaaHf
import Derived.Test.YtijbhcdnbaaobaaDj
import Derived.Test.YtijbhcdnbaaobaaDw
import Derived.BigRegion
import Derived.Laws.IdiomCopy
import Derived.Test.YtijbhcdnbaaobaaYr
import Derived.BigQuiet
import Derived.Test.YtijbhcdnbaaobaaEp
import Derived.Test.YtijbhcdnbaaobaaEh
import Derived.Laws.StructEq
import Derived.Test.YtijbhcdnbaaobaaDt
import Derived.Test.YtijbhcdnbaaobaaEn
/- Visits put in their order one after the other, plainly. No program, no memory. -/
namespace Go.Proofs.Ytijbhcdnbaaobaa

def befV (a b : VisZ) : Prop := a.left < b.left ∨ a.left = b.left ∧ (a.group < b.group ∨ a.group = b.group ∧ a.want < b.want)
instance (a b : VisZ) : Decidable (befV a b) := inferInstanceAs (Decidable (_ ∨ _))
theorem bef_le {a b : VisZ} (h : befV a b) : leV a b := by
  unfold befV at h
  unfold leV
  omega
theorem bef_not {a b : VisZ} (h : ¬ befV a b) : leV b a := by
  unfold befV at h
  unfold leV
  omega
theorem le_trans {a b c : VisZ} (h : leV a b) (k : leV b c) : leV a c := by
  unfold leV at *
  omega
def z0 : VisZ := ⟨0, 0, 0, false, 0, 0⟩
/-- The element of the place k is on its way down; the others up to i are in their order. -/
structure InsI (L M : List VisZ) (i k : Nat) : Prop where
  perm : M.Perm L
  ki : k ≤ i
  lt : i < M.length
  s1 : ∀ a b, a < b → b ≤ i → a ≠ k → b ≠ k → leV (M.getD a z0) (M.getD b z0)
  s2 : ∀ b, k < b → b ≤ i → leV (M.getD k z0) (M.getD b z0)
/-- The first i are in their order. -/
structure SrtI (L M : List VisZ) (i : Nat) : Prop where
  perm : M.Perm L
  s : ∀ a b, a < b → b < i → leV (M.getD a z0) (M.getD b z0)
def swpV (M : List VisZ) (k : Nat) : List VisZ := (M.set k (M.getD (k - 1) z0)).set (k - 1) (M.getD k z0)
theorem swp_len (M : List VisZ) (k : Nat) : (swpV M k).length = M.length := by simp [swpV]
theorem swp_at (M : List VisZ) {k : Nat} (h0 : 0 < k) (hk : k < M.length) (j : Nat) : (swpV M k).getD j z0 = if j = k then M.getD (k - 1) z0 else if j = k - 1 then M.getD k z0 else M.getD j z0 := by
  unfold swpV
  rw [List.getD_eq_getElem?_getD, List.getElem?_set, List.getElem?_set]
  by_cases e1 : j = k
  · subst e1
    rw [if_neg (by omega), if_pos rfl, if_pos hk, if_pos rfl]
    rfl
  · by_cases e2 : j = k - 1
    · subst e2
      rw [if_pos rfl, if_pos (by simp; omega), if_neg e1, if_pos rfl]
      rfl
    · rw [if_neg (by omega), if_neg (by omega), if_neg e1, if_neg e2, List.getD_eq_getElem?_getD]
theorem swp_perm (M : List VisZ) {k : Nat} (h0 : 0 < k) (hk : k < M.length) : (swpV M k).Perm M := by
  unfold swpV
  rw [List.getD_eq_getElem?_getD, List.getD_eq_getElem?_getD, List.getElem?_eq_getElem hk, List.getElem?_eq_getElem (show k - 1 < M.length by omega)]
  exact List.set_set_perm hk (by omega)
theorem InsI.swap {L M : List VisZ} {i k : Nat} (h : InsI L M i k) (h0 : 0 < k) (hb : befV (M.getD k z0) (M.getD (k - 1) z0)) : InsI L (swpV M k) i (k - 1) := by
  obtain ⟨p, ki, lt, s1, s2⟩ := h
  have hk : k < M.length := by omega
  have at_ := swp_at M h0 hk
  refine ⟨(swp_perm M h0 hk).trans p, by omega, by rw [swp_len]; exact lt, fun a b hab hbi ha hb' => ?_, fun b hkb hbi => ?_⟩
  · rw [at_ a, at_ b]
    by_cases e1 : a = k
    · subst e1
      rw [if_pos rfl, if_neg (by omega), if_neg (by omega)]
      exact s1 (a - 1) b (by omega) hbi (by omega) (by omega)
    · by_cases e2 : b = k
      · subst e2
        rw [if_neg e1, if_neg ha, if_pos rfl]
        exact s1 a (b - 1) (by omega) (by omega) e1 (by omega)
      · rw [if_neg e1, if_neg ha, if_neg e2, if_neg hb']
        exact s1 a b hab hbi e1 e2
  · rw [at_ (k - 1), at_ b, if_neg (by omega), if_pos rfl]
    by_cases e2 : b = k
    · subst e2
      rw [if_pos rfl]
      exact bef_le hb
    · rw [if_neg e2, if_neg (by omega)]
      exact s2 b (by omega) hbi
theorem SrtI.ins {L M : List VisZ} {i : Nat} (h : SrtI L M i) (hi : i < M.length) : InsI L M i i :=
  ⟨h.perm, Nat.le_refl _, hi, fun a b hab hbi _ hb => h.s a b hab (by omega), fun b h1 h2 => by omega⟩
theorem InsI.done {L M : List VisZ} {i k : Nat} (h : InsI L M i k) (hd : 0 < k → ¬ befV (M.getD k z0) (M.getD (k - 1) z0)) : SrtI L M (i + 1) := by
  refine ⟨h.perm, fun a b hab hbi => ?_⟩
  by_cases e1 : a = k
  · subst e1
    exact h.s2 b hab (by omega)
  · by_cases e2 : b = k
    · subst e2
      have h3 := bef_not (hd (by omega))
      by_cases e3 : a = b - 1
      · subst e3
        exact h3
      · exact le_trans (h.s1 a (b - 1) (by omega) (by have := h.ki; omega) e1 (by omega)) h3
    · exact h.s1 a b hab (by omega) e1 e2
theorem SrtI.start (L : List VisZ) : SrtI L L 1 := ⟨List.Perm.refl _, fun a b hab hb => by omega⟩
theorem SrtI.pair {L M : List VisZ} {i : Nat} (h : SrtI L M i) (hi : M.length ≤ i) : M.Pairwise leV := by
  rw [List.pairwise_iff_getElem]
  intro a b ha hb hab
  have := h.s a b hab (by omega)
  rw [List.getD_eq_getElem?_getD, List.getD_eq_getElem?_getD, List.getElem?_eq_getElem ha, List.getElem?_eq_getElem hb] at this
  exact this
/-- There is one order of an evening's visits. -/
theorem order_one (f : EveZ) (l : List GrpZ) (ht : ∀ g ∈ l, 0 ≤ g.tokens) (hw : ∀ g ∈ l, ∀ w ∈ g.wants, 0 ≤ w ∧ w < (f.rides.length : Int)) (h0 : 0 ≤ f.walk) (hb : ∀ b ∈ f.rides, 0 ≤ b.cycle) {L M : List VisZ} (h1 : L.Perm (eveS f l).visits) (h2 : L.Pairwise leV) (h3 : M.Perm (eveS f l).visits) (h4 : M.Pairwise leV) : L = M := by
  have hB := play_his f l ht hw
  have hlen := (fix_len hB.1.fix).1
  refine List.Perm.eq_of_pairwise (fun a b ha hb' h5 h6 => ?_) h2 h4 (h1.trans h3.symm)
  have ha2 := h1.mem_iff.1 ha
  have hb2 := h3.mem_iff.1 hb'
  have hg : a.group = b.group ∧ a.want = b.want := by
    unfold leV at h5 h6
    omega
  have hga := (hB.1.vis a ha2).1
  have hl : (startS f l).groups.length = l.length := by simp [startS]
  have hH := hB.2 a.group (by omega)
  have hcy : ∀ r, 0 ≤ cycS (startS f l) r := fun r => by
    unfold cycS EvS.rd startS
    by_cases hr : r < f.rides.length
    · have := hb _ (List.getElem_mem hr)
      simpa [hr] using this
    · simp [hr]
      decide
  have hnx := chain_next (show 0 ≤ (startS f l).walk from h0) hcy _ _ _ hH.chain
  refine next_one hnx a ?_ b ?_ hg.2
  · exact List.mem_filter.2 ⟨ha2, by simp⟩
  · exact List.mem_filter.2 ⟨hb2, by simp [hg.1]⟩
end Go.Proofs.Ytijbhcdnbaaobaa
/- Contract of the specification's Play. Conditions: an evening and groups that read as data; a valid evening is played. -/
namespace Go.Proofs.Ytijbhcdnbaaobaa
open Go.RowKit

def visA (v : VisZ) : Value := .agg #[.int .i64 v.group, .int .i64 v.want, .int .i64 v.ride, .bool v.on, .int .i64 v.came, .int .i64 v.left]
theorem rbefore_any (a b : VisZ) (w : World) : Calls Try.prog 49 #[visA a, visA b] w fun e w' => e = .returned (.bool (decide (befV a b))) ∧ Below w.heap.size w w' := by
  have HB := Lib.hid (Below.refl w.heap.size w)
  obtain ⟨c, hc⟩ : ∃ c, c = decide (befV a b) := ⟨_, rfl⟩
  rw [← hc]
  have HC := Lib.hid hc
  unfold visA
  clear hc
  go_enter Try.func49, Try.ntmps49
  go_wp2_with fail
  all_goals
    go_ret
    refine ⟨?_, (HB.out.alloc (Nat.le_refl _) _).alloc (by rw [World.size_alloc]; omega) _⟩
    rw [HC.out]
    refine congrArg Ending.returned (congrArg Value.bool (decide_eq_decide.2 ?_))
    unfold befV
    simp only [bne_iff_ne, ne_eq, bne_eq_false_iff_eq] at *
    omega
theorem vis_len : ∀ M : List VisZ, (M.flatMap visL).length = M.length * 6 := by
  intro M
  induction M with
  | nil => rfl
  | cons v M ih => rw [List.flatMap_cons, List.length_append, ih, List.length_cons]; simp [visL]; omega
theorem row_vis {X : World} {g : Nat} {M : List VisZ} (h : Row X g 57 (M.flatMap visL)) {k : Nat} (hk : k < M.length) : X.cell? ⟨g, k * 6, none⟩ = some (.int .i64 (M.getD k z0).group) ∧ X.cell? ⟨g, k * 6 + 1, none⟩ = some (.int .i64 (M.getD k z0).want) ∧ X.cell? ⟨g, k * 6 + 2, none⟩ = some (.int .i64 (M.getD k z0).ride) ∧
    X.cell? ⟨g, k * 6 + 3, none⟩ = some (.bool (M.getD k z0).on) ∧ X.cell? ⟨g, k * 6 + 4, none⟩ = some (.int .i64 (M.getD k z0).came) ∧ X.cell? ⟨g, k * 6 + 5, none⟩ = some (.int .i64 (M.getD k z0).left) := by
  have hl := vis_len M
  have key : ∀ c, c < 6 → ∀ u, (visL (M.getD k z0))[c]? = some u → X.cell? ⟨g, k * 6 + c, none⟩ = some u := fun c hc u hu => by
    have hf := flat_at visL 6 (fun _ => rfl) z0 M k hk c hc
    rw [h.cell (j := k * 6 + c) (by omega), hf, hu]
  exact ⟨key 0 (by omega) _ rfl, key 1 (by omega) _ rfl, key 2 (by omega) _ rfl, key 3 (by omega) _ rfl, key 4 (by omega) _ rfl, key 5 (by omega) _ rfl⟩
def setL : List Value → Nat → List Value → List Value
  | xs, _, [] => xs
  | xs, o, v :: vs => setL (xs.set o v) (o + 1) vs
theorem setL_at : ∀ (vs xs : List Value) (o i : Nat), (setL xs o vs)[i]? = if o ≤ i ∧ i < o + vs.length ∧ i < xs.length then vs[i - o]? else xs[i]? := by
  intro vs
  induction vs with
  | nil => intro xs o i; rw [if_neg (by simp; omega)]; rfl
  | cons v vs ih =>
    intro xs o i
    simp only [setL, ih, List.length_set, List.length_cons, List.getElem?_set]
    by_cases h1 : i = o
    · subst h1
      by_cases h2 : i < xs.length
      · rw [if_neg (by omega), if_pos rfl, if_pos h2, if_pos (by omega), Nat.sub_self]
        rfl
      · rw [if_neg (by omega), if_pos rfl, if_neg h2, if_neg (by omega), List.getElem?_eq_none (by omega)]
    · by_cases h2 : o ≤ i ∧ i < o + (vs.length + 1) ∧ i < xs.length
      · rw [if_pos (by omega), if_pos h2, show i - o = (i - (o + 1)) + 1 by omega]
        rfl
      · rw [if_neg (by omega), if_neg (fun e => h1 e.symm), if_neg h2]
theorem setL_flat {M : List VisZ} {k : Nat} (hk : k < M.length) (v : VisZ) : setL (M.flatMap visL) (k * 6) (visL v) = (M.set k v).flatMap visL := by
  have hl : ∀ M : List VisZ, (M.flatMap visL).length = M.length * 6 := vis_len
  refine List.ext_getElem? fun i => ?_
  have hv : (visL v).length = 6 := rfl
  rw [setL_at, hl, hv]
  by_cases hi : i < M.length * 6
  · have e : i = i / 6 * 6 + i % 6 := by omega
    have hq : i / 6 < M.length := by omega
    have hc : i % 6 < 6 := by omega
    have f1 := flat_at visL 6 (fun _ => rfl) z0 M (i / 6) hq (i % 6) hc
    have f2 := flat_at visL 6 (fun _ => rfl) z0 (M.set k v) (i / 6) (by rw [List.length_set]; exact hq) (i % 6) hc
    rw [← e] at f1 f2
    rw [f1, f2, List.getD_eq_getElem?_getD, List.getD_eq_getElem?_getD, List.getElem?_set]
    by_cases ek : k = i / 6
    · rw [if_pos (by omega), if_pos ek, if_pos hk, show i - k * 6 = i % 6 by omega]
      rfl
    · rw [if_neg (by omega), if_neg ek]
  · rw [if_neg (by omega), List.getElem?_eq_none (by rw [hl]; omega), List.getElem?_eq_none (by rw [hl, List.length_set]; omega)]
theorem row_setCells {g : Nat} {t : TypeId} : ∀ (vs : List Value) (o : Nat) (w : World) (xs : List Value), Row w g t xs → Row (w.setCells g o vs) g t (setL xs o vs) := by
  intro vs
  induction vs with
  | nil => intro o w xs h; exact h
  | cons v vs ih => intro o w xs h; exact ih (o + 1) _ _ (h.set o v)
theorem below_setCells {B : Nat} {w : World} : ∀ {w' : World} {g : Nat}, Below B w w' → B ≤ g → ∀ (vs : List Value) (o : Nat), Below B w (w'.setCells g o vs) := by
  intro w' g h hg vs
  induction vs generalizing w' with
  | nil => intro o; exact h
  | cons v vs ih => intro o; exact ih (h.setCell (p := ⟨g, o, none⟩) hg v) (o + 1)
/-- A visit is stored. -/
theorem store_vis {P : Program} {y : World} {g : Nat} {t : TypeId} {M : List VisZ} (h : Row y g t (M.flatMap visL)) {k : Nat} (hk : k < M.length) (v : VisZ) : Sem.run P (storeCells ⟨g, k * 6, none⟩ (visL v)) y = .ok () (y.setCells g (k * 6) (visL v)) ∧ Row (y.setCells g (k * 6) (visL v)) g t ((M.set k v).flatMap visL) := by
  constructor
  · have hl := vis_len M
    have := run_storeCells_cells (P := P) g (k * 6) (visL v) 0 y (fun j hj => by
      have hj : j < 6 := hj
      rw [h.cell (j := k * 6 + 0 + j) (by omega), List.getElem?_eq_getElem (by omega)]
      rfl) (fun j _ => h.frozen _) (fun u hu => by
      simp only [visL, List.mem_cons, List.not_mem_nil, or_false] at hu
      rcases hu with rfl | rfl | rfl | rfl | rfl | rfl <;> rfl)
    exact this
  · rw [← setL_flat hk v]
    exact row_setCells _ _ _ _ h
structure SwI (w : World) (g n c k m : Nat) (M : List VisZ) (va vb : VisZ) (ca cb : Array Value) (done : Nat → Bool) (xs : Nat → Value) (y : World) : Prop where
  b : Below w.heap.size w y
  r0 : done 15 = false → Row y g 57 (M.flatMap visL)
  r1 : done 15 = true → done 17 = false → Row y g 57 ((M.set k vb).flatMap visL)
  r2 : done 17 = true → Row y g 57 (((M.set k vb).set m va).flatMap visL)
  v0 : done 0 = true → xs 0 = .slice (some ⟨g, 0, none⟩) n c
  v1 : done 1 = true → xs 1 = .int .i64 (k : Int)
  v2 : done 2 = true → xs 2 = .slice (some ⟨g, 0, none⟩) n c
  v3 : done 3 = true → xs 3 = .int .i64 (k : Int)
  v4 : done 4 = true → xs 4 = .int .i64 (m : Int)
  v5 : done 5 = true → xs 5 = .slice (some ⟨g, 0, none⟩) n c
  v6 : done 6 = true → xs 6 = .int .i64 (k : Int)
  v7 : done 7 = true → xs 7 = .int .i64 (m : Int)
  v8 : done 8 = true → xs 8 = .pointer (some ⟨g, m * 6, none⟩)
  v9 : done 9 = true → xs 9 = .agg cb
  v10 : done 10 = true → xs 10 = .slice (some ⟨g, 0, none⟩) n c
  v11 : done 11 = true → xs 11 = .int .i64 (k : Int)
  v12 : done 12 = true → xs 12 = .pointer (some ⟨g, k * 6, none⟩)
  v13 : done 13 = true → xs 13 = .agg ca
  v14 : done 14 = true → xs 14 = .pointer (some ⟨g, k * 6, none⟩)
  v16 : done 16 = true → xs 16 = .pointer (some ⟨g, m * 6, none⟩)
set_option maxRecDepth 100000 in
set_option maxHeartbeats 2000000 in
theorem rPlay_any (f : EveZ) (l : List GrpZ) (A A2 : Option Addr) (c c2 B : Nat) (rs : List (Option Addr × Nat)) (w : World) (hB : B ≤ w.heap.size) (hr : Reads w B 5 A f.rides.length (bthCells f.rides)) (hn : f.rides.length ≤ maxLen) (hl : GrpsIn w B A2 rs l) (x9 : RawR) (hp : checkQ f l = 0 → PlayOk f l x9) (hc : checkQ f l = 0) (hlen : x9.vis.length ≤ 1000) :
    Calls Try.prog 22 #[eveV f A c, .slice A2 l.length c2] w fun e w' => ∃ (M : List VisZ) (A3 : Option Addr) (c3 : Nat), e = .returned (.tuple #[.slice A3 M.length c3, .int .i64 0]) ∧ M.Perm x9.vis ∧ M.Pairwise leV ∧ Below w.heap.size w w' ∧ Reads w' w'.heap.size 6 A3 M.length (M.flatMap visL) := by
  obtain ⟨W, hW⟩ : ∃ W, W = w.alloc (.cells #[.slice A f.rides.length c, .int .i64 f.walk] 24) := ⟨_, rfl⟩
  have bW : Below w.heap.size w W := by subst hW; exact (Below.refl _ _).alloc (Nat.le_refl _) _
  have r0 : Row W w.heap.size 24 [.slice A f.rides.length c, .int .i64 f.walk] := by subst hW; exact Row.new w _ _
  have q0 : W.cell? ⟨w.heap.size, 0, none⟩ = some (.slice A f.rides.length c) := r0.cell (j := 0) (by simp)
  have q1 : W.cell? ⟨w.heap.size, 1, none⟩ = some (.int .i64 f.walk) := r0.cell (j := 1) (by simp)
  have lW : w.heap.size < W.heap.size := r0.lt
  have HBW := Lib.hid bW
  have HR0 := Lib.hid r0
  have hBW := Nat.le_trans hB bW.size
  have HC := Lib.hid (rCheck_any f l A A2 c c2 B rs W hBW (hr.below (bW.mono hB)) hn (hl.below (bW.mono hB)))
  have HP := Lib.hid (hp hc)
  have HPL : Hid (∀ X, Below w.heap.size w X → Calls Try.prog 48 #[eveV f A c, .slice A2 l.length c2] X fun e w' => ∃ E : RfE, e = .returned (.pointer (some ⟨E.v, 0, none⟩)) ∧ E.base = X.heap.size ∧ E.f = f ∧ E.l = l ∧ Below X.heap.size X w' ∧ RfAt E w' x9) := fun X hX => by
    obtain ⟨N, hN, hgo⟩ := HP.out.go
    exact rplayed_any f l A A2 c c2 rs X (eve_lens8 hc).1 (eve_lens8 hc).2 ((hr.below (hX.mono hB)).more (Nat.le_trans hB hX.size)) ((hl.below (hX.mono hB)).more (Nat.le_trans hB hX.size)) HP.out.st x9 N hN hgo
  obtain ⟨L, hL⟩ : ∃ L, L = x9.vis := ⟨_, rfl⟩
  rw [← hL] at hlen ⊢
  have HLx := Lib.hid hL
  rw [hc] at HC
  unfold eveV at HC HPL ⊢
  clear hr hl hn r0 bW hp HP hc hL
  go_enter Try.func22, Try.ntmps22
  go_upto_region 1 with (fail)
  rw [← hW]
  clear hW
  go_upto_region 4 with (go_at_call 20; refine HC.out.mono ?_; rintro e w1 ⟨rfl, hb1⟩; have HB1 := Lib.hid hb1; clear hb1 HC)
  have r1 := HR0.out.below HB1.out HR0.out.lt
  have q0 : w1.cell? ⟨w.heap.size, 0, none⟩ = some (.slice A f.rides.length c) := r1.cell (j := 0) (by simp)
  have q1 : w1.cell? ⟨w.heap.size, 1, none⟩ = some (.int .i64 f.walk) := r1.cell (j := 1) (by simp)
  have lW : w.heap.size < w1.heap.size := r1.lt
  have hb1 := HBW.out.trans (HB1.out.mono HBW.out.size)
  have HB2 := Lib.hid hb1
  have HC2 := Lib.hid (HPL.out w1 hb1)
  clear r1 hb1 HPL HB1 HR0 HBW
  go_wp2_with (go_at_call 48; refine HC2.out.mono ?_; rintro e w9 ⟨E, rfl, hEb, hEf, hEl, hb9, qs, uv, hin⟩; have hvis := hin.vis; rw [← HLx.out] at hvis; obtain ⟨uA, uc, hu⟩ := own_slice hvis; subst hu; have v9 : w9.cell? ⟨E.v, 8, none⟩ = some (.slice uA L.length uc) := (hin.pl.cell (j := 8) (by simp [rfL])); have lv9 : E.v < w9.heap.size := hin.pl.lt; rw [hEb] at hvis; have HV := Lib.hid hvis; have HB9 := Lib.hid (HB2.out.trans (hb9.mono HB2.out.size)); have HS9 := Lib.hid HB2.out.size; clear hb9 hin hEf hEl hEb hvis)
  have HL0 : Hid (0 < L.length → ∃ g, uA = some ⟨g, 0, none⟩ ∧ w1.heap.size ≤ g ∧ Row w9 g 57 (L.flatMap visL)) := fun h0 => by
    obtain ⟨g, cap, e, hg, hlt⟩ := World.ownsRow.form HV.out h0
    injection e with e1
    subst e1
    exact ⟨g, rfl, hg, (Row.of_own HV.out).1⟩
  go_loopw [8] (fun i wr => ∃ (j : Nat) (M : List VisZ), 1 ≤ j ∧ i = .int .i64 j ∧ SrtI L M j ∧ (j ≤ L.length ∨ j = 1) ∧ Below w.heap.size w wr ∧ (0 < L.length → ∃ g, uA = some ⟨g, 0, none⟩ ∧ w1.heap.size ≤ g ∧ Row wr g 57 (M.flatMap visL))) (fun i _ => L.length + 1 - (intOf i).toNat)
  case atStart => exact ⟨1, L, Nat.le_refl _, rfl, SrtI.start L, .inr rfl, HB9.out, HL0.out⟩
  case round =>
    obtain ⟨j, M, hj, rfl, hs, hjl, hbel, hrow⟩ := hrel
    have HBw := Lib.hid hbel
    have hML : M.length = L.length := hs.perm.length_eq
    by_cases hlt : j < L.length
    · have hlt' : (j : Int) < (L.length : Int) := by omega
      obtain ⟨g, rfl, hg, hrow⟩ := hrow (by omega)
      have HI := Lib.hid (hs.ins (by omega))
      have HRw := Lib.hid hrow
      have e1 : IntKind.i64.wrap ((j : Int) + 1) = (j : Int) + 1 := IntWalk.i64_in _ (by omega)
      clear hs hbel hrow
      go_upto_region 9 with fail
      go_loopw [9] (fun kv wr => ∃ (k : Nat) (M : List VisZ), kv = .int .i64 k ∧ InsI L M j k ∧ Below w.heap.size w wr ∧ Row wr g 57 (M.flatMap visL)) (fun kv _ => (intOf kv).toNat)
      case atStart => exact ⟨j, M, rfl, HI.out, HBw.out, HRw.out⟩
      case round =>
        obtain ⟨k, M2, rfl, hI, hbel, hrow⟩ := hrel
        have HB3 := Lib.hid hbel
        have HR3 := Lib.hid hrow
        have HI3 := Lib.hid hI
        have hML2 : M2.length = L.length := hI.perm.length_eq
        have hki := hI.ki
        by_cases hk0 : k = 0
        · subst hk0
          clear hbel hrow hI
          go_upto_region 9 with fail
          go_quiet (fail)
          go_wp2_with fail
          go_roundw
          case rel => exact ⟨j + 1, M2, by omega, by go_num, HI3.out.done (fun h => absurd h (by omega)), .inl (by omega), below_drewN HB3.out _, fun _ => ⟨g, rfl, hg, HR3.out.drewN _⟩⟩
          case measure => simp [intOf]; omega
        · obtain ⟨m, hm⟩ : ∃ m, k = m + 1 := ⟨k - 1, by omega⟩
          obtain ⟨a0, a1, a2, a3, a4, a5⟩ := row_vis hrow (k := k) (by omega)
          obtain ⟨b0, b1, b2, b3, b4, b5⟩ := row_vis hrow (k := m) (by omega)
          generalize hva : M2.getD k z0 = va at a0 a1 a2 a3 a4 a5
          generalize hvb : M2.getD m z0 = vb at b0 b1 b2 b3 b4 b5
          have lg := hrow.lt
          have em : IntKind.i64.wrap ((k : Int) - 1) = (m : Int) := by rw [show (k : Int) - 1 = (m : Int) by omega]; exact IntWalk.i64_in _ (by omega)
          have hm0 : ¬ (k : Int) < 0 := by omega
          have hm1 : (k : Int) < (L.length : Int) := by omega
          have hm2 : (m : Int) < (L.length : Int) := by omega
          have hm3 : (0 : Int) < (k : Int) := by omega
          have hk1 : 0 < k := by omega
          have hm5 : k < L.length := by omega
          have hm6 : m < L.length := by omega
          have dk : decide (0 < k) = true := by simpa using hk1
          have HM := Lib.hid hm
          have HBF : Hid (∀ X : World, Calls Try.prog 49 #[visA va, visA vb] X fun e w' => e = .returned (.bool (decide (befV va vb))) ∧ Below X.heap.size X w') := fun X => rbefore_any va vb X
          unfold visA at HBF
          have HVA := Lib.hid hva
          have HVB := Lib.hid hvb
          clear hbel hrow hI hva hvb hm
          by_cases hbf : befV va vb
          · have hd : decide (befV va vb) = true := by simpa using hbf
            rw [hd] at HBF
            go_upto_region 9 with fail
            refine wp_tail 12 (by kernel_rfl) (by kernel_rfl) ?_
            simp only [List.take_succ_cons, List.take_zero, List.drop_succ_cons, List.drop_zero]
            repeat still_step
            refine wpStill_nil ?_
            go_upto_region 11 with (go_at_call 49; refine (HBF.out _).mono ?_; rintro e y ⟨rfl, hy⟩)
            have rY := (HR3.out.drewN 1).below hy lg
            have bY := (below_drewN HB3.out 1).trans (hy.mono (below_drewN HB3.out 1).size)
            have HRY := Lib.hid rY
            have HBY := Lib.hid bY
            have lY := rY.lt
            obtain ⟨ca, hca⟩ : ∃ ca : Array Value, ca = #[.int .i64 va.group, .int .i64 va.want, .int .i64 va.ride, .bool va.on, .int .i64 va.came, .int .i64 va.left] := ⟨_, rfl⟩
            obtain ⟨cb, hcb⟩ : ∃ cb : Array Value, cb = #[.int .i64 vb.group, .int .i64 vb.want, .int .i64 vb.ride, .bool vb.on, .int .i64 vb.came, .int .i64 vb.left] := ⟨_, rfl⟩
            rw [← hca, ← hcb]
            have sa : ca.size = 6 := by rw [hca]; rfl
            have sb : cb.size = 6 := by rw [hcb]; rfl
            have HCA := Lib.hid hca
            have HCB := Lib.hid hcb
            have HLA : Hid (ca.toList = visL va) := by show _ = _; rw [hca]; rfl
            have HLB : Hid (cb.toList = visL vb) := by show _ = _; rw [hcb]; rfl
            have hgw : w.heap.size ≤ g := Nat.le_trans HS9.out hg
            have hB0 := bY
            have hR0 := rY
            clear hca hcb hy rY bY lg a0 a1 a2 a3 a4 a5 b0 b1 b2 b3 b4 b5
            refine wp_region_stepsY 18 (ord := [0, 1, 2, 3, 4, 5, 6, 7, 8, 9, 10, 11, 12, 13, 14, 15, 16, 17]) (ds := [(0, 45), (1, 46), (2, 47), (3, 48), (4, 49), (5, 50), (6, 51), (7, 52), (8, 53), (9, 54), (10, 55), (11, 56), (12, 57), (13, 58), (14, 59), (16, 60)]) (I := SwI w g L.length uc k m M2 va vb ca cb) (by kernel_rfl) (by kernel_rfl) rfl ?iz (StepsY.cons (k := 0) (k' := 1) (o := ⟨some 45, _, _, _, _, _⟩) rfl rfl ?sz0 (StepsY.cons (k := 1) (k' := 2) (o := ⟨some 46, _, _, _, _, _⟩) rfl rfl ?sz1 (StepsY.cons (k := 2) (k' := 3) (o := ⟨some 47, _, _, _, _, _⟩) rfl rfl ?sz2 (StepsY.cons (k := 3) (k' := 4) (o := ⟨some 48, _, _, _, _, _⟩) rfl rfl ?sz3 (StepsY.cons (k := 4) (k' := 5) (o := ⟨some 49, _, _, _, _, _⟩) rfl rfl ?sz4 (StepsY.cons (k := 5) (k' := 6) (o := ⟨some 50, _, _, _, _, _⟩) rfl rfl ?sz5 (StepsY.cons (k := 6) (k' := 7) (o := ⟨some 51, _, _, _, _, _⟩) rfl rfl ?sz6 (StepsY.cons (k := 7) (k' := 8) (o := ⟨some 52, _, _, _, _, _⟩) rfl rfl ?sz7 (StepsY.cons (k := 8) (k' := 9) (o := ⟨some 53, _, _, _, _, _⟩) rfl rfl ?sz8 (StepsY.cons (k := 9) (k' := 10) (o := ⟨some 54, _, _, _, _, _⟩) rfl rfl ?sz9 (StepsY.cons (k := 10) (k' := 11) (o := ⟨some 55, _, _, _, _, _⟩) rfl rfl ?sz10 (StepsY.cons (k := 11) (k' := 12) (o := ⟨some 56, _, _, _, _, _⟩) rfl rfl ?sz11 (StepsY.cons (k := 12) (k' := 13) (o := ⟨some 57, _, _, _, _, _⟩) rfl rfl ?sz12 (StepsY.cons (k := 13) (k' := 14) (o := ⟨some 58, _, _, _, _, _⟩) rfl rfl ?sz13 (StepsY.cons (k := 14) (k' := 15) (o := ⟨some 59, _, _, _, _, _⟩) rfl rfl ?sz14 (StepsY.cons (k := 15) (k' := 16) (o := ⟨none, _, _, _, _, _⟩) rfl rfl ?sz15 (StepsY.cons (k := 16) (k' := 17) (o := ⟨some 60, _, _, _, _, _⟩) rfl rfl ?sz16 (StepsY.cons (k := 17) (k' := 18) (o := ⟨none, _, _, _, _, _⟩) rfl rfl ?sz17 StepsY.nil)))))))))))))))))) ?finz
            case iz => exact fun xs => ⟨hB0.drew, fun _ => hR0.drew, fun h => Bool.noConfusion h, fun h => Bool.noConfusion h, fun h => Bool.noConfusion h, fun h => Bool.noConfusion h, fun h => Bool.noConfusion h, fun h => Bool.noConfusion h, fun h => Bool.noConfusion h, fun h => Bool.noConfusion h, fun h => Bool.noConfusion h, fun h => Bool.noConfusion h, fun h => Bool.noConfusion h, fun h => Bool.noConfusion h, fun h => Bool.noConfusion h, fun h => Bool.noConfusion h, fun h => Bool.noConfusion h, fun h => Bool.noConfusion h, fun h => Bool.noConfusion h, fun h => Bool.noConfusion h⟩
            case sz0 =>
              intro xs done y hI hd0 hup hdn K hK
              refine wpOp_go (o := ⟨some 45, _, _, _, _, _⟩) rfl rfl ?_
              simp only [putsF, List.foldl_cons, List.foldl_nil, Act.put, List.setIfInBounds_toArray, List.set_cons_zero, List.set_cons_succ] at hK ⊢
              go_wp2_with fail
              exact hK.out _ _ ⟨hI.b, hI.r0, hI.r1, hI.r2, fun _ => rfl, hI.v1, hI.v2, hI.v3, hI.v4, hI.v5, hI.v6, hI.v7, hI.v8, hI.v9, hI.v10, hI.v11, hI.v12, hI.v13, hI.v14, hI.v16⟩
            case sz1 =>
              intro xs done y hI hd0 hup hdn K hK
              refine wpOp_go (o := ⟨some 46, _, _, _, _, _⟩) rfl rfl ?_
              simp only [putsF, List.foldl_cons, List.foldl_nil, Act.put, List.setIfInBounds_toArray, List.set_cons_zero, List.set_cons_succ] at hK ⊢
              go_wp2_with fail
              exact hK.out _ _ ⟨hI.b, hI.r0, hI.r1, hI.r2, hI.v0, fun _ => rfl, hI.v2, hI.v3, hI.v4, hI.v5, hI.v6, hI.v7, hI.v8, hI.v9, hI.v10, hI.v11, hI.v12, hI.v13, hI.v14, hI.v16⟩
            case sz2 =>
              intro xs done y hI hd0 hup hdn K hK
              refine wpOp_go (o := ⟨some 47, _, _, _, _, _⟩) rfl rfl ?_
              simp only [putsF, List.foldl_cons, List.foldl_nil, Act.put, List.setIfInBounds_toArray, List.set_cons_zero, List.set_cons_succ] at hK ⊢
              go_wp2_with fail
              exact hK.out _ _ ⟨hI.b, hI.r0, hI.r1, hI.r2, hI.v0, hI.v1, fun _ => rfl, hI.v3, hI.v4, hI.v5, hI.v6, hI.v7, hI.v8, hI.v9, hI.v10, hI.v11, hI.v12, hI.v13, hI.v14, hI.v16⟩
            case sz3 =>
              intro xs done y hI hd0 hup hdn K hK
              refine wpOp_go (o := ⟨some 48, _, _, _, _, _⟩) rfl rfl ?_
              simp only [putsF, List.foldl_cons, List.foldl_nil, Act.put, List.setIfInBounds_toArray, List.set_cons_zero, List.set_cons_succ] at hK ⊢
              go_wp2_with fail
              exact hK.out _ _ ⟨hI.b, hI.r0, hI.r1, hI.r2, hI.v0, hI.v1, hI.v2, fun _ => rfl, hI.v4, hI.v5, hI.v6, hI.v7, hI.v8, hI.v9, hI.v10, hI.v11, hI.v12, hI.v13, hI.v14, hI.v16⟩
            case sz4 =>
              intro xs done y hI hd0 hup hdn K hK
              refine wpOp_go (o := ⟨some 49, _, _, _, _, _⟩) rfl rfl ?_
              have e3 := hI.v3 (hdn 3 (by kernel_rfl))
              simp only [putsF, List.foldl_cons, List.foldl_nil, Act.put, List.setIfInBounds_toArray, List.set_cons_zero, List.set_cons_succ] at hK ⊢
              simp only [e3] at hK ⊢
              go_wp2_with fail
              exact hK.out _ _ ⟨hI.b, hI.r0, hI.r1, hI.r2, hI.v0, hI.v1, hI.v2, hI.v3, fun _ => rfl, hI.v5, hI.v6, hI.v7, hI.v8, hI.v9, hI.v10, hI.v11, hI.v12, hI.v13, hI.v14, hI.v16⟩
            case sz5 =>
              intro xs done y hI hd0 hup hdn K hK
              refine wpOp_go (o := ⟨some 50, _, _, _, _, _⟩) rfl rfl ?_
              simp only [putsF, List.foldl_cons, List.foldl_nil, Act.put, List.setIfInBounds_toArray, List.set_cons_zero, List.set_cons_succ] at hK ⊢
              go_wp2_with fail
              exact hK.out _ _ ⟨hI.b, hI.r0, hI.r1, hI.r2, hI.v0, hI.v1, hI.v2, hI.v3, hI.v4, fun _ => rfl, hI.v6, hI.v7, hI.v8, hI.v9, hI.v10, hI.v11, hI.v12, hI.v13, hI.v14, hI.v16⟩
            case sz6 =>
              intro xs done y hI hd0 hup hdn K hK
              refine wpOp_go (o := ⟨some 51, _, _, _, _, _⟩) rfl rfl ?_
              simp only [putsF, List.foldl_cons, List.foldl_nil, Act.put, List.setIfInBounds_toArray, List.set_cons_zero, List.set_cons_succ] at hK ⊢
              go_wp2_with fail
              exact hK.out _ _ ⟨hI.b, hI.r0, hI.r1, hI.r2, hI.v0, hI.v1, hI.v2, hI.v3, hI.v4, hI.v5, fun _ => rfl, hI.v7, hI.v8, hI.v9, hI.v10, hI.v11, hI.v12, hI.v13, hI.v14, hI.v16⟩
            case sz7 =>
              intro xs done y hI hd0 hup hdn K hK
              refine wpOp_go (o := ⟨some 52, _, _, _, _, _⟩) rfl rfl ?_
              have e6 := hI.v6 (hdn 6 (by kernel_rfl))
              simp only [putsF, List.foldl_cons, List.foldl_nil, Act.put, List.setIfInBounds_toArray, List.set_cons_zero, List.set_cons_succ] at hK ⊢
              simp only [e6] at hK ⊢
              go_wp2_with fail
              exact hK.out _ _ ⟨hI.b, hI.r0, hI.r1, hI.r2, hI.v0, hI.v1, hI.v2, hI.v3, hI.v4, hI.v5, hI.v6, fun _ => rfl, hI.v8, hI.v9, hI.v10, hI.v11, hI.v12, hI.v13, hI.v14, hI.v16⟩
            case sz8 =>
              intro xs done y hI hd0 hup hdn K hK
              refine wpOp_go (o := ⟨some 53, _, _, _, _, _⟩) rfl rfl ?_
              have e5 := hI.v5 (hdn 5 (by kernel_rfl))
              have e7 := hI.v7 (hdn 7 (by kernel_rfl))
              simp only [putsF, List.foldl_cons, List.foldl_nil, Act.put, List.setIfInBounds_toArray, List.set_cons_zero, List.set_cons_succ] at hK ⊢
              simp only [e5, e7] at hK ⊢
              go_wp2_with fail
              exact hK.out _ _ ⟨hI.b, hI.r0, hI.r1, hI.r2, hI.v0, hI.v1, hI.v2, hI.v3, hI.v4, hI.v5, hI.v6, hI.v7, fun _ => rfl, hI.v9, hI.v10, hI.v11, hI.v12, hI.v13, hI.v14, hI.v16⟩
            case sz9 =>
              intro xs done y hI hd0 hup hdn K hK
              refine wpOp_go (o := ⟨some 54, _, _, _, _, _⟩) rfl rfl ?_
              have e8 := hI.v8 (hdn 8 (by kernel_rfl))
              have hr0 := hI.r0 (hup 15 (by kernel_rfl))
              have hrv := row_vis hr0 (k := m) (by omega)
              rw [HVB.out] at hrv
              have lg := hr0.lt
              simp only [putsF, List.foldl_cons, List.foldl_nil, Act.put, List.setIfInBounds_toArray, List.set_cons_zero, List.set_cons_succ] at hK ⊢
              obtain ⟨b0, b1, b2, b3, b4, b5⟩ := hrv
              clear hr0
              simp only [e8] at hK ⊢
              go_wp2_with fail
              exact hK.out _ _ ⟨hI.b, hI.r0, hI.r1, hI.r2, hI.v0, hI.v1, hI.v2, hI.v3, hI.v4, hI.v5, hI.v6, hI.v7, hI.v8, fun _ => (congrArg Value.agg HCB.out).symm, hI.v10, hI.v11, hI.v12, hI.v13, hI.v14, hI.v16⟩
            case sz10 =>
              intro xs done y hI hd0 hup hdn K hK
              refine wpOp_go (o := ⟨some 55, _, _, _, _, _⟩) rfl rfl ?_
              simp only [putsF, List.foldl_cons, List.foldl_nil, Act.put, List.setIfInBounds_toArray, List.set_cons_zero, List.set_cons_succ] at hK ⊢
              go_wp2_with fail
              exact hK.out _ _ ⟨hI.b, hI.r0, hI.r1, hI.r2, hI.v0, hI.v1, hI.v2, hI.v3, hI.v4, hI.v5, hI.v6, hI.v7, hI.v8, hI.v9, fun _ => rfl, hI.v11, hI.v12, hI.v13, hI.v14, hI.v16⟩
            case sz11 =>
              intro xs done y hI hd0 hup hdn K hK
              refine wpOp_go (o := ⟨some 56, _, _, _, _, _⟩) rfl rfl ?_
              simp only [putsF, List.foldl_cons, List.foldl_nil, Act.put, List.setIfInBounds_toArray, List.set_cons_zero, List.set_cons_succ] at hK ⊢
              go_wp2_with fail
              exact hK.out _ _ ⟨hI.b, hI.r0, hI.r1, hI.r2, hI.v0, hI.v1, hI.v2, hI.v3, hI.v4, hI.v5, hI.v6, hI.v7, hI.v8, hI.v9, hI.v10, fun _ => rfl, hI.v12, hI.v13, hI.v14, hI.v16⟩
            case sz12 =>
              intro xs done y hI hd0 hup hdn K hK
              refine wpOp_go (o := ⟨some 57, _, _, _, _, _⟩) rfl rfl ?_
              have e10 := hI.v10 (hdn 10 (by kernel_rfl))
              have e11 := hI.v11 (hdn 11 (by kernel_rfl))
              simp only [putsF, List.foldl_cons, List.foldl_nil, Act.put, List.setIfInBounds_toArray, List.set_cons_zero, List.set_cons_succ] at hK ⊢
              simp only [e10, e11] at hK ⊢
              go_wp2_with fail
              exact hK.out _ _ ⟨hI.b, hI.r0, hI.r1, hI.r2, hI.v0, hI.v1, hI.v2, hI.v3, hI.v4, hI.v5, hI.v6, hI.v7, hI.v8, hI.v9, hI.v10, hI.v11, fun _ => rfl, hI.v13, hI.v14, hI.v16⟩
            case sz13 =>
              intro xs done y hI hd0 hup hdn K hK
              refine wpOp_go (o := ⟨some 58, _, _, _, _, _⟩) rfl rfl ?_
              have e12 := hI.v12 (hdn 12 (by kernel_rfl))
              have hr0 := hI.r0 (hup 15 (by kernel_rfl))
              have hrv := row_vis hr0 (k := k) (by omega)
              rw [HVA.out] at hrv
              have lg := hr0.lt
              simp only [putsF, List.foldl_cons, List.foldl_nil, Act.put, List.setIfInBounds_toArray, List.set_cons_zero, List.set_cons_succ] at hK ⊢
              obtain ⟨b0, b1, b2, b3, b4, b5⟩ := hrv
              clear hr0
              simp only [e12] at hK ⊢
              go_wp2_with fail
              exact hK.out _ _ ⟨hI.b, hI.r0, hI.r1, hI.r2, hI.v0, hI.v1, hI.v2, hI.v3, hI.v4, hI.v5, hI.v6, hI.v7, hI.v8, hI.v9, hI.v10, hI.v11, hI.v12, fun _ => (congrArg Value.agg HCA.out).symm, hI.v14, hI.v16⟩
            case sz14 =>
              intro xs done y hI hd0 hup hdn K hK
              refine wpOp_go (o := ⟨some 59, _, _, _, _, _⟩) rfl rfl ?_
              have e0 := hI.v0 (hdn 0 (by kernel_rfl))
              have e1 := hI.v1 (hdn 1 (by kernel_rfl))
              simp only [putsF, List.foldl_cons, List.foldl_nil, Act.put, List.setIfInBounds_toArray, List.set_cons_zero, List.set_cons_succ] at hK ⊢
              simp only [e0, e1] at hK ⊢
              go_wp2_with fail
              exact hK.out _ _ ⟨hI.b, hI.r0, hI.r1, hI.r2, hI.v0, hI.v1, hI.v2, hI.v3, hI.v4, hI.v5, hI.v6, hI.v7, hI.v8, hI.v9, hI.v10, hI.v11, hI.v12, hI.v13, fun _ => rfl, hI.v16⟩
            case sz15 =>
              intro xs done y hI hd0 hup hdn K hK
              refine wpOp_go (o := ⟨none, _, _, _, _, _⟩) rfl rfl ?_
              have e14 := hI.v14 (hdn 14 (by kernel_rfl))
              have e9 := hI.v9 (hdn 9 (by kernel_rfl))
              have hr0 := hI.r0 hd0
              have hsv := store_vis (P := Try.prog) hr0 (k := k) (by omega) vb
              have hbb := below_setCells hI.b hgw (visL vb) (k * 6)
              simp only [putsF, List.foldl_cons, List.foldl_nil, Act.put, List.setIfInBounds_toArray, List.set_cons_zero, List.set_cons_succ] at hK ⊢
              obtain ⟨hst, hrow⟩ := hsv
              simp only [e14, e9] at hK ⊢
              go_wp2_with fail
              rw [HLB.out, hst]
              simp only [Result.andThen_ok]
              rw [Oper.upon_skip]
              exact hK.out undef _ ⟨hbb, (fun h => Bool.noConfusion h), (fun _ _ => hrow), (fun h => Bool.noConfusion ((hup 17 (by kernel_rfl)).symm.trans h)), hI.v0, hI.v1, hI.v2, hI.v3, hI.v4, hI.v5, hI.v6, hI.v7, hI.v8, hI.v9, hI.v10, hI.v11, hI.v12, hI.v13, hI.v14, hI.v16⟩
            case sz16 =>
              intro xs done y hI hd0 hup hdn K hK
              refine wpOp_go (o := ⟨some 60, _, _, _, _, _⟩) rfl rfl ?_
              have e2 := hI.v2 (hdn 2 (by kernel_rfl))
              have e4 := hI.v4 (hdn 4 (by kernel_rfl))
              simp only [putsF, List.foldl_cons, List.foldl_nil, Act.put, List.setIfInBounds_toArray, List.set_cons_zero, List.set_cons_succ] at hK ⊢
              simp only [e2, e4] at hK ⊢
              go_wp2_with fail
              exact hK.out _ _ ⟨hI.b, hI.r0, hI.r1, hI.r2, hI.v0, hI.v1, hI.v2, hI.v3, hI.v4, hI.v5, hI.v6, hI.v7, hI.v8, hI.v9, hI.v10, hI.v11, hI.v12, hI.v13, hI.v14, fun _ => rfl⟩
            case sz17 =>
              intro xs done y hI hd0 hup hdn K hK
              refine wpOp_go (o := ⟨none, _, _, _, _, _⟩) rfl rfl ?_
              have e16 := hI.v16 (hdn 16 (by kernel_rfl))
              have e13 := hI.v13 (hdn 13 (by kernel_rfl))
              have hr1 := hI.r1 (hdn 15 (by kernel_rfl)) hd0
              have hsv := store_vis (P := Try.prog) hr1 (k := m) (by rw [List.length_set]; omega) va
              have hbb := below_setCells hI.b hgw (visL va) (m * 6)
              simp only [putsF, List.foldl_cons, List.foldl_nil, Act.put, List.setIfInBounds_toArray, List.set_cons_zero, List.set_cons_succ] at hK ⊢
              obtain ⟨hst, hrow⟩ := hsv
              simp only [e16, e13] at hK ⊢
              go_wp2_with fail
              rw [HLA.out, hst]
              simp only [Result.andThen_ok]
              rw [Oper.upon_skip]
              exact hK.out undef _ ⟨hbb, (fun h => Bool.noConfusion ((hdn 15 (by kernel_rfl)).symm.trans h)), (fun _ h => Bool.noConfusion h), (fun _ => hrow), hI.v0, hI.v1, hI.v2, hI.v3, hI.v4, hI.v5, hI.v6, hI.v7, hI.v8, hI.v9, hI.v10, hI.v11, hI.v12, hI.v13, hI.v14, hI.v16⟩
            case finz =>
              intro xs done z hI hd
              have hz := hI.r2 (hd 17 (by omega))
              have hb := hI.b
              have HZ := Lib.hid hz
              have HBZ := Lib.hid hb
              clear hI hz hb
              simp only [putsF, List.foldl_cons, List.foldl_nil, Act.put, List.setIfInBounds_toArray, List.set_cons_zero, List.set_cons_succ]
              go_wp2_with fail
              have hkm : k - 1 = m := by have := HM.out; omega
              have hIs : InsI L ((M2.set k vb).set m va) j m := by
                have h5 := HI3.out.swap hk1 (by rw [hkm, HVA.out, HVB.out]; exact hbf)
                unfold swpV at h5
                rw [hkm, HVA.out, HVB.out] at h5
                exact h5
              have HIs := Lib.hid hIs
              clear hIs
              go_roundw
              case rel => exact ⟨m, (M2.set k vb).set m va, rfl, HIs.out, HBZ.out, HZ.out⟩
              case measure => simp [intOf]; omega
          · have hd : decide (befV va vb) = false := by simpa using hbf
            rw [hd] at HBF
            go_upto_region 9 with fail
            refine wp_tail 12 (by kernel_rfl) (by kernel_rfl) ?_
            simp only [List.take_succ_cons, List.take_zero, List.drop_succ_cons, List.drop_zero]
            repeat still_step
            refine wpStill_nil ?_
            go_wp2_with (go_at_call 49; refine (HBF.out _).mono ?_; rintro e y ⟨rfl, hy⟩; have HRY := Lib.hid ((HR3.out.drewN 1).below hy lg); have HBY := Lib.hid ((below_drewN HB3.out 1).trans (hy.mono (below_drewN HB3.out 1).size)); clear hy)
            go_roundw
            case rel => exact ⟨j + 1, M2, by omega, by go_num, HI3.out.done (fun _ => by rw [show k - 1 = m by have := HM.out; omega, HVA.out, HVB.out]; exact hbf), .inl (by omega), HBY.out, fun _ => ⟨g, rfl, hg, HRY.out⟩⟩
            case measure => simp [intOf]; omega
    · have hge : ¬ (j : Int) < (L.length : Int) := by omega
      have HS := Lib.hid hs
      have HRo := Lib.hid hrow
      clear hs hrow hbel
      go_wp2_with fail
      go_ret2
      refine ⟨M, uA, ⟨uc, by rw [hML]; rfl⟩, HS.out.perm, HS.out.pair (by omega), HBw.out, ?_⟩
      rw [hML]
      rcases Nat.eq_zero_or_pos L.length with h0 | h0
      · have hM : M = [] := List.eq_nil_of_length_eq_zero (by omega)
        rw [h0, hM]
        exact ⟨by simp, fun h => absurd h (by omega)⟩
      · obtain ⟨g, rfl, _, hr5⟩ := HRo.out h0
        exact hr5.reads (by rw [vis_len, hML]) hr5.lt
end Go.Proofs.Ytijbhcdnbaaobaa
/- Contracts of the law's sameVisits and sameGroups at equal lists. Conditions: the lists read as data. -/
namespace Go.Proofs.Ytijbhcdnbaaobaa
open Go.RowKit

set_option maxRecDepth 100000 in
set_option maxHeartbeats 1000000 in
theorem sameVisits_eq (L : List VisZ) (A A' : Option Addr) (c c' B B' : Nat) (w : World) (hr : Reads w B 6 A L.length (L.flatMap visL)) (hs : Reads w B' 6 A' L.length (L.flatMap visL)) (hB : B ≤ w.heap.size) (hB' : B' ≤ w.heap.size) (hm : L.length ≤ 1000) :
    Calls Try.prog 23 #[.slice A L.length c, .slice A' L.length c'] w fun e w' => e = .returned (.bool true) ∧ Below w.heap.size w w' := by
  have HR := Lib.hid hr
  have HS := Lib.hid hs
  clear hr hs
  go_enter Try.func23, Try.ntmps23
  go_wp2_with fail
  go_loopw [5] (fun i wr => ∃ k : Nat, k ≤ L.length ∧ i = .int .i64 k ∧ Below w.heap.size w wr) (fun i _ => L.length - (intOf i).toNat)
  case atStart => exact ⟨0, Nat.zero_le _, rfl, Below.refl _ _⟩
  case round =>
    obtain ⟨k, hk, rfl, hbel⟩ := hrel
    have HB := Lib.hid hbel
    by_cases hlt : k < L.length
    · have hlt' : (k : Int) < (L.length : Int) := by omega
      obtain ⟨b, o, rfl, hb, t0, t1, t2, t3, t4, t5⟩ := vis_at (HR.out.below (hbel.mono hB)) hlt
      obtain ⟨b', o', rfl, hb', s0, s1, s2, s3, s4, s5⟩ := vis_at (HS.out.below (hbel.mono hB')) hlt
      have lb : b < wr.heap.size := Nat.lt_of_lt_of_le (Nat.lt_of_lt_of_le hb hB) hbel.size
      have lb' : b' < wr.heap.size := Nat.lt_of_lt_of_le (Nat.lt_of_lt_of_le hb' hB') hbel.size
      have e1 : IntKind.i64.wrap ((k : Int) + 1) = (k : Int) + 1 := IntWalk.i64_in _ (by omega)
      generalize L[k] = v at t0 t1 t2 t3 t4 t5 s0 s1 s2 s3 s4 s5
      clear hbel
      go_upto_region 6 with fail
      go_quiet (fail)
      go_wp2_with fail
      go_roundw
      case rel => exact ⟨k + 1, by omega, by go_num, below_drewN HB.out _⟩
      case measure => simp [intOf]; omega
    · have hge : ¬ (k : Int) < (L.length : Int) := by omega
      go_wp2_with fail
      go_ret
      exact ⟨rfl, HB.out⟩
theorem row_far {g g' : Nat} {t : TypeId} {xs : List Value} : ∀ {w : World}, Row w g t xs → g ≠ g' → ∀ (vs : List Value) (o : Nat), Row (w.setCells g' o vs) g t xs := by
  intro w h hg vs
  induction vs generalizing w with
  | nil => intro o; exact h
  | cons v vs ih => intro o; exact ih (h.far (p := ⟨g', o, none⟩) hg v) (o + 1)
theorem setL_all : ∀ (vs xs : List Value), xs.length = vs.length → setL xs 0 vs = vs := fun vs xs h => by
  refine List.ext_getElem? fun i => ?_
  rw [setL_at]
  by_cases hi : i < xs.length
  · rw [if_pos (by omega), Nat.sub_zero]
  · rw [if_neg (by omega), List.getElem?_eq_none (by omega), List.getElem?_eq_none (by omega)]
/-- A whole row is stored. -/
theorem store_row5 {P : Program} {y : World} {g : Nat} {t : TypeId} {xs vs : List Value} (h : Row y g t xs) (h5 : xs.length = 5) (hl : vs.length = 5) (h1 : ∀ v ∈ vs, v.oneCell' = true) : Sem.run P (storeCells ⟨g, 0, none⟩ vs) y = .ok () (y.setCells g 0 vs) ∧ Row (y.setCells g 0 vs) g t vs := by
  constructor
  · exact run_storeCells_cells (P := P) g 0 vs 0 y (fun j hj => by
      rw [h.cell (j := 0 + 0 + j) (by omega), List.getElem?_eq_getElem (by omega)]
      rfl) (fun j _ => h.frozen _) h1
  · have := row_setCells vs 0 y xs h
    rw [setL_all vs xs (by omega)] at this
    exact this
structure SgI (w : World) (b o b' o' n c c' k : Nat) (ca cb : Array Value) (done : Nat → Bool) (xs : Nat → Value) (y : World) : Prop where
  b0 : Below w.heap.size w y
  m8 : done 8 = true → ∃ g : Nat, xs 8 = .pointer (some ⟨g, 0, none⟩) ∧ w.heap.size ≤ g ∧ (done 10 = false → Row y g 55 [.int .i64 0, .int .i64 0, .int .i64 0, .slice none 0 0, .int .i64 0]) ∧ (done 10 = true → Row y g 55 ca.toList)
  m9 : done 9 = true → ∃ g : Nat, xs 9 = .pointer (some ⟨g, 0, none⟩) ∧ w.heap.size ≤ g ∧ (done 8 = true → xs 8 ≠ .pointer (some ⟨g, 0, none⟩)) ∧ (done 11 = false → Row y g 55 [.int .i64 0, .int .i64 0, .int .i64 0, .slice none 0 0, .int .i64 0]) ∧ (done 11 = true → Row y g 55 cb.toList)
  v0 : done 0 = true → xs 0 = .slice (some ⟨b, o, none⟩) n c
  v1 : done 1 = true → xs 1 = .int .i64 (k : Int)
  v2 : done 2 = true → xs 2 = .pointer (some ⟨b, o + k * 5, none⟩)
  v3 : done 3 = true → xs 3 = .agg ca
  v4 : done 4 = true → xs 4 = .slice (some ⟨b', o', none⟩) n c'
  v5 : done 5 = true → xs 5 = .int .i64 (k : Int)
  v6 : done 6 = true → xs 6 = .pointer (some ⟨b', o' + k * 5, none⟩)
  v7 : done 7 = true → xs 7 = .agg cb
set_option maxRecDepth 100000 in
set_option maxHeartbeats 1000000 in
theorem sameGroups_eq (l : List GrpZ) (A A' : Option Addr) (c c' B B' : Nat) (rs rs' : List (Option Addr × Nat)) (w : World) (hr : GrpsIn w B A rs l) (hs : GrpsIn w B' A' rs' l) (hB : B ≤ w.heap.size) (hB' : B' ≤ w.heap.size) (hm : l.length ≤ 1000) (hw : ∀ i, i < l.length → (l.getD i default).wants.length ≤ 1000) :
    Calls Try.prog 24 #[.slice A l.length c, .slice A' l.length c'] w fun e w' => e = .returned (.bool true) ∧ Below w.heap.size w w' := by
  have HR := Lib.hid hr
  have HS := Lib.hid hs
  have HW : Hid (∀ i, i < l.length → (l.getD i default).wants.length ≤ 1000) := hw
  clear hr hs hw
  go_enter Try.func24, Try.ntmps24
  go_wp2_with fail
  go_loopw [5] (fun i wr => ∃ k : Nat, k ≤ l.length ∧ i = .int .i64 k ∧ Below w.heap.size w wr) (fun i _ => l.length - (intOf i).toNat)
  case atStart => exact ⟨0, Nat.zero_le _, rfl, Below.refl _ _⟩
  case round =>
    obtain ⟨k, hk, rfl, hbel⟩ := hrel
    have HB := Lib.hid hbel
    by_cases hlt : k < l.length
    · have hlt' : (k : Int) < (l.length : Int) := by omega
      have hx := HR.out.below (hbel.mono hB)
      have hy := HS.out.below (hbel.mono hB')
      obtain ⟨b, o, rfl, hb, hcs⟩ := hx.outer (by omega)
      obtain ⟨b', o', rfl, hb', hcs'⟩ := hy.outer (by omega)
      obtain ⟨t0, t1, t2, t3, t4⟩ := hcs k hlt
      obtain ⟨s0, s1, s2, s3, s4⟩ := hcs' k hlt
      have hix := hx.inner k hlt
      have hiy := hy.inner k hlt
      have hwk := HW.out k hlt
      have lb : b < wr.heap.size := Nat.lt_of_lt_of_le (Nat.lt_of_lt_of_le hb hB) hbel.size
      have lb' : b' < wr.heap.size := Nat.lt_of_lt_of_le (Nat.lt_of_lt_of_le hb' hB') hbel.size
      have hBw : B ≤ wr.heap.size := Nat.le_trans hB hbel.size
      have hBw' : B' ≤ wr.heap.size := Nat.le_trans hB' hbel.size
      have e1 : IntKind.i64.wrap ((k : Int) + 1) = (k : Int) + 1 := IntWalk.i64_in _ (by omega)
      generalize l.getD k default = v at t0 t1 t2 t3 t4 s0 s1 s2 s3 s4 hix hiy hwk
      generalize rs.getD k default = r at t3 hix
      generalize rs'.getD k default = r' at s3 hiy
      have HSI : Hid (∀ X, Below wr.heap.size wr X → Calls Try.prog 29 #[.slice r.1 v.wants.length r.2, .slice r'.1 v.wants.length r'.2] X fun e w' => e = .returned (.bool true) ∧ Below X.heap.size X w') := fun X hX => sameInts_eq v.wants r.1 r'.1 r.2 r'.2 B B' X (hix.below (hX.mono hBw)) (hiy.below (hX.mono hBw')) (Nat.le_trans hBw hX.size) (Nat.le_trans hBw' hX.size) hwk
      obtain ⟨ca, hca⟩ : ∃ ca : Array Value, ca = #[.int .i64 v.at_, .int .i64 v.size, .int .i64 v.tokens, .slice r.1 v.wants.length r.2, .int .i64 v.patience] := ⟨_, rfl⟩
      obtain ⟨cb, hcb⟩ : ∃ cb : Array Value, cb = #[.int .i64 v.at_, .int .i64 v.size, .int .i64 v.tokens, .slice r'.1 v.wants.length r'.2, .int .i64 v.patience] := ⟨_, rfl⟩
      have sa : ca.size = 5 := by rw [hca]; rfl
      have sb : cb.size = 5 := by rw [hcb]; rfl
      have HCA := Lib.hid hca
      have HCB := Lib.hid hcb
      have HSA : Hid (ca.toList.length = 5) := by show _ = _; rw [hca]; rfl
      have HSB : Hid (cb.toList.length = 5) := by show _ = _; rw [hcb]; rfl
      have HOA : Hid (∀ v ∈ ca.toList, v.oneCell' = true) := fun u hu => by
        rw [hca] at hu
        simp only [List.mem_cons, List.not_mem_nil, or_false] at hu
        rcases hu with rfl | rfl | rfl | rfl | rfl <;> rfl
      have HOB : Hid (∀ v ∈ cb.toList, v.oneCell' = true) := fun u hu => by
        rw [hcb] at hu
        simp only [List.mem_cons, List.not_mem_nil, or_false] at hu
        rcases hu with rfl | rfl | rfl | rfl | rfl <;> rfl
      clear hbel hx hy hcs hcs' hix hiy hca hcb
      go_upto_region 6 with fail
      refine wp_region_stepsY 12 (ord := [0, 1, 2, 3, 4, 5, 6, 7, 8, 9, 10, 11]) (ds := [(0, 19), (1, 20), (2, 21), (3, 22), (4, 23), (5, 24), (6, 25), (7, 26), (8, 6), (9, 7)]) (I := SgI wr b o b' o' l.length c c' k ca cb) (by kernel_rfl) (by kernel_rfl) rfl ?iz (StepsY.cons (k := 0) (k' := 1) (o := ⟨some 19, _, _, _, _, _⟩) rfl rfl ?sz0 (StepsY.cons (k := 1) (k' := 2) (o := ⟨some 20, _, _, _, _, _⟩) rfl rfl ?sz1 (StepsY.cons (k := 2) (k' := 3) (o := ⟨some 21, _, _, _, _, _⟩) rfl rfl ?sz2 (StepsY.cons (k := 3) (k' := 4) (o := ⟨some 22, _, _, _, _, _⟩) rfl rfl ?sz3 (StepsY.cons (k := 4) (k' := 5) (o := ⟨some 23, _, _, _, _, _⟩) rfl rfl ?sz4 (StepsY.cons (k := 5) (k' := 6) (o := ⟨some 24, _, _, _, _, _⟩) rfl rfl ?sz5 (StepsY.cons (k := 6) (k' := 7) (o := ⟨some 25, _, _, _, _, _⟩) rfl rfl ?sz6 (StepsY.cons (k := 7) (k' := 8) (o := ⟨some 26, _, _, _, _, _⟩) rfl rfl ?sz7 (StepsY.cons (k := 8) (k' := 9) (o := ⟨some 6, _, _, _, _, _⟩) rfl rfl ?sz8 (StepsY.cons (k := 9) (k' := 10) (o := ⟨some 7, _, _, _, _, _⟩) rfl rfl ?sz9 (StepsY.cons (k := 10) (k' := 11) (o := ⟨none, _, _, _, _, _⟩) rfl rfl ?sz10 (StepsY.cons (k := 11) (k' := 12) (o := ⟨none, _, _, _, _, _⟩) rfl rfl ?sz11 StepsY.nil)))))))))))) ?finz
      case iz => exact fun xs => ⟨(Below.refl _ _).drew, fun h => Bool.noConfusion h, fun h => Bool.noConfusion h, fun h => Bool.noConfusion h, fun h => Bool.noConfusion h, fun h => Bool.noConfusion h, fun h => Bool.noConfusion h, fun h => Bool.noConfusion h, fun h => Bool.noConfusion h, fun h => Bool.noConfusion h, fun h => Bool.noConfusion h⟩
      case sz0 =>
        intro xs done y hI hd0 hup hdn K hK
        refine wpOp_go (o := ⟨some 19, _, _, _, _, _⟩) rfl rfl ?_
        simp only [putsF, List.foldl_cons, List.foldl_nil, Act.put, List.setIfInBounds_toArray, List.set_cons_zero, List.set_cons_succ] at hK ⊢
        go_wp2_with fail
        exact hK.out _ _ ⟨hI.b0, hI.m8, hI.m9, fun _ => rfl, hI.v1, hI.v2, hI.v3, hI.v4, hI.v5, hI.v6, hI.v7⟩
      case sz1 =>
        intro xs done y hI hd0 hup hdn K hK
        refine wpOp_go (o := ⟨some 20, _, _, _, _, _⟩) rfl rfl ?_
        simp only [putsF, List.foldl_cons, List.foldl_nil, Act.put, List.setIfInBounds_toArray, List.set_cons_zero, List.set_cons_succ] at hK ⊢
        go_wp2_with fail
        exact hK.out _ _ ⟨hI.b0, hI.m8, hI.m9, hI.v0, fun _ => rfl, hI.v2, hI.v3, hI.v4, hI.v5, hI.v6, hI.v7⟩
      case sz2 =>
        intro xs done y hI hd0 hup hdn K hK
        refine wpOp_go (o := ⟨some 21, _, _, _, _, _⟩) rfl rfl ?_
        have e0 := hI.v0 (hdn 0 (by kernel_rfl))
        have e1 := hI.v1 (hdn 1 (by kernel_rfl))
        simp only [putsF, List.foldl_cons, List.foldl_nil, Act.put, List.setIfInBounds_toArray, List.set_cons_zero, List.set_cons_succ] at hK ⊢
        simp only [e0, e1] at hK ⊢
        go_wp2_with fail
        exact hK.out _ _ ⟨hI.b0, hI.m8, hI.m9, hI.v0, hI.v1, fun _ => rfl, hI.v3, hI.v4, hI.v5, hI.v6, hI.v7⟩
      case sz3 =>
        intro xs done y hI hd0 hup hdn K hK
        refine wpOp_go (o := ⟨some 22, _, _, _, _, _⟩) rfl rfl ?_
        have e2 := hI.v2 (hdn 2 (by kernel_rfl))
        simp only [putsF, List.foldl_cons, List.foldl_nil, Act.put, List.setIfInBounds_toArray, List.set_cons_zero, List.set_cons_succ] at hK ⊢
        simp only [e2] at hK ⊢
        have t0 := (hI.b0.cell (p := ⟨b, o + k * 5, none⟩) lb).trans t0
        have t1 := (hI.b0.cell (p := ⟨b, o + k * 5 + 1, none⟩) lb).trans t1
        have t2 := (hI.b0.cell (p := ⟨b, o + k * 5 + 2, none⟩) lb).trans t2
        have t3 := (hI.b0.cell (p := ⟨b, o + k * 5 + 3, none⟩) lb).trans t3
        have t4 := (hI.b0.cell (p := ⟨b, o + k * 5 + 4, none⟩) lb).trans t4
        have lb := Nat.lt_of_lt_of_le lb hI.b0.size
        go_wp2_with fail
        exact hK.out _ _ ⟨hI.b0, hI.m8, hI.m9, hI.v0, hI.v1, hI.v2, fun _ => (congrArg Value.agg HCA.out).symm, hI.v4, hI.v5, hI.v6, hI.v7⟩
      case sz4 =>
        intro xs done y hI hd0 hup hdn K hK
        refine wpOp_go (o := ⟨some 23, _, _, _, _, _⟩) rfl rfl ?_
        simp only [putsF, List.foldl_cons, List.foldl_nil, Act.put, List.setIfInBounds_toArray, List.set_cons_zero, List.set_cons_succ] at hK ⊢
        go_wp2_with fail
        exact hK.out _ _ ⟨hI.b0, hI.m8, hI.m9, hI.v0, hI.v1, hI.v2, hI.v3, fun _ => rfl, hI.v5, hI.v6, hI.v7⟩
      case sz5 =>
        intro xs done y hI hd0 hup hdn K hK
        refine wpOp_go (o := ⟨some 24, _, _, _, _, _⟩) rfl rfl ?_
        simp only [putsF, List.foldl_cons, List.foldl_nil, Act.put, List.setIfInBounds_toArray, List.set_cons_zero, List.set_cons_succ] at hK ⊢
        go_wp2_with fail
        exact hK.out _ _ ⟨hI.b0, hI.m8, hI.m9, hI.v0, hI.v1, hI.v2, hI.v3, hI.v4, fun _ => rfl, hI.v6, hI.v7⟩
      case sz6 =>
        intro xs done y hI hd0 hup hdn K hK
        refine wpOp_go (o := ⟨some 25, _, _, _, _, _⟩) rfl rfl ?_
        have e4 := hI.v4 (hdn 4 (by kernel_rfl))
        have e5 := hI.v5 (hdn 5 (by kernel_rfl))
        simp only [putsF, List.foldl_cons, List.foldl_nil, Act.put, List.setIfInBounds_toArray, List.set_cons_zero, List.set_cons_succ] at hK ⊢
        simp only [e4, e5] at hK ⊢
        go_wp2_with fail
        exact hK.out _ _ ⟨hI.b0, hI.m8, hI.m9, hI.v0, hI.v1, hI.v2, hI.v3, hI.v4, hI.v5, fun _ => rfl, hI.v7⟩
      case sz7 =>
        intro xs done y hI hd0 hup hdn K hK
        refine wpOp_go (o := ⟨some 26, _, _, _, _, _⟩) rfl rfl ?_
        have e6 := hI.v6 (hdn 6 (by kernel_rfl))
        simp only [putsF, List.foldl_cons, List.foldl_nil, Act.put, List.setIfInBounds_toArray, List.set_cons_zero, List.set_cons_succ] at hK ⊢
        simp only [e6] at hK ⊢
        have s0 := (hI.b0.cell (p := ⟨b', o' + k * 5, none⟩) lb').trans s0
        have s1 := (hI.b0.cell (p := ⟨b', o' + k * 5 + 1, none⟩) lb').trans s1
        have s2 := (hI.b0.cell (p := ⟨b', o' + k * 5 + 2, none⟩) lb').trans s2
        have s3 := (hI.b0.cell (p := ⟨b', o' + k * 5 + 3, none⟩) lb').trans s3
        have s4 := (hI.b0.cell (p := ⟨b', o' + k * 5 + 4, none⟩) lb').trans s4
        have lb' := Nat.lt_of_lt_of_le lb' hI.b0.size
        go_wp2_with fail
        exact hK.out _ _ ⟨hI.b0, hI.m8, hI.m9, hI.v0, hI.v1, hI.v2, hI.v3, hI.v4, hI.v5, hI.v6, fun _ => (congrArg Value.agg HCB.out).symm⟩
      case sz8 =>
        intro xs done y hI hd0 hup hdn K hK
        refine wpOp_go (o := ⟨some 6, _, _, _, _, _⟩) rfl rfl ?_
        have hd10 := hup 10 (by kernel_rfl)
        have hnew := Row.new y 55 #[.int .i64 0, .int .i64 0, .int .i64 0, .slice none 0 0, .int .i64 0]
        have hbel := hI.b0.alloc hI.b0.size (.cells #[.int .i64 0, .int .i64 0, .int .i64 0, .slice none 0 0, .int .i64 0] 55)
        simp only [putsF, List.foldl_cons, List.foldl_nil, Act.put, List.setIfInBounds_toArray, List.set_cons_zero, List.set_cons_succ] at hK ⊢
        go_wp2_with fail
        exact hK.out _ _ ⟨hbel, (fun _ => ⟨_, rfl, hI.b0.size, fun _ => hnew, fun h => Bool.noConfusion (hd10.symm.trans h)⟩), (fun h9 => (by obtain ⟨g, q1, q2, q3, q4, q5⟩ := hI.m9 h9; exact ⟨g, q1, q2, fun _ e => (by injection e with e; injection e with e; injection e with e; have := (q4 (hup 11 (by kernel_rfl))).lt; omega), fun h => (q4 h).alloc _, fun h => (q5 h).alloc _⟩)), hI.v0, hI.v1, hI.v2, hI.v3, hI.v4, hI.v5, hI.v6, hI.v7⟩
      case sz9 =>
        intro xs done y hI hd0 hup hdn K hK
        refine wpOp_go (o := ⟨some 7, _, _, _, _, _⟩) rfl rfl ?_
        have hd11 := hup 11 (by kernel_rfl)
        have hnew := Row.new y 55 #[.int .i64 0, .int .i64 0, .int .i64 0, .slice none 0 0, .int .i64 0]
        have hbel := hI.b0.alloc hI.b0.size (.cells #[.int .i64 0, .int .i64 0, .int .i64 0, .slice none 0 0, .int .i64 0] 55)
        simp only [putsF, List.foldl_cons, List.foldl_nil, Act.put, List.setIfInBounds_toArray, List.set_cons_zero, List.set_cons_succ] at hK ⊢
        go_wp2_with fail
        exact hK.out _ _ ⟨hbel, (fun h8 => (by obtain ⟨g, q1, q2, q3, q4⟩ := hI.m8 h8; exact ⟨g, q1, q2, fun h => (q3 h).alloc _, fun h => (q4 h).alloc _⟩)), (fun _ => ⟨_, rfl, hI.b0.size, fun h8 e => (by obtain ⟨g, q1, q2, q3, q4⟩ := hI.m8 h8; have e := q1.symm.trans e; injection e with e; injection e with e; injection e with e; have := (q3 (hup 10 (by kernel_rfl))).lt; omega), fun _ => hnew, fun h => Bool.noConfusion (hd11.symm.trans h)⟩), hI.v0, hI.v1, hI.v2, hI.v3, hI.v4, hI.v5, hI.v6, hI.v7⟩
      case sz10 =>
        intro xs done y hI hd0 hup hdn K hK
        refine wpOp_go (o := ⟨none, _, _, _, _, _⟩) rfl rfl ?_
        have e3 := hI.v3 (hdn 3 (by kernel_rfl))
        have hm8 := hI.m8 (hdn 8 (by kernel_rfl))
        have hm9 := hI.m9 (hdn 9 (by kernel_rfl))
        have hd8 := hdn 8 (by kernel_rfl)
        have hd11 := hup 11 (by kernel_rfl)
        simp only [putsF, List.foldl_cons, List.foldl_nil, Act.put, List.setIfInBounds_toArray, List.set_cons_zero, List.set_cons_succ] at hK ⊢
        obtain ⟨g, e8, q2, q3, q4⟩ := hm8
        obtain ⟨g9, e9, r2, r3, r4, r5⟩ := hm9
        have hne : g9 ≠ g := fun e => r3 hd8 (by rw [e8, e])
        obtain ⟨hst, hrow⟩ := store_row5 (P := Try.prog) (q3 hd0) rfl HSA.out HOA.out
        have hbb := below_setCells hI.b0 q2 ca.toList 0
        have h9r := row_far (r4 hd11) hne ca.toList 0
        simp only [e3, e8] at hK ⊢
        go_wp2_with fail
        exact hK.out undef _ ⟨hbb, (fun _ => ⟨g, e8, q2, fun h => Bool.noConfusion h, fun _ => hrow⟩), (fun _ => ⟨g9, e9, r2, r3, fun _ => h9r, fun h => Bool.noConfusion (hd11.symm.trans h)⟩), hI.v0, hI.v1, hI.v2, hI.v3, hI.v4, hI.v5, hI.v6, hI.v7⟩
      case sz11 =>
        intro xs done y hI hd0 hup hdn K hK
        refine wpOp_go (o := ⟨none, _, _, _, _, _⟩) rfl rfl ?_
        have e7 := hI.v7 (hdn 7 (by kernel_rfl))
        have hm8 := hI.m8 (hdn 8 (by kernel_rfl))
        have hm9 := hI.m9 (hdn 9 (by kernel_rfl))
        have hd8 := hdn 8 (by kernel_rfl)
        have hd10 := hdn 10 (by kernel_rfl)
        simp only [putsF, List.foldl_cons, List.foldl_nil, Act.put, List.setIfInBounds_toArray, List.set_cons_zero, List.set_cons_succ] at hK ⊢
        obtain ⟨g8, e8, q2, q3, q4⟩ := hm8
        obtain ⟨g, e9, r2, r3, r4, r5⟩ := hm9
        have hne : g8 ≠ g := fun e => r3 hd8 (by rw [e8, e])
        obtain ⟨hst, hrow⟩ := store_row5 (P := Try.prog) (r4 hd0) rfl HSB.out HOB.out
        have hbb := below_setCells hI.b0 r2 cb.toList 0
        have h8r := row_far (q4 hd10) hne cb.toList 0
        simp only [e7, e9] at hK ⊢
        go_wp2_with fail
        exact hK.out undef _ ⟨hbb, (fun _ => ⟨g8, e8, q2, fun h => Bool.noConfusion (hd10.symm.trans h), fun _ => h8r⟩), (fun _ => ⟨g, e9, r2, r3, fun h => Bool.noConfusion h, fun _ => hrow⟩), hI.v0, hI.v1, hI.v2, hI.v3, hI.v4, hI.v5, hI.v6, hI.v7⟩
      case finz =>
        intro xs done z hI hd
        obtain ⟨g8, e8, q2, q3, q4⟩ := hI.m8 (hd 8 (by omega))
        obtain ⟨g9, e9, r2, r3, r4, r5⟩ := hI.m9 (hd 9 (by omega))
        have h8 := q4 (hd 10 (by omega))
        have h9 := r5 (hd 11 (by omega))
        have hb := hI.b0
        rw [HCA.out] at h8
        rw [HCB.out] at h9
        have a0 : z.cell? ⟨g8, 0, none⟩ = some (.int .i64 v.at_) := h8.cell (j := 0) (by simp)
        have a1 : z.cell? ⟨g8, 1, none⟩ = some (.int .i64 v.size) := h8.cell (j := 1) (by simp)
        have a2 : z.cell? ⟨g8, 2, none⟩ = some (.int .i64 v.tokens) := h8.cell (j := 2) (by simp)
        have a3 : z.cell? ⟨g8, 3, none⟩ = some (.slice r.1 v.wants.length r.2) := h8.cell (j := 3) (by simp)
        have a4 : z.cell? ⟨g8, 4, none⟩ = some (.int .i64 v.patience) := h8.cell (j := 4) (by simp)
        have b0 : z.cell? ⟨g9, 0, none⟩ = some (.int .i64 v.at_) := h9.cell (j := 0) (by simp)
        have b1 : z.cell? ⟨g9, 1, none⟩ = some (.int .i64 v.size) := h9.cell (j := 1) (by simp)
        have b2 : z.cell? ⟨g9, 2, none⟩ = some (.int .i64 v.tokens) := h9.cell (j := 2) (by simp)
        have b3 : z.cell? ⟨g9, 3, none⟩ = some (.slice r'.1 v.wants.length r'.2) := h9.cell (j := 3) (by simp)
        have b4 : z.cell? ⟨g9, 4, none⟩ = some (.int .i64 v.patience) := h9.cell (j := 4) (by simp)
        have l8 := h8.lt
        have l9 := h9.lt
        have HBZ := Lib.hid hb
        have HSI3 := Lib.hid (HSI.out z hb)
        simp only [putsF, List.foldl_cons, List.foldl_nil, Act.put, List.setIfInBounds_toArray, List.set_cons_zero, List.set_cons_succ]
        simp only [e8, e9]
        clear hI h8 h9 hb e8 e9 q4 r5 q3 r4 r3 t0 t1 t2 t3 t4 s0 s1 s2 s3 s4
        go_wp2_with (go_at_call 29; refine HSI3.out.mono ?_; rintro e z2 ⟨rfl, hz2⟩; have HB2 := Lib.hid (HB.out.trans ((HBZ.out.trans (hz2.mono HBZ.out.size)).mono HB.out.size)); clear hz2)
        go_roundw
        case rel => exact ⟨k + 1, by omega, by go_num, HB2.out⟩
        case measure => simp [intOf]; omega
    · have hge : ¬ (k : Int) < (l.length : Int) := by omega
      go_wp2_with fail
      go_ret
      exact ⟨rfl, HB.out⟩
end Go.Proofs.Ytijbhcdnbaaobaa
namespace Go.Proofs.Ytijbhcdnbaaobaa
open Go.RowKit

/-- What Play lists. -/
def PV (f : EveZ) (l : List GrpZ) (L : List VisZ) : Prop := (checkQ f l = 0 → L.Perm (eveS f l).visits ∧ L.Pairwise leV) ∧ (checkQ f l ≠ 0 → L = [])
def VTo (w : World) (f : EveZ) (l : List GrpZ) (e : Ending) (w' : World) : Prop := ∃ (L : List VisZ) (A : Option Addr) (c : Nat), e = .returned (.tuple #[.slice A L.length c, .int .i64 (checkQ f l)]) ∧ PV f l L ∧ Below w.heap.size w w' ∧ Reads w' w'.heap.size 6 A L.length (L.flatMap visL)
theorem vis_few {f : EveZ} {l : List GrpZ} (hc : checkQ f l = 0) : (eveS f l).visits.length ≤ 1000 := (wt_ok hc).len
theorem pv_len {f : EveZ} {l : List GrpZ} {L : List VisZ} (h : PV f l L) : L.length ≤ 1000 := by
  by_cases hc : checkQ f l = 0
  · rw [(h.1 hc).1.length_eq]
    exact vis_few hc
  · rw [h.2 hc]
    exact Nat.zero_le _
theorem pv_one {f : EveZ} {l : List GrpZ} {L M : List VisZ} (h : PV f l L) (k : PV f l M) : L = M := by
  by_cases hc : checkQ f l = 0
  · obtain ⟨h1, h2⟩ := checkQ_ok.1 hc
    have g := grp_valid h2
    have e := eve_valid h1
    exact order_one f l (fun x hx => (g x hx).2.2.2.1.1) (fun x hx => (g x hx).2.2.2.2.2) e.2.1.1 (fun b hb => by have := (e.2.2 b hb).2.2.1; omega) (h.1 hc).1 (h.1 hc).2 (k.1 hc).1 (k.1 hc).2
  · rw [h.2 hc, k.2 hc]
set_option maxRecDepth 100000 in
set_option maxHeartbeats 1000000 in
theorem Play_pv (f : EveZ) (l : List GrpZ) (A A2 : Option Addr) (c c2 B : Nat) (rs : List (Option Addr × Nat)) (w : World) (hB : B ≤ w.heap.size) (hr : Reads w B 5 A f.rides.length (bthCells f.rides)) (hn : f.rides.length ≤ maxLen) (hl : GrpsIn w B A2 rs l) :
    Calls Try.prog 21 #[eveV f A c, .slice A2 l.length c2] w (VTo w f l) := by
  by_cases hc : checkQ f l = 0
  · exact (Play_any f l A A2 c c2 B rs w hB hr hn hl).mono fun e w' ⟨L, A5, c5, h1, h2, h3, h4⟩ => ⟨L, A5, c5, h1, ⟨fun h => ⟨(h2 h).1, (h2 h).2.1⟩, fun h => absurd hc h⟩, h3, h4⟩
  obtain ⟨W, hW⟩ : ∃ W, W = w.alloc (.cells #[.slice A f.rides.length c, .int .i64 f.walk] 24) := ⟨_, rfl⟩
  have bW : Below w.heap.size w W := by subst hW; exact (Below.refl _ _).alloc (Nat.le_refl _) _
  have r0 : Row W w.heap.size 24 [.slice A f.rides.length c, .int .i64 f.walk] := by subst hW; exact Row.new w _ _
  have q0 : W.cell? ⟨w.heap.size, 0, none⟩ = some (.slice A f.rides.length c) := r0.cell (j := 0) (by simp)
  have q1 : W.cell? ⟨w.heap.size, 1, none⟩ = some (.int .i64 f.walk) := r0.cell (j := 1) (by simp)
  have lW : w.heap.size < W.heap.size := r0.lt
  have HBW := Lib.hid bW
  have hrW := hr.below (bW.mono hB)
  have hlW := hl.below (bW.mono hB)
  have hBW := Nat.le_trans hB bW.size
  have HC := Lib.hid (cap_bad f l A A2 c c2 B rs W hBW hrW hn hlW hc)
  have HZ : Hid (∀ (E : Ending) (X : World), E = .returned (.tuple #[.slice none 0 0, .int .i64 (checkQ f l)]) → Below w.heap.size w X → VTo w f l E X) := fun E X hE hX => ⟨[], none, 0, hE, ⟨fun h => absurd h hc, fun _ => rfl⟩, hX, reads_none _ _ _⟩
  generalize checkQ f l = k at hc HC HZ
  unfold eveV at HC ⊢
  clear hr hl hrW hlW hn r0 bW
  go_enter Try.func21, Try.ntmps21
  go_upto_region 1 with (fail)
  rw [← hW]
  clear hW
  go_wp2_with (go_at_call 46; refine HC.out.mono ?_; rintro e w1 ⟨rfl, hb1⟩; have HB1 := Lib.hid (HBW.out.trans (hb1.mono HBW.out.size)); clear hb1)
  all_goals (go_ret2; exact HZ.out _ _ rfl HB1.out)
set_option maxRecDepth 100000 in
set_option maxHeartbeats 1000000 in
theorem rPlay_pv (f : EveZ) (l : List GrpZ) (A A2 : Option Addr) (c c2 B : Nat) (rs : List (Option Addr × Nat)) (w : World) (hB : B ≤ w.heap.size) (hr : Reads w B 5 A f.rides.length (bthCells f.rides)) (hn : f.rides.length ≤ maxLen) (hl : GrpsIn w B A2 rs l) (x9 : RawR) (h9 : RefOk f l x9) :
    Calls Try.prog 22 #[eveV f A c, .slice A2 l.length c2] w (VTo w f l) := by
  by_cases hc : checkQ f l = 0
  · refine (rPlay_any f l A A2 c c2 B rs w hB hr hn hl x9 h9.ok hc (by rw [h9.vis hc]; exact vis_few hc)).mono ?_
    rintro e w' ⟨M, A5, c5, h1, h2, h3, h4, h5⟩
    exact ⟨M, A5, c5, by rw [hc]; exact h1, ⟨fun _ => ⟨by rw [← h9.vis hc]; exact h2, h3⟩, fun h => absurd hc h⟩, h4, h5⟩
  obtain ⟨W, hW⟩ : ∃ W, W = w.alloc (.cells #[.slice A f.rides.length c, .int .i64 f.walk] 24) := ⟨_, rfl⟩
  have bW : Below w.heap.size w W := by subst hW; exact (Below.refl _ _).alloc (Nat.le_refl _) _
  have r0 : Row W w.heap.size 24 [.slice A f.rides.length c, .int .i64 f.walk] := by subst hW; exact Row.new w _ _
  have q0 : W.cell? ⟨w.heap.size, 0, none⟩ = some (.slice A f.rides.length c) := r0.cell (j := 0) (by simp)
  have q1 : W.cell? ⟨w.heap.size, 1, none⟩ = some (.int .i64 f.walk) := r0.cell (j := 1) (by simp)
  have lW : w.heap.size < W.heap.size := r0.lt
  have HBW := Lib.hid bW
  have hBW := Nat.le_trans hB bW.size
  have HC := Lib.hid (rCheck_any f l A A2 c c2 B rs W hBW (hr.below (bW.mono hB)) hn (hl.below (bW.mono hB)))
  have HZ : Hid (∀ (E : Ending) (X : World), E = .returned (.tuple #[.slice none 0 0, .int .i64 (checkQ f l)]) → Below w.heap.size w X → VTo w f l E X) := fun E X hE hX => ⟨[], none, 0, hE, ⟨fun h => absurd h hc, fun _ => rfl⟩, hX, reads_none _ _ _⟩
  generalize checkQ f l = k at hc HC HZ
  unfold eveV at HC ⊢
  clear hr hl hn r0 bW h9
  go_enter Try.func22, Try.ntmps22
  go_upto_region 1 with (fail)
  rw [← hW]
  clear hW
  go_wp2_with (go_at_call 20; refine HC.out.mono ?_; rintro e w1 ⟨rfl, hb1⟩; have HB1 := Lib.hid (HBW.out.trans (hb1.mono HBW.out.size)); clear hb1)
  all_goals first | (go_ret2; exact HZ.out _ _ rfl HB1.out) | (exfalso; omega) | trace_state
set_option maxRecDepth 100000 in
set_option maxHeartbeats 4000000 in
theorem qplays_walk (f : EveZ) (l : List GrpZ) (A A2 : Option Addr) (c c2 B : Nat) (rs : List (Option Addr × Nat)) (w : World) (hB : B ≤ w.heap.size) (hr : Reads w B 5 A f.rides.length (bthCells f.rides)) (hn : f.rides.length ≤ maxLen) (hl : GrpsIn w B A2 rs l) :
    Calls Try.prog 4 #[eveV f A c, .slice A2 l.length c2] w (TrueP w) := by
  obtain ⟨W, hW⟩ : ∃ W, W = w.alloc (.cells #[.slice A f.rides.length c, .int .i64 f.walk] 24) := ⟨_, rfl⟩
  have bW : Below w.heap.size w W := by subst hW; exact (Below.refl _ _).alloc (Nat.le_refl _) _
  have r0 : Row W w.heap.size 24 [.slice A f.rides.length c, .int .i64 f.walk] := by subst hW; exact Row.new w _ _
  have q0 : W.cell? ⟨w.heap.size, 0, none⟩ = some (.slice A f.rides.length c) := r0.cell (j := 0) (by simp)
  have q1 : W.cell? ⟨w.heap.size, 1, none⟩ = some (.int .i64 f.walk) := r0.cell (j := 1) (by simp)
  have z0 := r0.lt
  have HR : Hid (∀ X, Below w.heap.size w X → B ≤ X.heap.size ∧ Reads X B 5 A f.rides.length (bthCells f.rides) ∧ GrpsIn X B A2 rs l) := fun X hX => ⟨Nat.le_trans hB hX.size, hr.below (hX.mono hB), hl.below (hX.mono hB)⟩
  have HF := Lib.hid (far_any f l A A2 c c2 B rs W (HR.out W bW).1 hn (HR.out W bW).2.2)
  have Hfin : Hid (∀ X : World, Below w.heap.size w X → Calls Try.prog 16 #[] X fun e w' => e = .returned (.bool true) ∧ Below w.heap.size w w') := fun X hX => (works_any X).mono fun _ _ h => ⟨h.1, hX.trans (h.2.mono hX.size)⟩
  unfold eveV at HF ⊢
  clear hr hl
  go_enter Try.func4, Try.ntmps4
  go_upto_region 1 with (fail)
  rw [← hW]
  clear hW
  cases hfb : farB f l with
  | true =>
    rw [hfb] at HF
    go_wp2_with (first | (go_at_call 15; refine HF.out.mono ?_; rintro e w1 ⟨rfl, hb1⟩; have b1 := bW.trans (hb1.mono bW.size); clear hb1) | (go_at_call 16; refine (Hfin.out _ b1).mono ?_; rintro e w2 ⟨rfl, hb2⟩; have HB2 := Lib.hid hb2; clear hb2))
    go_ret
    exact ⟨rfl, HB2.out⟩
  | false =>
    rw [hfb] at HF
    obtain ⟨n1, n2, n3⟩ := far_not hfb
    have HC : Hid (∀ X, Below w.heap.size w X → Calls Try.prog 18 #[eveV f A c] X (EveTo X f)) := fun X hX => rCopy_any f A c B X (HR.out X hX).1 (HR.out X hX).2.1 (by omega)
    have HG : Hid (∀ X, Below w.heap.size w X → Calls Try.prog 19 #[.slice A2 l.length c2] X (GrpTo X l)) := fun X hX => rCopyGroups_any l A2 c2 B rs X (HR.out X hX).1 (HR.out X hX).2.2 (by omega) (fun i hi => by have := n3 i hi; omega)
    obtain ⟨k, hk⟩ : ∃ k, k = checkQ f l := ⟨_, rfl⟩
    obtain ⟨x9, h9⟩ := ref_ok f l
    obtain ⟨p, hp⟩ : ∃ p : List VisZ → Prop, p = PV f l := ⟨_, rfl⟩
    have HT : Hid (∀ (X : World) (A1 A3 : Option Addr) (c1 c3 B1 B3 : Nat) (rs3 : List (Option Addr × Nat)), B1 ≤ X.heap.size → B3 ≤ X.heap.size → Reads X B1 5 A1 f.rides.length (bthCells f.rides) → GrpsIn X B3 A3 rs3 l → Calls Try.prog 21 #[eveV f A1 c1, .slice A3 l.length c3] X fun e w' => ∃ (L : List VisZ) (A : Option Addr) (c : Nat), e = .returned (.tuple #[.slice A L.length c, .int .i64 k]) ∧ p L ∧ Below X.heap.size X w' ∧ Reads w' w'.heap.size 6 A L.length (L.flatMap visL)) := fun X A1 A3 c1 c3 B1 B3 rs3 h1 h3 h4 h5 => by
      rw [hk, hp]
      exact Play_pv f l A1 A3 c1 c3 X.heap.size rs3 X (Nat.le_refl _) (h4.more h1) hn (h5.more h3)
    have HH : Hid (∀ X, Below w.heap.size w X → Calls Try.prog 22 #[eveV f A c, .slice A2 l.length c2] X fun e w' => ∃ (L : List VisZ) (A : Option Addr) (c : Nat), e = .returned (.tuple #[.slice A L.length c, .int .i64 k]) ∧ p L ∧ Below X.heap.size X w' ∧ Reads w' w'.heap.size 6 A L.length (L.flatMap visL)) := fun X hX => by
      rw [hk, hp]
      exact rPlay_pv f l A A2 c c2 B rs X (HR.out X hX).1 (HR.out X hX).2.1 hn (HR.out X hX).2.2 x9 h9
    have HO : Hid (∀ L M, p L → p M → L = M ∧ L.length ≤ 1000) := fun L M h1 h2 => by
      rw [hp] at h1 h2
      exact ⟨pv_one h1 h2, pv_len h1⟩
    have HGL : Hid (l.length ≤ 1000 ∧ ∀ i, i < l.length → (l.getD i default).wants.length ≤ 1000) := ⟨by omega, fun i hi => by have := n3 i hi; omega⟩
    unfold eveV at HC HT HH
    clear hfb hn hk hp n1 n2 n3 h9 x9
    go_upto_region 3 with (go_at_call 15; refine HF.out.mono ?_; rintro e w1 ⟨rfl, hb1⟩)
    have b1 := bW.trans (hb1.mono bW.size)
    have r1 := r0.below hb1 z0
    have z1 := r1.lt
    have x0 : w1.cell? ⟨w.heap.size, 0, none⟩ = some (.slice A f.rides.length c) := r1.cell (j := 0) (by simp)
    have x1 : w1.cell? ⟨w.heap.size, 1, none⟩ = some (.int .i64 f.walk) := r1.cell (j := 1) (by simp)
    have B1 := Lib.hid b1
    have R1 := Lib.hid r1
    clear q0 q1 r0 hb1 z0 HF bW b1 r1
    go_upto_region 4 with (go_at_call 19; refine (HG.out _ B1.out).mono ?_; rintro e w2 ⟨A3, c3, rs3, rfl, hb2, hg3⟩)
    have r2 := R1.out.below hb2 z1
    have y0 : w2.cell? ⟨w.heap.size, 0, none⟩ = some (.slice A f.rides.length c) := r2.cell (j := 0) (by simp)
    have y1 : w2.cell? ⟨w.heap.size, 1, none⟩ = some (.int .i64 f.walk) := r2.cell (j := 1) (by simp)
    have z2 := r2.lt
    have B2 := Lib.hid (B1.out.trans (hb2.mono B1.out.size))
    have R2 := Lib.hid r2
    have G2 := Lib.hid hg3
    clear x0 x1 hb2 hg3 r2 R1 z1
    go_upto_region 5 with (first
      | (go_at_call 21; refine HQ5.out.mono ?_; rintro e w4 ⟨L, A6, c6, rfl, hpL, hb5, hr6⟩; have HB4 := Lib.hid (B3.out.trans (hb5.mono B3.out.size)); have HR6 := Lib.hid hr6; clear hb5 hr6)
      | (go_at_call 18; refine (HC.out _ B2.out).mono ?_; rintro e w3 ⟨A4, c4, rfl, hb3, ho3⟩; have B3 := Lib.hid hb3; have hq := HT.out w3 A4 A3 c4 c3 w3.heap.size w2.heap.size rs3 (Nat.le_refl _) hb3.size (own_rds ho3) (G2.out.below hb3); have HQ5 := Lib.hid hq; clear hb3 ho3 hq))
    have r4 := R2.out.below HB4.out z2
    have x0 : w4.cell? ⟨w.heap.size, 0, none⟩ = some (.slice A f.rides.length c) := r4.cell (j := 0) (by simp)
    have x1 : w4.cell? ⟨w.heap.size, 1, none⟩ = some (.int .i64 f.walk) := r4.cell (j := 1) (by simp)
    have z4 := r4.lt
    have B5 := Lib.hid (B2.out.trans (HB4.out.mono B2.out.size))
    have HH5 := Lib.hid (HH.out w4 B5.out)
    clear y0 y1 B3 HQ5 r4 HH HT HC HG R2 z2
    go_upto_region 6 with (go_at_call 22; refine HH5.out.mono ?_; rintro e w6 ⟨M, A7, c7, rfl, hpM, hb6, hr7⟩)
    obtain ⟨hLM, hlen⟩ := HO.out L M hpL hpM
    subst hLM
    have B6 := Lib.hid (B5.out.trans (hb6.mono B5.out.size))
    have b26 := HB4.out.trans (hb6.mono HB4.out.size)
    have HSI := Lib.hid (sameVisits_eq L A6 A7 c6 c7 w4.heap.size w6.heap.size w6 (HR6.out.below hb6) hr7 hb6.size (Nat.le_refl _) hlen)
    have HSG : Hid (∀ X, Below w6.heap.size w6 X → Calls Try.prog 24 #[.slice A3 l.length c3, .slice A2 l.length c2] X fun e w' => e = .returned (.bool true) ∧ Below X.heap.size X w') := fun X hX => by
      have b2X := b26.trans (hX.mono b26.size)
      have bX := B6.out.trans (hX.mono B6.out.size)
      exact sameGroups_eq l A3 A2 c3 c2 w2.heap.size B rs3 rs X (G2.out.below b2X) (HR.out X bX).2.2 b2X.size (HR.out X bX).1 HGL.out.1 HGL.out.2
    clear hb6 hr7 HH5 x0 x1 z4 HR6 b26 hpL hpM HO HB4 G2 HGL
    go_wp2_with (first
      | (go_at_call 23; refine HSI.out.mono ?_; rintro e w7 ⟨rfl, hb7⟩; have HSG7 := Lib.hid (HSG.out w7 hb7); have HB7 := Lib.hid (B6.out.trans (hb7.mono B6.out.size)); clear hb7)
      | (go_at_call 24; refine HSG7.out.mono ?_; rintro e w8 ⟨rfl, hb8⟩; have HB8 := Lib.hid (HB7.out.trans (hb8.mono HB7.out.size)); clear hb8)
      | (go_at_call 16; refine (Hfin.out _ HB8.out).mono ?_; rintro e w9 ⟨rfl, hb9⟩; have HB9 := Lib.hid hb9; clear hb9))
    go_ret
    exact ⟨rfl, HB9.out⟩
end Go.Proofs.Ytijbhcdnbaaobaa
