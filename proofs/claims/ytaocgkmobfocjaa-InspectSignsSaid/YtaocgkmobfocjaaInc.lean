/- The entries of a log book backwards: the library's Backward and inspect's backwards, as iterators. Conditions: the entries read as data. -/
import Derived.Test.YtaocgkmobfocjaaIna
import Derived.Test.YtaocgkmobfocjaaInb
import Derived.RangeFuncBound
import Derived.RangeFuncCalls
import Derived.RangeFuncLeaves
import Derived.RangeFuncBox
import Derived.Shelf.Abstract
import Derived.Shelf.RegionOpen
import Derived.OwnWalkIn
import Derived.TacticsInMore
import Derived.LoopNIn
import Derived.LoopIn
namespace Go.Proofs.Ytaocgkmobfocjaa
open Go.RowKit Go.Shelf
attribute [local go_sem] Oper.semAt_some

/-- An entry of a log book. -/
structure EntZ where
  day : Int
  kind : Int
  a : Int
  b : Int
  c : Int
deriving Inhabited, DecidableEq
def entL (e : EntZ) : List Value := [.int .i64 e.day, .int .i64 e.kind, .int .i64 e.a, .int .i64 e.b, .int .i64 e.c]
def entV (e : EntZ) : Value := .agg #[.int .i64 e.day, .int .i64 e.kind, .int .i64 e.a, .int .i64 e.b, .int .i64 e.c]
def entCells (l : List EntZ) : List Value := l.flatMap entL
theorem entCells_at (l : List EntZ) : ∀ k (h : k < l.length), ∀ j, j < 5 → (entCells l)[k * 5 + j]? = (entL l[k])[j]? := by
  induction l with
  | nil => intro k hk; simp at hk
  | cons e l ih =>
    intro k hk j hj
    rw [show entCells (e :: l) = entL e ++ entCells l from rfl]
    cases k with
    | zero =>
      rw [Nat.zero_mul, Nat.zero_add, List.getElem?_append_left (by simpa [entL] using hj)]
      rfl
    | succ k =>
      rw [List.getElem?_append_right (by simp [entL]; omega), show (k + 1) * 5 + j - (entL e).length = k * 5 + j by simp [entL]; omega]
      exact ih k (by simpa using hk) j hj
/-- The cells of an entry. -/
theorem ent_at {X : World} {B : Nat} {A : Option Addr} {l : List EntZ} (h : Reads X B 5 A l.length (entCells l)) {k : Nat} (hk : k < l.length) : ∃ b o, A = some ⟨b, o, none⟩ ∧ b < B ∧ X.cell? ⟨b, o + k * 5, none⟩ = some (.int .i64 l[k].day) ∧ X.cell? ⟨b, o + k * 5 + 1, none⟩ = some (.int .i64 l[k].kind) ∧ X.cell? ⟨b, o + k * 5 + 2, none⟩ = some (.int .i64 l[k].a) ∧ X.cell? ⟨b, o + k * 5 + 3, none⟩ = some (.int .i64 l[k].b) ∧ X.cell? ⟨b, o + k * 5 + 4, none⟩ = some (.int .i64 l[k].c) := by
  obtain ⟨b, o, e, hb, hc⟩ := h.2 (by omega)
  have key : ∀ j, j < 5 → ∀ u, (entL l[k])[j]? = some u → X.cell? ⟨b, o + k * 5 + j, none⟩ = some u := fun j hj u hu => by
    have := hc _ _ ((entCells_at l k hk j hj).trans hu)
    rw [← Nat.add_assoc] at this
    exact this
  exact ⟨b, o, e, hb, key 0 (by omega) _ rfl, key 1 (by omega) _ rfl, key 2 (by omega) _ rfl, key 3 (by omega) _ rfl, key 4 (by omega) _ rfl⟩
/-- The places and the entries, from the last one on. -/
def bwL (l : List EntZ) (k : Nat) : List (Int × EntZ) := (List.range k).map fun i => (((l.length - 1 - i : Nat) : Int), l.getD (l.length - 1 - i) default)
theorem bwL_succ (l : List EntZ) (k : Nat) : bwL l (k + 1) = bwL l k ++ [(((l.length - 1 - k : Nat) : Int), l.getD (l.length - 1 - k) default)] := by simp [bwL, List.range_succ]
theorem bwL_len (l : List EntZ) (k : Nat) : (bwL l k).length = k := by simp [bwL]
theorem bwL_pre (l : List EntZ) {j k : Nat} (h : j ≤ k) : bwL l j <+: bwL l k := by
  obtain ⟨d, rfl⟩ := Nat.le.dest h
  clear h
  induction d with
  | zero => exact List.prefix_refl _
  | succ d ih => rw [← Nat.add_assoc, bwL_succ]; exact ih.trans (List.prefix_append _ _)
theorem bwL_snd (l : List EntZ) : (bwL l l.length).map (·.2) = l.reverse := by
  refine List.ext_getElem? fun i => ?_
  by_cases hi : i < l.length
  · rw [List.getElem?_reverse (by simpa using hi)]
    simp [bwL, hi, List.getD_eq_getElem?_getD, show l.length - 1 - i < l.length by omega]
  · rw [List.getElem?_eq_none (by simp [bwL]; omega), List.getElem?_eq_none (by simp; omega)]
theorem ownFrom_below' {β : Type} {B : Nat} {J : β → World → Prop} (h : OwnFrom B J) {s : β} {W W' : World} (hJ : J s W) (hb : Below W.heap.size W W') : J s W' :=
  h s W W' none hJ ⟨hb.os, hb.tape, hb.output, hb.size, fun k hk _ => hb.block k hk⟩ (fun r e => by cases e)
/-- All blocks of cells lie as they lay. -/
def KC (W W' : World) : Prop := W'.os = W.os ∧ W'.tape = W.tape ∧ W'.output = W.output ∧ W.heap.size ≤ W'.heap.size ∧ ∀ (k : Nat) (o : Obj), W.heap[k]? = some o → o.isCells = true → W'.heap[k]? = some o
theorem KC.refl (W : World) : KC W W := ⟨rfl, rfl, rfl, Nat.le_refl _, fun _ _ h _ => h⟩
theorem KC.trans {A B C : World} (h : KC A B) (k : KC B C) : KC A C := ⟨k.1.trans h.1, k.2.1.trans h.2.1, k.2.2.1.trans h.2.2.1, Nat.le_trans h.2.2.2.1 k.2.2.2.1, fun i o hi ho => k.2.2.2.2 i o (h.2.2.2.2 i o hi ho) ho⟩
theorem KC.of_below {W W' : World} (h : Below W.heap.size W W') : KC W W' := ⟨h.os, h.tape, h.output, h.size, fun k _ hk _ => (h.block k (Array.getElem?_eq_some_iff.1 hk).1).trans hk⟩
theorem KC.size {W W' : World} (h : KC W W') : W.heap.size ≤ W'.heap.size := h.2.2.2.1
theorem KC.putObj (W : World) (l : Nat) (o o' : Obj) (h : W.heap[l]? = some o) (ho : o.isCells = false) : KC W (W.putObj l o') := by
  have hg := grownBy_putObj' W l o'
  refine ⟨hg.os, hg.tape, hg.output, hg.size, fun k o2 hk hc => (hg.block k (Array.getElem?_eq_some_iff.1 hk).1 (fun e => ?_)).trans hk⟩
  injection e with e
  subst e
  rw [h] at hk
  injection hk with hk
  subst hk
  rw [ho] at hc
  cases hc
theorem KC.row {k : Nat} {t : TypeId} {xs : List Value} {W W' : World} (h : KC W W') (hr : Row W k t xs) : Row W' k t xs := by
  obtain ⟨cs, h1, h2⟩ := hr
  exact ⟨cs, h.2.2.2.2 k _ h1 rfl, h2⟩
theorem KC.cell {W W' : World} (h : KC W W') {p : Addr} {v : Value} (hc : W.cell? p = some v) : W'.cell? p = some v := by
  unfold World.cell? at hc ⊢
  split at hc
  · rename_i c t f he
    rw [h.2.2.2.2 p.block _ he rfl]
    exact hc
  · cases hc
theorem KC.reads {B size n : Nat} {A : Option Addr} {xs : List Value} {W W' : World} (h : KC W W') (hr : Reads W B size A n xs) : Reads W' B size A n xs :=
  ⟨hr.1, fun hn => by
    obtain ⟨b, o, e, hb, hc⟩ := hr.2 hn
    exact ⟨b, o, e, hb, fun j u hj => h.cell (hc j u hj)⟩⟩
set_option maxRecDepth 100000 in
set_option maxHeartbeats 2000000 in
theorem bwd_own (n : Nat) (hn : 1 ≤ n) (Bs m c : Nat) (A : Option Addr) (l : List EntZ) (hl : l.length ≤ maxLen) (w : World) (hm : m ≤ w.heap.size) (zB : Bs < w.heap.size) (hBs : w.cell? ⟨Bs, 0, none⟩ = some (.slice A l.length c)) (hr : Reads w m 5 A l.length (entCells l)) :
    SeqOwn Fence.wide n Try.prog 98 #[.pointer (some ⟨Bs, 0, none⟩)] (fun x : Int × EntZ => #[.int .i64 x.1, entV x.2]) KC (bwL l l.length) w := by
  intro lo J Jx W hW hJ hJx hY h0
  have hl' : l.length ≤ 9223372036854775807 := by unfold maxLen at hl; omega
  have hB0 := (hW.cell (p := ⟨Bs, 0, none⟩) zB).trans hBs
  have lB : Bs < W.heap.size := Nat.lt_of_lt_of_le zB hW.size
  have hr0 := hr.below (hW.mono hm)
  refine callsIn_of_wp Try.func98 rfl trivial ?_ rfl
  simp only [Try.ntmps98, List.size_toArray, List.length_cons, List.length_nil, Nat.reduceAdd, Nat.reduceSub, Array.replicate_succ, Array.replicate_zero, List.push_toArray, List.append_toArray, List.nil_append, List.cons_append]
  have e0 : IntKind.i64.wrap ((l.length : Int) - 1) = (l.length : Int) - 1 := IntWalk.i64_in _ (by omega)
  gi_wp2
  gi_loopw [3] (fun i wr => ∃ k : Nat, k ≤ l.length ∧ i = .int .i64 ((l.length : Int) - 1 - (k : Int)) ∧ J (bwL l k) wr ∧ KC W wr) (fun i _ => (intOf i + 1).toNat)
  case atStart => exact ⟨0, Nat.zero_le _, by simp, h0, KC.refl _⟩
  case round =>
    obtain ⟨k, hk, rfl, hJ1, hK⟩ := hrel
    have hB1 := hK.cell hB0
    have lB1 : Bs < wr.heap.size := Nat.lt_of_lt_of_le lB hK.size
    by_cases hlt : k < l.length
    · obtain ⟨b, o, rfl, hb, c0, c1, c2, c3, c4⟩ := ent_at (hK.reads hr0) (show l.length - 1 - k < l.length by omega)
      have hg : l.getD (l.length - 1 - k) default = l[l.length - 1 - k] := by simp [List.getD_eq_getElem?_getD, show l.length - 1 - k < l.length by omega]
      have hY1 := hY (bwL l k) (((l.length - 1 - k : Nat) : Int), l[l.length - 1 - k]) wr hJ1 (by rw [bwL_len, bwL_len]; exact hlt)
      rw [← hg, ← bwL_succ, hg] at hY1
      generalize l[l.length - 1 - k] = x at c0 c1 c2 c3 c4 hY1
      obtain ⟨i, hi⟩ : ∃ i, i = l.length - 1 - k := ⟨_, rfl⟩
      have hii : (l.length : Int) - 1 - (k : Int) = (i : Int) := by omega
      rw [← hi] at c0 c1 c2 c3 c4 hY1
      rw [hii]
      have lb : b < wr.heap.size := by have := hK.size; have := hW.size; omega
      have i0 : ¬ (i : Int) < 0 := by omega
      have i1 : (i : Int) < (l.length : Int) := by omega
      have ew : IntKind.i64.wrap ((i : Int) - 1) = (i : Int) - 1 := IntWalk.i64_in _ (by omega)
      obtain ⟨fn, tmps, assign, body, hy, hR⟩ := hY1
      unfold entV at hy
      dsimp only at hy
      have HI := Lib.hid hi
      clear hY hg hi hii
      gi_wp2
      refine hR.mono ?_
      rintro e W3 (⟨rfl, hJ3, hk3, -⟩ | ⟨rfl, hJx3, -⟩)
      · gi_wp2
        go_roundw
        case rel => exact ⟨k + 1, by omega, by have := HI.out; congr 1; omega, hJ3, hK.trans hk3⟩
        case measure => simp [intOf]
      · gi_wp2
        refine bodyPost_ret (results_none rfl _ _ _) rfl ?_
        exact ⟨⟨_, rfl⟩, .inr ⟨_, bwL_pre l (by omega), hJx3⟩⟩
    · obtain rfl : k = l.length := by omega
      have hneg : ¬ (0 : Int) ≤ (l.length : Int) - 1 - (l.length : Int) := by omega
      gi_wp2
      go_end0
      exact ⟨⟨_, rfl⟩, .inl hJ1⟩
theorem KC.turn {A B : World} {row : Option Nat} (hg : A.grownBy B row) (hr : ∀ r, row = some r → ∃ o : Obj, A.heap[r]? = some o ∧ o.isCells = false) : KC A B :=
  ⟨hg.os, hg.tape, hg.output, hg.size, fun k o hk hc => (hg.block k (Array.getElem?_eq_some_iff.1 hk).1 (fun e => by
    obtain ⟨o2, h2, h3⟩ := hr k e.symm
    rw [hk] at h2
    injection h2 with h2
    subst h2
    rw [hc] at h3
    cases h3)).trans hk⟩
theorem row_own {A B : World} {row : Option Nat} {g : Nat} {t : TypeId} {xs : List Value} (h : Row A g t xs) (hg : A.grownBy B row) (hr : ∀ r, row = some r → ∃ o : Obj, A.heap[r]? = some o ∧ o.isCells = false) : Row B g t xs :=
  h.keep (hg.block g h.lt fun e => by
    obtain ⟨o, ho, hc⟩ := hr g e.symm
    obtain ⟨cs, h4, _⟩ := h
    rw [h4] at ho
    injection ho with ho
    subst ho
    cases hc)
set_option maxRecDepth 100000 in
theorem Backward_any (A : Option Addr) (n c : Nat) (w : World) : Calls Try.prog 96 #[.slice A n c] w fun e w' => e = .returned (.func (.func 98) #[] #[.pointer (some ⟨w.heap.size, 0, none⟩)]) ∧ w' = w.alloc (.cells #[.slice A n c] 26) := by
  go_enter Try.func96, Try.ntmps96
  go_wp2_with fail
  go_ret
  exact ⟨rfl, rfl⟩
set_option maxRecDepth 100000 in
set_option maxHeartbeats 2000000 in
theorem back_own (n : Nat) (hn : 4 ≤ n) (Gs m c : Nat) (A : Option Addr) (l : List EntZ) (hl : l.length ≤ maxLen) (w : World) (hm : m ≤ w.heap.size) (zG : Gs < w.heap.size) (hGs : w.cell? ⟨Gs, 3, none⟩ = some (.slice A l.length c)) (hr : Reads w m 5 A l.length (entCells l)) :
    SeqOwn Fence.wide n Try.prog 95 #[.pointer (some ⟨Gs, 0, none⟩)] (fun x : EntZ => #[entV x]) KC l.reverse w := by
  intro lo J Jx W hW hJ hJx hY h0
  have hG0 := (hW.cell (p := ⟨Gs, 3, none⟩) zG).trans hGs
  have lG : Gs < W.heap.size := Nat.lt_of_lt_of_le zG hW.size
  have hr0 := hr.below (hW.mono hm)
  have hmW : m ≤ W.heap.size := Nat.le_trans hm hW.size
  obtain ⟨V, hV⟩ : ∃ V, V = (W.alloc (.cells #[.func (.yield lo) #[] #[]] 90)).alloc (.cells #[.slice A l.length c] 26) := ⟨_, rfl⟩
  have bV : Below W.heap.size W V := by subst hV; exact ((Below.refl _ W).alloc (Nat.le_refl _) _).alloc (by simp) _
  have y0 : Boxed V W.heap.size 90 (.func (.yield lo) #[] #[]) := by subst hV; exact (Boxed.new W _ _).alloc _
  have y1 : V.cell? ⟨W.heap.size + 1, 0, none⟩ = some (.slice A l.length c) := by
    subst hV
    have := (Boxed.new (W.alloc (.cells #[.func (.yield lo) #[] #[]] 90)) 26 (.slice A l.length c)).cell
    rw [World.size_alloc] at this
    exact this
  have zV : V.heap.size = W.heap.size + 2 := by subst hV; simp
  have jV : J [] V := ownFrom_below' hJ h0 bV
  refine callsIn_of_wp_marks Try.func95 rfl trivial ?_ rfl
  simp only [Try.ntmps95, List.size_toArray, List.length_cons, List.length_nil, Nat.reduceAdd, Nat.reduceSub, Array.replicate_succ, Array.replicate_zero, List.push_toArray, List.append_toArray, List.nil_append, List.cons_append]
  have hf1 : Fence.wide.fn 96 := trivial
  have h1 : 1 ≤ n := by omega
  gi_wp2_with (gi_at_call 96; refine (callsIn_wide.2 (Backward_any _ _ _ _)).mono ?_; rintro e w' ⟨rfl, rfl⟩)
  rw [← hV]
  clear hV
  have hown : ∀ {β : Type} {K : β → World → Prop}, OwnFrom W.heap.size K → OwnFrom V.heap.size K := fun h s A B row hs hg hr => h s A B row hs hg fun r e => ⟨by have := (hr r e).1; omega, (hr r e).2⟩
  refine range_own (F := Fence.wide) (n := n) (P := Try.prog) (α := Int × EntZ) (encs := fun x : Int × EntZ => #[.int .i64 x.1, entV x.2]) (xs := bwL l l.length) (Kp := KC) rfl (by omega) (gf := 98) (lb := #[.pointer (some ⟨W.heap.size + 1, 0, none⟩)]) rfl trivial (enters_of Try.func98 (by kernel_rfl) rfl)
    KC.trans (fun W' l' o o' _ h2 h3 => KC.putObj W' l' o o' h2 h3) ?seq (fun _ => rfl)
    (fun pre X => J (pre.map (·.2)) X ∧ Boxed X W.heap.size 90 (.func (.yield lo) #[] #[]) ∧ KC W X)
    (fun cd pre X => cd = .ret ∧ Jx (pre.map (·.2)) X)
    ?hI ?hIx ⟨jV, y0, KC.of_below bV⟩
    (fun x a' X => ∃ bx, Row X bx 54 (entL x.2) ∧ a' = { tmps := #[.func (.yield lo) #[] #[], .pointer (some ⟨Gs, 0, none⟩), .pointer (some ⟨W.heap.size, 0, none⟩), undef, .pointer (some ⟨bx, 0, none⟩), .pointer (some ⟨Gs, 3, none⟩), .slice A l.length c, .func (.func 98) #[] #[.pointer (some ⟨W.heap.size + 1, 0, none⟩)], .int .i64 x.1, entV x.2, undef, undef, undef, undef], defers := [] })
    (fun x a' _ X Y row hs hg hr => by obtain ⟨bx, h2, h3⟩ := hs; exact ⟨bx, row_own h2 hg fun r e => (hr r e).2, h3⟩)
    ?assign ?body ?done ?stop
  case seq => exact bwd_own (n - 1) (by omega) (W.heap.size + 1) m c A l hl V (by omega) (by omega) y1 ((KC.of_below bV).reads hr0)
  case hI =>
    rintro pre X Y row ⟨h2, h3, h4⟩ hg hr
    exact ⟨hown hJ _ X Y row h2 hg hr, (boxed_own W.heap.size _ (fun _ : Unit => Value.func (.yield lo) #[] #[])) () X Y row h3 hg (fun r e => (hr r e).2), h4.trans (KC.turn hg fun r e => (hr r e).2)⟩
  case hIx =>
    rintro cd pre X Y row ⟨h2, h3⟩ hg hr
    exact ⟨h2, hown hJx _ X Y row h3 hg hr⟩
  case assign =>
    rintro lo2 pre x Z K ⟨h2, h3, h4⟩ hK
    unfold entV at hK ⊢
    gi_wp2
    exact hK _ _ ((KeepsOthers.alloc _ _).from _) (KC.of_below ((Below.refl _ Z).alloc (Nat.le_refl _) _)) ⟨hJ.alloc _ h2, h3.alloc _, h4.trans (KC.of_below ((Below.refl _ Z).alloc (Nat.le_refl _) _))⟩ ⟨Z.heap.size, Row.new Z _ _, rfl⟩
  case body =>
    rintro lo2 pre x a' Z ⟨h2, h3, h4⟩ ⟨bx, rX, rfl⟩ hlt
    have c0 := h3.cell
    have l0 := h3.lt
    have x0 : Z.cell? ⟨bx, 0, none⟩ = some (.int .i64 x.2.day) := rX.cell (j := 0) (by simp [entL])
    have x1 : Z.cell? ⟨bx, 1, none⟩ = some (.int .i64 x.2.kind) := rX.cell (j := 1) (by simp [entL])
    have x2 : Z.cell? ⟨bx, 2, none⟩ = some (.int .i64 x.2.a) := rX.cell (j := 2) (by simp [entL])
    have x3 : Z.cell? ⟨bx, 3, none⟩ = some (.int .i64 x.2.b) := rX.cell (j := 3) (by simp [entL])
    have x4 : Z.cell? ⟨bx, 4, none⟩ = some (.int .i64 x.2.c) := rX.cell (j := 4) (by simp [entL])
    have lx := rX.lt
    have hY1 := yield_any (n - 1 - 1 - 1) lo2 (hY (pre.map (·.2)) x.2 Z h2 (by rw [List.length_map, List.length_reverse, ← bwL_len l l.length]; exact hlt))
    obtain ⟨fn, tmps, assign, body, hy, hR⟩ := hY1
    unfold entV at hy ⊢
    have HKF : ∀ W3, KeepsFrom W.heap.size Z W3 → KeepsFrom V.heap.size Z W3 := fun W3 h => keeps_more h (by omega)
    gi_wp2
    refine ⟨fun _ => by omega, hR.mono ?_⟩
    rintro e W3 (⟨rfl, hJ3, hk3, hf3⟩ | ⟨rfl, hJx3, hf3⟩)
    · gi_wp2
      exact ⟨HKF W3 hf3, hk3, by rw [List.map_append]; exact hJ3, hk3.2.2.2.2 _ _ h3 rfl, h4.trans hk3⟩
    · gi_wp2
      exact ⟨HKF W3 hf3, rfl, by rw [List.map_append]; exact hJx3⟩
  case done =>
    rintro D X hD ⟨h2, h3, h4⟩ hK
    gi_wp2
    refine ⟨by simp, .inl ⟨_, _, rfl, run_takeDeferred hK, ?_⟩⟩
    exact ⟨_, results_none rfl _ _ _, ⟨_, rfl⟩, .inl (by rw [← bwL_snd]; exact hJ.putObj _ h2 (by omega) hK rfl)⟩
  case stop =>
    rintro D cd pre X hD hp ⟨rfl, h3⟩ hK
    gi_wp2
    refine ⟨by simp, .inl ⟨_, _, rfl, run_takeDeferred hK, ?_⟩⟩
    exact ⟨_, results_none rfl _ _ _, ⟨_, rfl⟩, .inr ⟨pre.map (·.2), by rw [← bwL_snd]; exact hp.map _, hJx.putObj _ h3 (by omega) hK rfl⟩⟩
end Go.Proofs.Ytaocgkmobfocjaa
