/- Contract of queue's stand. Conditions: the evening lies in memory, and its numbers are small. -/
import Derived.Test.YtijbhcdnbaaobaaJb
import Derived.Test.YtijbhcdnbaaobaaHq
import Derived.Deep.RegionHeld3
import Derived.Deep.DeepCutAuto
import Derived.Deep.LoopGhost
import Derived.StillTailTactics
import Derived.BigRegion
import Derived.Maps.AppendAt
/- Contracts of queue's wanted and price. Conditions: the evening lies in memory, and its numbers are small. -/
namespace Go.Proofs.Ytijbhcdnbaaobaa
open Go.RowKit

section
variable {E : EvE} {w : World} {s : EvS} {qs : Nat → Value} {uv : Value}
theorem EvIn.vc (h : EvIn E w s qs uv) : w.cell? ⟨E.v, 0, none⟩ = some (.int .i64 s.walk) ∧ w.cell? ⟨E.v, 1, none⟩ = some (.int .i64 s.now) ∧ w.cell? ⟨E.v, 4, none⟩ = some uv ∧ E.v < w.heap.size :=
  ⟨h.ev.cell (j := 0) (by simp [evL]), h.ev.cell (j := 1) (by simp [evL]), h.ev.cell (j := 4) (by simp [evL]), h.ev.lt⟩
theorem EvIn.vR (h : EvIn E w s qs uv) {r : Nat} (hr : r < s.rides.length) : w.cell? ⟨E.v, 2, none⟩ = some (.slice (some ⟨E.R, 0, none⟩) s.rides.length E.cR) := by
  rw [← slA_pos (g := E.R) (n := s.rides.length) (by omega)]
  exact h.ev.cell (j := 2) (by simp [evL])
theorem EvIn.vG (h : EvIn E w s qs uv) {i : Nat} (hi : i < s.groups.length) : w.cell? ⟨E.v, 3, none⟩ = some (.slice (some ⟨E.G, 0, none⟩) s.groups.length E.cG) := by
  rw [← slA_pos (g := E.G) (n := s.groups.length) (by omega)]
  exact h.ev.cell (j := 3) (by simp [evL])
theorem EvIn.gc (h : EvIn E w s qs uv) {i : Nat} (hi : i < s.groups.length) : w.cell? ⟨E.G, i * 10 + 1, none⟩ = some (.int .i64 (s.grp i).g.size) ∧ w.cell? ⟨E.G, i * 10 + 2, none⟩ = some (.int .i64 (s.grp i).tok) ∧
    w.cell? ⟨E.G, i * 10 + 3, none⟩ = some (.slice (E.ref i).1 (s.grp i).g.wants.length (E.ref i).2) ∧ w.cell? ⟨E.G, i * 10 + 4, none⟩ = some (.int .i64 (s.grp i).g.patience) ∧
    w.cell? ⟨E.G, i * 10 + 5, none⟩ = some (.int .i64 (s.grp i).place) ∧ w.cell? ⟨E.G, i * 10 + 6, none⟩ = some (.int .i64 (s.grp i).til) ∧ w.cell? ⟨E.G, i * 10 + 7, none⟩ = some (.int .i64 (s.grp i).want) ∧
    w.cell? ⟨E.G, i * 10 + 8, none⟩ = some (.int .i64 (s.grp i).came) ∧ w.cell? ⟨E.G, i * 10 + 9, none⟩ = some (.int .i64 (s.grp i).home) ∧ E.G < w.heap.size :=
  have k := h.gp (by omega)
  ⟨k.cell hi (j := 1) (by omega), k.cell hi (j := 2) (by omega), k.cell hi (j := 3) (by omega), k.cell hi (j := 4) (by omega), k.cell hi (j := 5) (by omega), k.cell hi (j := 6) (by omega), k.cell hi (j := 7) (by omega), k.cell hi (j := 8) (by omega), k.cell hi (j := 9) (by omega), k.lt⟩
theorem EvIn.rc (h : EvIn E w s qs uv) {r : Nat} (hr : r < s.rides.length) : w.cell? ⟨E.R, r * 9, none⟩ = some (.int .i64 (s.rd r).b.seats) ∧ w.cell? ⟨E.R, r * 9 + 1, none⟩ = some (.int .i64 (s.rd r).b.price) ∧
    w.cell? ⟨E.R, r * 9 + 2, none⟩ = some (.int .i64 (s.rd r).b.cycle) ∧ w.cell? ⟨E.R, r * 9 + 3, none⟩ = some (.int .i64 (s.rd r).b.pause) ∧ w.cell? ⟨E.R, r * 9 + 4, none⟩ = some (.bool (s.rd r).b.fill) ∧
    w.cell? ⟨E.R, r * 9 + 5, none⟩ = some (qs r) ∧ w.cell? ⟨E.R, r * 9 + 6, none⟩ = some (.int .i64 (s.rd r).ready) ∧ w.cell? ⟨E.R, r * 9 + 7, none⟩ = some (.int .i64 (s.rd r).taken) ∧
    w.cell? ⟨E.R, r * 9 + 8, none⟩ = some (.int .i64 (s.rd r).longest) ∧ E.R < w.heap.size :=
  have k := h.rd (by omega)
  ⟨k.cell0 hr (by omega), k.cell hr (j := 1) (by omega), k.cell hr (j := 2) (by omega), k.cell hr (j := 3) (by omega), k.cell hr (j := 4) (by omega), k.cell hr (j := 5) (by omega), k.cell hr (j := 6) (by omega), k.cell hr (j := 7) (by omega), k.cell hr (j := 8) (by omega), k.lt⟩
/-- The wish that a group goes after, in memory. -/
theorem EvIn.wish (h : EvIn E w s qs uv) {i : Nat} (hi : i < s.groups.length) (hv : ValS s) (h0 : 0 ≤ (s.grp i).want) (h1 : (s.grp i).want < ((s.grp i).g.wants.length : Int)) :
    ∃ b o k, (s.grp i).want = ((k : Nat) : Int) ∧ k < (s.grp i).g.wants.length ∧ (E.ref i).1 = some ⟨b, o, none⟩ ∧ b < w.heap.size ∧ w.cell? ⟨b, o + k, none⟩ = some (.int .i64 ((s.grp i).goal : Int)) ∧ (s.grp i).goal < s.rides.length := by
  obtain ⟨k, hk⟩ := Int.eq_ofNat_of_zero_le h0
  have hkl : k < (s.grp i).g.wants.length := by omega
  obtain ⟨b, o, e, hb, hc⟩ := (h.wants i hi).at1 hkl
  have hw := hv i hi _ (List.getElem_mem hkl)
  have hgo : (s.grp i).goal = (s.grp i).g.wants[k].toNat := by
    unfold GpS.goal
    rw [hk, Int.toNat_natCast, List.getD_eq_getElem?_getD, List.getElem?_eq_getElem hkl]
    rfl
  refine ⟨b, o, k, hk, hkl, e, Nat.lt_of_lt_of_le hb h.bas.2.2.2, ?_, by omega⟩
  rw [hc k hkl, List.getElem?_eq_getElem hkl, hgo]
  show some (Value.int .i64 (s.grp i).g.wants[k]) = _
  congr 2
  omega
theorem EvIn.frG (h : EvIn E w s qs uv) {i : Nat} (hi : i < s.groups.length) (k : Nat) : w.frozen? ⟨E.G, k, none⟩ = false := (h.gp (by omega)).frozen k
theorem EvIn.frR (h : EvIn E w s qs uv) {r : Nat} (hr : r < s.rides.length) (k : Nat) : w.frozen? ⟨E.R, k, none⟩ = false := (h.rd (by omega)).frozen k
theorem EvIn.frv (h : EvIn E w s qs uv) (k : Nat) : w.frozen? ⟨E.v, k, none⟩ = false := h.ev.frozen k
theorem EvIn.offQ (h : EvIn E w s qs uv) {r g : Nat} {t : TypeId} (hr : r < s.rides.length) (hg : TyAt w g t) (ht : 3 ≠ t) : some g ≠ (qs r).ownBlock := fun e => by
  rcases own_off (h.q r hr) hg ht with h1 | h1
  · rw [h1] at e; cases e
  · exact h1 e.symm
theorem EvIn.offV (h : EvIn E w s qs uv) {g : Nat} {t : TypeId} (hg : TyAt w g t) (ht : 57 ≠ t) : some g ≠ uv.ownBlock := fun e => by
  rcases own_off h.vis hg ht with h1 | h1
  · rw [h1] at e; cases e
  · exact h1 e.symm
theorem EvIn.belQ {X : World} (h : EvIn E w s qs uv) {r : Nat} (hr : r < s.rides.length) (hX : w.grownBy X (qs r).ownBlock) : Below E.base w X := (Below.refl _ _).grown hX h.bas.2.2.2 fun k hk => ((h.q r hr).lt k hk).1
theorem EvIn.belV {X : World} (h : EvIn E w s qs uv) (hX : w.grownBy X uv.ownBlock) : Below E.base w X := (Below.refl _ _).grown hX h.bas.2.2.2 fun k hk => (h.vis.lt k hk).1
theorem EvIn.atQ {X : World} (h : EvIn E w s qs uv) {r : Nat} (hr : r < s.rides.length) (hX : w.grownBy X (qs r).ownBlock) : X.frozen? ⟨E.R, r * 9 + 5, none⟩ = false ∧ X.cell? ⟨E.R, r * 9 + 5, none⟩ = some (qs r) := by
  have k := (h.rd (by omega)).grown hX (h.offQ hr (h.rd (by omega)).ty (by decide))
  exact ⟨k.frozen _, k.cell hr (j := 5) (by omega)⟩
theorem EvIn.atV {X : World} (h : EvIn E w s qs uv) (hX : w.grownBy X uv.ownBlock) : X.frozen? ⟨E.v, 4, none⟩ = false ∧ X.cell? ⟨E.v, 4, none⟩ = some uv := by
  have k := h.ev.keep (hX.block _ h.ev.lt (h.offV h.ev.ty (by decide)))
  exact ⟨k.frozen _, k.cell (j := 4) (by simp [evL])⟩
end
set_option maxHeartbeats 1000000 in
theorem wanted_any {E : EvE} {w : World} {s : EvS} {qs : Nat → Value} {uv : Value} (h : EvIn E w s qs uv) {i : Nat} (hi : i < s.groups.length) (hf : FitS s) (h0 : 0 ≤ (s.grp i).want) (h1 : (s.grp i).want < ((s.grp i).g.wants.length : Int)) :
    Calls Try.prog 109 #[.pointer (some ⟨E.v, 0, none⟩), .pointer (some ⟨E.G, i * 10, none⟩)] w fun e w' => e = .returned (.pointer (some ⟨E.R, (s.grp i).goal * 9, none⟩)) ∧ ∃ n, w' = w.drewN n := by
  obtain ⟨b, o, k, hk, hkl, he, hb, hc, hgl⟩ := h.wish hi hf.wish h0 h1
  have c3 := (h.gc hi).2.2.1
  have c7 := (h.gc hi).2.2.2.2.2.2.1
  have v2 := h.vR hgl
  have l1 := h.vc.2.2.2
  have l2 := (h.gc hi).2.2.2.2.2.2.2.2.2
  rw [he] at c3
  rw [hk] at c7
  have hnr := hf.nr
  have hnw := (hf.gp i hi).2.2
  generalize (s.grp i).goal = r at *
  generalize (s.grp i).g.wants.length = nw at *
  clear hk he h0 h1
  have hgl' : (r : Int) < (s.rides.length : Int) := by omega
  have hkl' : (k : Int) < (nw : Int) := by omega
  generalize s.rides.length = nr at *
  clear h hf hi
  go_enter Try.func109, Try.ntmps109
  go_wp2_with fail
  go_quiet (fail)
  go_wp2_with fail
  go_ret
  exact ⟨rfl, _, rfl⟩
end Go.Proofs.Ytijbhcdnbaaobaa
namespace Go.Proofs.Ytijbhcdnbaaobaa
open Go.RowKit

def StepTo (E : EvE) (w : World) (t : EvS) (e : Ending) (w' : World) : Prop := e = .returned (.tuple #[]) ∧ Below E.base w w' ∧ EvAt E w' t
theorem Try.info_int : (Try.prog.info? 3).map (fun i => (i.zero, i.size, i.bytes)) = some (some (.int .i64 0), 1, 8) := by kernel_rfl
theorem wp_tail {P : Program} {id : Nat} {Q : Exit → Act → World → Prop} {a : Act} {w : World} {l : List Oper} (n : Nat) (hm : P.follows .mixedOrders = true) (hB : Region.lexTailB .any l.toArray n = true)
    (h : wpStill P l.toArray (w.drewN 1) (fun a' => wpList P l.toArray Q (l.drop n) a' (w.drewN 1)) (l.take n) a) : (Code.region id l.toArray true).wp P Q a w :=
  wp_region_still_tail n hm hB h
theorem qL_snoc (l : List Nat) (i : Nat) : qL (l ++ [i]) = qL l ++ [.int .i64 (i : Int)] := by simp [qL]
theorem stand_eq (s : EvS) (i : Nat) (_ : i < s.groups.length) : standS s i = (((s.modR (s.grp i).goal fun x => { x with q := (s.rd (s.grp i).goal).q ++ [i] }).modG i fun g => { g with place := 2 }).modG i fun g => { g with came := s.now }).modG i fun g => { g with til := s.now + (s.grp i).g.patience + 1 } := by
  unfold standS
  rw [modR_congr s (s.grp i).goal _ (fun x => { x with q := (s.rd (s.grp i).goal).q ++ [i] }) rfl, modG_twice, modG_twice]
  exact modG_congr _ _ _ _ rfl
set_option maxRecDepth 100000 in
set_option maxHeartbeats 2000000 in
theorem stand_any {E : EvE} {w : World} {s : EvS} (h : EvAt E w s) {i : Nat} (hi : i < s.groups.length) (hf : FitS s) (hn : 0 ≤ s.now ∧ s.now ≤ 4000) (h0 : 0 ≤ (s.grp i).want) (h1 : (s.grp i).want < ((s.grp i).g.wants.length : Int)) :
    Calls Try.prog 92 #[.pointer (some ⟨E.v, 0, none⟩), .int .i64 i] w (StepTo E w (standS s i)) := by
  obtain ⟨qs, uv, h⟩ := h
  obtain ⟨i0, hii, hz0, hz1, hz2⟩ := info_parts Try.info_int
  obtain ⟨v0, v1, v4, l1⟩ := h.vc
  have v3 := h.vG hi
  have hng := hf.ng
  have hi' : (i : Int) < (s.groups.length : Int) := by omega
  have hgl := (h.wish hi hf.wish h0 h1)
  obtain ⟨_, _, _, _, _, _, _, _, hr⟩ := hgl
  have Hw := Lib.hid (wanted_any h hi hf h0 h1)
  have hq60 := (hf.que (s.grp i).goal).1
  have hpt := (hf.gp i hi).1
  have HS := Lib.hid (stand_eq s i hi)
  obtain ⟨r, hrr⟩ : ∃ r, r = (s.grp i).goal := ⟨_, rfl⟩
  rw [← hrr] at hr Hw hq60 HS
  obtain ⟨c0, c1, c2, c3, c4, c5, c6, c7, c8, l3⟩ := h.rc hr
  clear hrr
  go_enter Try.func92, Try.ntmps92
  go_upto_region 2 with (go_at_call 109; refine Hw.out.mono ?_; rintro e w' ⟨rfl, nd, rfl⟩)
  clear v0 v1 v4 l1 v3 c0 c1 c2 c3 c4 c5 c6 c7 c8 l3 Hw
  have hZi : EvIn E (w.drewN nd) s qs uv := h.grow (below_drewN (Below.refl _ _) nd)
  have bZ : Below E.base w (w.drewN nd) := below_drewN (Below.refl _ _) nd
  obtain ⟨Z, hZ⟩ : ∃ Z, Z = w.drewN nd := ⟨_, rfl⟩
  rw [← hZ] at hZi bZ ⊢
  clear hZ h
  have q5 := (hZi.rc hr).2.2.2.2.2.1
  have hA := hZi.grow ((Below.refl _ Z).alloc (Nat.le_refl _) (.cells #[.int .i64 (i : Int)] 3))
  have hqo := hA.q r hr
  have m1 : (s.rd r).q.length + 1 ≤ maxLen := by unfold maxLen; omega
  have m2 : ((s.rd r).q.length + 1) * 8 ≤ 140737488355328 := by omega
  have m3 : E.base ≤ (Z.alloc (.cells #[.int .i64 (i : Int)] 3)).heap.size := hA.bas.2.2.2
  have H3 := Lib.hid hA
  clear hA
  go_upto_region 3 with (at_builtin; refine wpList_append_own_at _ rfl _ _ 37 rfl E.base 3 i0 (.int .i64 0) 1 8 Try.underlying37 hii hz0 hz1 hz2 rfl (by decide) (qs r) (s.rd r).q.length (qL (s.rd r).q) rfl hqo ⟨Z.heap.size, 0, none⟩ 1 1 [.int .i64 (i : Int)] rfl rfl (cell_one_new _ _ _) ?q1 m1 m2 m3 ?_)
  case q1 => intro u hu; simp at hu; subst hu; rfl
  intro u X ho hX hnil hat
  obtain ⟨uA, uc, rfl⟩ := own_slice ho
  obtain ⟨f5, k5⟩ := H3.out.atQ hr hX
  have hY := H3.out.setQ (u := .slice uA ((s.rd r).q.length + 1) uc) (l := (s.rd r).q ++ [i]) hr hX (by rw [qL_snoc, List.length_append]; exact ho) (by
    rcases hat with h1 | h1
    · exact .inr (.inl h1)
    · exact .inr (.inr ⟨_, h1, by simp⟩))
  have bY : Below E.base w (X.setCell ⟨E.R, r * 9 + 5, none⟩ (.slice uA ((s.rd r).q.length + 1) uc)) := ((bZ.trans ((Below.refl _ Z).alloc hZi.bas.2.2.2 _)).trans (H3.out.belQ hr hX)).setCell hZi.bas.2.1 _
  obtain ⟨qs1, hqs1⟩ : ∃ q : Nat → Value, q = (fun k => if k = r then .slice uA ((s.rd r).q.length + 1) uc else qs k) := ⟨_, rfl⟩
  rw [← hqs1] at hY
  clear hqs1 hqo m1 m2 m3 H3 ho hX hnil hat q5
  go_upto_region 3 with (fail)
  obtain ⟨Y, hYY⟩ : ∃ Y, Y = X.setCell ⟨E.R, r * 9 + 5, none⟩ (.slice uA ((s.rd r).q.length + 1) uc) := ⟨_, rfl⟩
  rw [← hYY] at hY bY ⊢
  clear hYY f5 k5 hZi bZ
  obtain ⟨s1, hs1⟩ : ∃ t, t = s.modR r fun x => { x with q := (s.rd r).q ++ [i] } := ⟨_, rfl⟩
  rw [← hs1] at hY HS
  have hi1 : i < s1.groups.length := by rw [hs1]; exact hi
  have hg1 : s1.grp i = s.grp i := by rw [hs1]; rfl
  have hn1 : s1.now = s.now := by rw [hs1]; rfl
  rw [← hn1] at hn HS
  rw [← hg1] at hpt HS
  clear hs1 hg1 hn1
  obtain ⟨_, v1, _, l1⟩ := hY.vc
  obtain ⟨_, _, _, c4, c5, c6, _, c8, _, l3⟩ := hY.gc hi1
  have f5 := hY.frG hi1 (i * 10 + 5)
  have f8 := hY.frG hi1 (i * 10 + 8)
  have f6 := hY.frG hi1 (i * 10 + 6)
  have hne : ¬ E.v = E.G := hY.ev.ty.ne (hY.gp (by omega)).ty (by decide)
  have e1 : IntKind.i64.wrap (s1.now + (s1.grp i).g.patience) = s1.now + (s1.grp i).g.patience := IntWalk.i64_in _ (by omega)
  have e2 : IntKind.i64.wrap (s1.now + (s1.grp i).g.patience + 1) = s1.now + (s1.grp i).g.patience + 1 := IntWalk.i64_in _ (by omega)
  have h1 := hY.setG (j := 5) (u := .int .i64 2) hi1 (by omega) (fun g => { g with place := 2 }) (fun _ => rfl) (fun _ => lt_ten rfl rfl rfl rfl rfl rfl rfl rfl rfl rfl)
  have h2 := h1.setG (i := i) (j := 8) (u := .int .i64 s1.now) (by rw [len_modG]; exact hi1) (by omega) (fun g => { g with came := s1.now }) (fun _ => rfl) (fun _ => lt_ten rfl rfl rfl rfl rfl rfl rfl rfl rfl rfl)
  have b2 : Below E.base w ((Y.setCell ⟨E.G, i * 10 + 5, none⟩ (.int .i64 2)).setCell ⟨E.G, i * 10 + 8, none⟩ (.int .i64 s1.now)) := (bY.setCell hY.bas.2.2.1 _).setCell hY.bas.2.2.1 _
  have H2 := Lib.hid h2
  clear h1 h2 bY
  go_upto_region 4 with (fail)
  obtain ⟨V, hV⟩ : ∃ V, V = (Y.setCell ⟨E.G, i * 10 + 5, none⟩ (.int .i64 2)).setCell ⟨E.G, i * 10 + 8, none⟩ (.int .i64 s1.now) := ⟨_, rfl⟩
  rw [← hV] at H2 b2 ⊢
  clear hV v1 l1 c4 c5 c6 c8 l3 f5 f8 f6 hne
  obtain ⟨s2, hs2⟩ : ∃ t, t = (s1.modG i fun g => { g with place := 2 }).modG i fun g => { g with came := s1.now } := ⟨_, rfl⟩
  rw [← hs2] at H2 HS
  have hi2 : i < s2.groups.length := by rw [hs2, len_modG, len_modG]; exact hi1
  have hn2 : s2.now = s1.now := by rw [hs2]; rfl
  have hp2 : (s2.grp i).g.patience = (s1.grp i).g.patience := by rw [hs2, modG_twice, grp_modG _ _ _ _ hi1, if_pos rfl]
  have h2 := H2.out
  obtain ⟨_, v1, _, l1⟩ := h2.vc
  obtain ⟨_, _, _, c4, c5, c6, _, c8, _, l3⟩ := h2.gc hi2
  have f6 := h2.frG hi2 (i * 10 + 6)
  have hne : ¬ E.v = E.G := h2.ev.ty.ne (h2.gp (by omega)).ty (by decide)
  rw [hp2] at c4
  rw [hn2] at v1
  have h3 := (h2.grow (below_drewN (Below.refl _ V) 1)).setG (i := i) (j := 6) (u := .int .i64 (s1.now + (s1.grp i).g.patience + 1)) hi2 (by omega) (fun g => { g with til := s1.now + (s1.grp i).g.patience + 1 }) (fun _ => rfl) (fun _ => lt_ten rfl rfl rfl rfl rfl rfl rfl rfl rfl rfl)
  have b3 : Below E.base w ((V.drewN 1).setCell ⟨E.G, i * 10 + 6, none⟩ (.int .i64 (s1.now + (s1.grp i).g.patience + 1))) := (below_drewN b2 1).setCell h2.bas.2.2.1 _
  have H3 := Lib.hid h3
  clear h2 h3 H2 b2 hs2 hn2 hp2
  refine wp_tail 14 (by kernel_rfl) (by kernel_rfl) ?_
  simp only [List.take_succ_cons, List.take_zero, List.drop_succ_cons, List.drop_zero]
  repeat still_step
  refine wpStill_nil ?_
  go_wp2_with fail
  go_end0
  exact ⟨rfl, b3, _, _, by rw [HS.out]; exact H3.out⟩
end Go.Proofs.Ytijbhcdnbaaobaa
