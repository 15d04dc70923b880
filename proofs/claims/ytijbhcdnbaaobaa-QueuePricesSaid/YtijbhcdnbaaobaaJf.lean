/- Contract of queue's price. Conditions: the evening lies in memory, and its numbers are small. -/
import Derived.Test.YtijbhcdnbaaobaaJd
/- Contract of queue's goOn. Conditions: the evening lies in memory, and its numbers are small. -/
namespace Go.Proofs.Ytijbhcdnbaaobaa
open Go.RowKit

theorem fit_modG {s : EvS} (h : FitS s) (i : Nat) (f : GpS → GpS) (hg : ∀ x, (f x).g = x.g) (ht : ∀ x, (f x).tok = x.tok) : FitS (s.modG i f) := by
  have hl : (s.modG i f).groups.length = s.groups.length := len_modG s i f
  have e : ∀ k, k < s.groups.length → ((s.modG i f).grp k).g = (s.grp k).g ∧ ((s.modG i f).grp k).tok = (s.grp k).tok := fun k hk => by
    by_cases hi : i < s.groups.length
    · rw [grp_modG s i k f hi]
      split
      · rename_i e; subst e; exact ⟨hg _, ht _⟩
      · exact ⟨rfl, rfl⟩
    · have : s.modG i f = s := by
        unfold EvS.modG
        rw [List.modify_eq_self (by omega)]
      rw [this]; exact ⟨rfl, rfl⟩
  refine ⟨h.nr, by rw [hl]; exact h.ng, h.walk, fun k hk => ?_, fun k hk => ?_, fun k hk w hw => ?_, h.rd, h.taken, fun r => ⟨(h.que r).1, fun k hk => by rw [hl]; exact (h.que r).2 k hk⟩, h.vis⟩
  · rw [hl] at hk; rw [(e k hk).1]; exact h.gp k hk
  · rw [hl] at hk; rw [(e k hk).2]; exact h.tok k hk
  · rw [hl] at hk; rw [(e k hk).1] at hw; exact h.wish k hk w hw
theorem EvIn.set2 {E : EvE} {w : World} {s : EvS} {qs : Nat → Value} {uv : Value} (h : EvIn E w s qs uv) {i j k : Nat} {u x : Value} (hi : i < s.groups.length) (hj : j < 10) (hk : k < 10) (f g : GpS → GpS) (hfg : ∀ x, (f x).g = x.g) (hgg : ∀ x, (g x).g = x.g)
    (hfv : ∀ x b, b < 10 → gpV (E.ref i) (f x) b = if b = j then u else gpV (E.ref i) x b) (hgv : ∀ y b, b < 10 → gpV (E.ref i) (g y) b = if b = k then x else gpV (E.ref i) y b) :
    EvIn E ((w.setCell ⟨E.G, i * 10 + j, none⟩ u).setCell ⟨E.G, i * 10 + k, none⟩ x) (s.modG i fun z => g (f z)) qs uv := by
  have q2 := (h.setG hi hj f hfg hfv).setG (i := i) (by rw [len_modG]; exact hi) hk g hgg hgv
  rw [modG_twice] at q2
  exact q2
theorem EvIn.bel2 {E : EvE} {w w0 : World} {s : EvS} {qs : Nat → Value} {uv : Value} (h : EvIn E w s qs uv) (hb : Below E.base w0 w) (j k : Nat) (u x : Value) : Below E.base w0 ((w.setCell ⟨E.G, j, none⟩ u).setCell ⟨E.G, k, none⟩ x) := (hb.setCell h.bas.2.2.1 _).setCell h.bas.2.2.1 _
set_option maxRecDepth 100000 in
set_option maxHeartbeats 2000000 in
theorem goOn_any {E : EvE} {w : World} {s : EvS} (h : EvAt E w s) {i : Nat} (hi : i < s.groups.length) (hf : FitS s) (hn : 0 ≤ s.now ∧ s.now ≤ 4000) (h0 : -1 ≤ (s.grp i).want) (h1 : (s.grp i).want < ((s.grp i).g.wants.length : Int)) :
    Calls Try.prog 91 #[.pointer (some ⟨E.v, 0, none⟩), .int .i64 i] w (StepTo E w (goOnS s i)) := by
  obtain ⟨qs, uv, h⟩ := h
  obtain ⟨v0, v1, v4, l1⟩ := h.vc
  have v3 := h.vG hi
  have hng := hf.ng
  have hi' : (i : Int) < (s.groups.length : Int) := by omega
  have c7 := (h.gc hi).2.2.2.2.2.2.1
  have l3 := (h.gc hi).2.2.2.2.2.2.2.2.2
  have f7 := h.frG hi (i * 10 + 7)
  have hw10 := (hf.gp i hi).2.2
  have e1 : IntKind.i64.wrap ((s.grp i).want + 1) = (s.grp i).want + 1 := IntWalk.i64_in _ (by omega)
  have hY := h.setG (j := 7) (u := .int .i64 ((s.grp i).want + 1)) hi (by omega) (fun g => { g with want := (s.grp i).want + 1 }) (fun _ => rfl) (fun _ => lt_ten rfl rfl rfl rfl rfl rfl rfl rfl rfl rfl)
  have bY : Below E.base w (w.setCell ⟨E.G, i * 10 + 7, none⟩ (.int .i64 ((s.grp i).want + 1))) := (Below.refl _ _).setCell h.bas.2.2.1 _
  have HY := Lib.hid hY
  have hcg : (s.modG i fun g => { g with want := g.want + 1 }) = s.modG i fun g => { g with want := (s.grp i).want + 1 } := modG_congr _ _ _ _ rfl
  have HS : Hid (goOnS s i = if ((s.modG i fun g => { g with want := (s.grp i).want + 1 }).grp i).want = (((s.modG i fun g => { g with want := (s.grp i).want + 1 }).grp i).g.wants.length : Int) then (s.modG i fun g => { g with want := (s.grp i).want + 1 }).modG i fun g => { g with place := 4, home := s.now }
      else if s.walk = 0 then standS (s.modG i fun g => { g with want := (s.grp i).want + 1 }) i else (s.modG i fun g => { g with want := (s.grp i).want + 1 }).modG i fun g => { g with place := 1, til := s.now + s.walk }) := by
    show _ = _
    unfold goOnS
    rw [hcg]
  have hf1 := fit_modG hf i (fun g => { g with want := (s.grp i).want + 1 }) (fun _ => rfl) (fun _ => rfl)
  clear hY hcg h
  go_enter Try.func91, Try.ntmps91
  go_upto_region 3 with (fail)
  obtain ⟨Y, hYY⟩ : ∃ Y, Y = w.setCell ⟨E.G, i * 10 + 7, none⟩ (.int .i64 ((s.grp i).want + 1)) := ⟨_, rfl⟩
  rw [← hYY] at HY bY ⊢
  clear hYY v0 v1 v4 l1 v3 c7 l3 f7 e1
  obtain ⟨s1, hs1⟩ : ∃ t, t = s.modG i fun g => { g with want := (s.grp i).want + 1 } := ⟨_, rfl⟩
  rw [← hs1] at HY HS hf1
  have hi1 : i < s1.groups.length := by rw [hs1, len_modG]; exact hi
  have hg1 : s1.grp i = { s.grp i with want := (s.grp i).want + 1 } := by rw [hs1, grp_modG _ _ _ _ hi, if_pos rfl]
  have hw1 : 0 ≤ (s1.grp i).want ∧ (s1.grp i).want ≤ ((s1.grp i).g.wants.length : Int) := by rw [hg1]; dsimp only; omega
  have hn1 : s1.now = s.now := by rw [hs1]; rfl
  have hk1 : s1.walk = s.walk := by rw [hs1]; rfl
  rw [← hn1] at hn HS
  rw [← hk1] at HS
  have hwk := hf1.walk
  clear hs1 hg1 hn1 hk1 hw10 hf h0 h1 hi hng hi'
  have hng := hf1.ng
  have hi' : (i : Int) < (s1.groups.length : Int) := by omega
  have hY := HY.out
  obtain ⟨v0, v1, v4, l1⟩ := hY.vc
  have v3 := hY.vG hi1
  obtain ⟨_, _, c3, c4, c5, c6, c7, c8, c9, l3⟩ := hY.gc hi1
  have f5 := hY.frG hi1 (i * 10 + 5)
  have f9 := hY.frG hi1 (i * 10 + 9)
  have f6 := hY.frG hi1 (i * 10 + 6)
  have hne : ¬ E.v = E.G := hY.ev.ty.ne (hY.gp (by omega)).ty (by decide)
  have e2 : IntKind.i64.wrap (s1.now + s1.walk) = s1.now + s1.walk := IntWalk.i64_in _ (by omega)
  clear hY
  by_cases hend : (s1.grp i).want = ((s1.grp i).g.wants.length : Int)
  · have HG : Hid (goOnS s i = s1.modG i fun g => { g with place := 4, home := s1.now }) := by show _ = _; rw [HS.out, if_pos hend]
    have d1 : ((s1.grp i).want == ((s1.grp i).g.wants.length : Int)) = true := by simpa using hend
    clear hend HS
    go_quiet (fail)
    go_wp2_with fail
    go_end0
    have hQ := HY.out.grow (below_drewN (Below.refl _ Y) nq)
    have q2 := hQ.set2 (u := .int .i64 4) (x := .int .i64 s1.now) (j := 5) (k := 9) hi1 (by omega) (by omega) (fun g => { g with place := 4 }) (fun g => { g with home := s1.now }) (fun _ => rfl) (fun _ => rfl) (fun _ => lt_ten rfl rfl rfl rfl rfl rfl rfl rfl rfl rfl) (fun _ => lt_ten rfl rfl rfl rfl rfl rfl rfl rfl rfl rfl)
    exact ⟨rfl, hQ.bel2 (below_drewN bY _) _ _ _ _, _, _, by rw [HG.out]; exact q2⟩
  · have d1 : ((s1.grp i).want == ((s1.grp i).g.wants.length : Int)) = false := by simpa using hend
    have hlt : (s1.grp i).want < ((s1.grp i).g.wants.length : Int) := by omega
    by_cases hw0 : s1.walk = 0
    · have HG : Hid (goOnS s i = standS s1 i) := by show _ = _; rw [HS.out, if_neg hend, if_pos hw0]
      have d2 : (s1.walk == 0) = true := by simpa using hw0
      have Hst : Hid (∀ n, Calls Try.prog 92 #[.pointer (some ⟨E.v, 0, none⟩), .int .i64 i] (Y.drewN n) (StepTo E (Y.drewN n) (standS s1 i))) := fun n => stand_any (HY.out.grow (below_drewN (Below.refl _ _) n)).at_ hi1 hf1 hn hw1.1 hlt
      have HB := Lib.hid bY
      clear hend hw0 HS
      go_quiet (fail)
      go_wp2_with (go_at_call 92; refine (Hst.out _).mono ?_; rintro e w' ⟨rfl, hb', he'⟩)
      go_end0
      exact ⟨rfl, (below_drewN HB.out _).trans hb', by rw [HG.out]; exact he'⟩
    · have HG : Hid (goOnS s i = s1.modG i fun g => { g with place := 1, til := s1.now + s1.walk }) := by show _ = _; rw [HS.out, if_neg hend, if_neg hw0]
      have d2 : (s1.walk == 0) = false := by simpa using hw0
      clear hend hw0 HS
      go_quiet (fail)
      go_wp2_with fail
      have hQ := HY.out.grow (below_drewN (Below.refl _ Y) nq)
      have bQ := below_drewN bY nq
      obtain ⟨Q, hQQ⟩ : ∃ Q, Q = Y.drewN nq := ⟨_, rfl⟩
      rw [← hQQ] at hQ bQ ⊢
      clear hQQ v0 v1 v4 l1 v3 c3 c4 c5 c6 c7 c8 c9 l3 f5 f9 f6
      obtain ⟨v0, v1, _, l1⟩ := hQ.vc
      obtain ⟨_, _, _, _, c5, c6, _, _, _, l3⟩ := hQ.gc hi1
      have f5 := hQ.frG hi1 (i * 10 + 5)
      have f6 := hQ.frG hi1 (i * 10 + 6)
      have q2 := (hQ.grow (below_drewN (Below.refl _ Q) 1)).set2 (u := .int .i64 1) (x := .int .i64 (s1.now + s1.walk)) (j := 5) (k := 6) hi1 (by omega) (by omega) (fun g => { g with place := 1 }) (fun g => { g with til := s1.now + s1.walk }) (fun _ => rfl) (fun _ => rfl) (fun _ => lt_ten rfl rfl rfl rfl rfl rfl rfl rfl rfl rfl) (fun _ => lt_ten rfl rfl rfl rfl rfl rfl rfl rfl rfl rfl)
      have b2 := (hQ.grow (below_drewN (Below.refl _ Q) 1)).bel2 (below_drewN bQ 1) (i * 10 + 5) (i * 10 + 6) (.int .i64 1) (.int .i64 (s1.now + s1.walk))
      have H2 := Lib.hid q2
      clear hQ q2 bQ
      go_region
      go_wp2_with fail
      go_end0
      exact ⟨rfl, b2, _, _, by rw [HG.out]; exact H2.out⟩
end Go.Proofs.Ytijbhcdnbaaobaa
namespace Go.Proofs.Ytijbhcdnbaaobaa
open Go.RowKit

theorem cost_bd {s : EvS} (hf : FitS s) {i r : Nat} (hi : i < s.groups.length) (hr : r < s.rides.length) : 0 ≤ costS s i r ∧ costS s i r ≤ 4000 := by
  have h1 := (hf.rd r hr).2.1
  have h2 := (hf.gp i hi).2.1
  unfold costS
  refine ⟨Int.mul_nonneg h1.1 (by omega), ?_⟩
  have := Int.mul_le_mul h1.2 h2.2 (by omega) (by omega)
  omega
set_option maxHeartbeats 1000000 in
theorem price_any {E : EvE} {w : World} {s : EvS} {qs : Nat → Value} {uv : Value} (h : EvIn E w s qs uv) {i r : Nat} (hi : i < s.groups.length) (hr : r < s.rides.length) (hb : 0 ≤ costS s i r ∧ costS s i r ≤ 4000) :
    Calls Try.prog 129 #[.pointer (some ⟨E.R, r * 9, none⟩), .pointer (some ⟨E.G, i * 10, none⟩)] w fun e w' => e = .returned (.int .i64 (costS s i r)) ∧ ∃ n, w' = w.drewN n := by
  have c1 := (h.gc hi).1
  have q1 := (h.rc hr).2.1
  unfold costS at hb ⊢
  generalize (s.rd r).b.price = p at *
  generalize (s.grp i).g.size = z at *
  have e1 : IntKind.i64.wrap (p * z) = p * z := IntWalk.i64_in _ (by omega)
  clear h hi hr hb
  go_enter Try.func129, Try.ntmps129
  go_wp2_with fail
  go_quiet (fail)
  go_wp2_with fail
  go_ret
  exact ⟨rfl, _, rfl⟩
end Go.Proofs.Ytijbhcdnbaaobaa
