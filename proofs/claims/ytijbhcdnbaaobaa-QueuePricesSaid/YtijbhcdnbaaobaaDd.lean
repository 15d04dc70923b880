/- Contract of the specification's on. Conditions: the play lies in memory. -/
import Derived.Test.YtijbhcdnbaaobaaDc
namespace Go.Proofs.Ytijbhcdnbaaobaa
open Go.RowKit

def onR (E : RfE) (x : RawR) (i : Nat) : RawR :=
  let x1 := (x.setGu i 1 (x.gu i 1 + 1)).setGu i 2 x.now
  if ((E.l.getD i default).wants.length : Int) ≤ x.gu i 1 + 1 then (x1.setGu i 0 4).setT 4 i x.now
  else if E.f.walk = 0 then standR E (x1.setGu i 0 1) i else x1.setGu i 0 1
theorem upd2_at (g : Nat → Nat → Int) (i j : Nat) (v : Int) : upd2 g i j v i j = v := by simp [upd2]
theorem upd2_ne (g : Nat → Nat → Int) (i j : Nat) (v : Int) {a b : Nat} (h : ¬ (a = i ∧ b = j)) : upd2 g i j v a b = g a b := by unfold upd2; rw [if_neg h]
set_option maxRecDepth 100000 in
set_option maxHeartbeats 2000000 in
theorem ron_any {E : RfE} {w : World} {x : RawR} (h : RfAt E w x) (S : StatE E) {i : Nat} (hi : i < E.l.length) (hw : -1 ≤ x.gu i 1 ∧ x.gu i 1 ≤ 100) (hq : ∀ r, r < E.f.rides.length → (x.q r).length ≤ 1000) :
    Calls Try.prog 80 #[.pointer (some ⟨E.v, 0, none⟩), .int .i64 i] w (StepRf E w (onR E x i)) := by
  obtain ⟨qs, uv, h⟩ := h
  have hng := S.ng
  have hii : (i : Int) < (E.l.length : Int) := by omega
  have hwl := (S.gp i hi).2.2.2.1
  have e1 : IntKind.i64.wrap (x.gu i 1 + 1) = x.gu i 1 + 1 := IntWalk.i64_in _ (by omega)
  have c1 := (h.gc hi).2.1
  have c2 := (h.gc hi).2.2.1
  have lG := (h.gc hi).2.2.2.2
  have v4 := h.pG (by omega)
  obtain ⟨-, -, -, v3, -, lv⟩ := h.pc
  have fG1 := h.frG hi (i * 4 + 1)
  have fG2 := h.frG hi (i * 4 + 2)
  have hne : ¬ E.v = E.G := h.pl.ty.ne (h.gu (by omega)).ty (by decide)
  have k1 := h.setGu (j := 1) hi (by omega) (x.gu i 1 + 1)
  have k2 := k1.setGu (i := i) (j := 2) hi (by omega) x.now
  have bU := ((Below.refl E.base w).setCell (p := ⟨E.G, i * 4 + 1, none⟩) h.bG (.int .i64 (x.gu i 1 + 1))).setCell (p := ⟨E.G, i * 4 + 2, none⟩) h.bG (.int .i64 x.now)
  have K2 := Lib.hid k2
  have BU := Lib.hid bU
  obtain ⟨x1, hx1⟩ : ∃ y, y = (x.setGu i 1 (x.gu i 1 + 1)).setGu i 2 x.now := ⟨_, rfl⟩
  rw [← hx1] at K2
  have HW : Hid (x1.gu i 1 = x.gu i 1 + 1) := by
    show _ = _
    rw [hx1]
    show upd2 (upd2 x.gu i 1 _) i 2 _ i 1 = _
    rw [upd2_ne _ _ _ _ (by omega), upd2_at]
  have HN : Hid (x1.now = x.now) := by show _ = _; rw [hx1]; rfl
  have HQ : Hid (∀ r, r < E.f.rides.length → (x1.q r).length ≤ 1000) := by rw [hx1]; exact hq
  have HON : Hid (onR E x i = if ((E.l.getD i default).wants.length : Int) ≤ x.gu i 1 + 1 then (x1.setGu i 0 4).setT 4 i x.now else if E.f.walk = 0 then standR E (x1.setGu i 0 1) i else x1.setGu i 0 1) := by rw [hx1]; rfl
  clear k1 k2 bU hx1 hq h
  go_enter Try.func80, Try.ntmps80
  go_upto_region 3 with (fail)
  obtain ⟨U, hUU⟩ : ∃ U, U = (w.setCell ⟨E.G, i * 4 + 1, none⟩ (.int .i64 (x.gu i 1 + 1))).setCell ⟨E.G, i * 4 + 2, none⟩ (.int .i64 x.now) := ⟨_, rfl⟩
  rw [← hUU] at K2 BU ⊢
  clear hUU c1 c2 lG v4 v3 lv fG1 fG2 hne e1
  have k := K2.out
  have d1 := (k.gc hi).2.1
  rw [HW.out] at d1
  have lG := (k.gc hi).2.2.2.2
  obtain ⟨-, -, v2, v3, -, lv⟩ := k.pc
  obtain ⟨b2, o2, ha2, hb2, -, -, -, l3, -⟩ := k.lc hi
  rw [ha2] at v2
  obtain ⟨nw, hnw⟩ : ∃ n, n = (E.l.getD i default).wants.length := ⟨_, rfl⟩
  rw [← hnw] at l3 hwl HON
  have HNW := Lib.hid hnw
  clear ha2 hnw k
  by_cases hge : (nw : Int) ≤ x.gu i 1 + 1
  · rw [if_pos hge] at HON
    go_quiet (fail)
    have hV0 : RfIn E (U.drewN nq) x1 qs uv := K2.out.grow (below_drewN (Below.refl _ _) nq)
    have bV : Below E.base w (U.drewN nq) := below_drewN BU.out nq
    obtain ⟨V, hV⟩ : ∃ V, V = U.drewN nq := ⟨_, rfl⟩
    rw [← hV] at hV0 bV ⊢
    clear hV d1 lG v2 v3 lv hb2 l3 K2 BU hge
    have lG := (hV0.gc hi).2.2.2.2
    have g0 := (hV0.gc hi).1
    have fG0 := hV0.frG hi (i * 4)
    have k1 := hV0.setGu (j := 0) hi (by omega) 4
    have bX := bV.setCell (p := ⟨E.G, i * 4 + 0, none⟩) hV0.bG (.int .i64 4)
    rw [Nat.add_zero] at k1 bX
    have K1 := Lib.hid k1
    have BX := Lib.hid bX
    clear k1 bX hV0 bV
    go_upto_region 5 with (fail)
    obtain ⟨X, hX⟩ : ∃ X, X = V.setCell ⟨E.G, i * 4, none⟩ (.int .i64 4) := ⟨_, rfl⟩
    rw [← hX] at K1 BX ⊢
    clear hX lG g0 fG0
    have k := K1.out
    obtain ⟨-, -, -, v3, -, lv⟩ := k.pc
    have hn3 : (x1.setGu i 0 4).now = x.now := HN.out
    rw [hn3] at v3
    have v11 := k.pH (by omega)
    obtain ⟨t4, lt4, ft4⟩ := k.tc (k := 4) (by omega) (show i < E.tn 4 from hi)
    have f4 := ft4 i
    have k5 := (k.grow (below_drewN (Below.refl _ X) 1)).setT (k := 4) (i := i) (by omega) hi x.now
    have b5 := (below_drewN BX.out 1).setCell (p := ⟨E.T 4, i, none⟩) (k.bT 4 (by omega)) (.int .i64 x.now)
    have K5 := Lib.hid k5
    have B5 := Lib.hid b5
    clear k k5 b5 K1 BX ft4 hn3
    refine wp_tail 9 (by kernel_rfl) (by kernel_rfl) ?_
    simp only [List.take_succ_cons, List.take_zero, List.drop_succ_cons, List.drop_zero]
    repeat still_step
    refine wpStill_nil ?_
    go_wp2_with fail
    go_end0
    exact ⟨rfl, B5.out, _, _, by rw [HON.out]; exact K5.out⟩
  · rw [if_neg hge] at HON
    go_quiet (fail)
    have hV0 : RfIn E (U.drewN nq) x1 qs uv := K2.out.grow (below_drewN (Below.refl _ _) nq)
    have bV : Below E.base w (U.drewN nq) := below_drewN BU.out nq
    obtain ⟨V, hV⟩ : ∃ V, V = U.drewN nq := ⟨_, rfl⟩
    rw [← hV] at hV0 bV ⊢
    clear hV d1 lG v2 v3 lv hb2 l3 K2 BU
    have lG := (hV0.gc hi).2.2.2.2
    have g0 := (hV0.gc hi).1
    have fG0 := hV0.frG hi (i * 4)
    obtain ⟨-, v1, -, -, -, lv⟩ := hV0.pc
    have hne : ¬ E.v = E.G := hV0.pl.ty.ne (hV0.gu (by omega)).ty (by decide)
    have k1 := hV0.setGu (j := 0) hi (by omega) 1
    have bX := bV.setCell (p := ⟨E.G, i * 4 + 0, none⟩) hV0.bG (.int .i64 1)
    rw [Nat.add_zero] at k1 bX
    have HW2 : (x1.setGu i 0 1).gu i 1 = x.gu i 1 + 1 := by
      show upd2 x1.gu i 0 1 i 1 = _
      rw [upd2_ne _ _ _ _ (by omega)]
      exact HW.out
    have HST := Lib.hid (rstand_any (i := i) ⟨_, _, k1⟩ S hi (by rw [HW2]; omega) (by rw [HW2, ← HNW.out]; omega) HQ.out)
    have K1 := Lib.hid k1
    have BX := Lib.hid bX
    clear k1 bX hV0 bV HW2
    by_cases hw0 : E.f.walk = 0
    · rw [if_pos hw0] at HON
      rw [hw0] at v1
      clear hw0
      go_wp2_with (go_at_call 81; refine HST.out.mono ?_; rintro e w9 ⟨rfl, hb9, hr9⟩; have HB9 := Lib.hid (BX.out.trans hb9); have HR9 := Lib.hid hr9; clear hb9 hr9)
      go_end0
      exact ⟨rfl, HB9.out, by rw [HON.out]; exact HR9.out⟩
    · rw [if_neg hw0] at HON
      go_wp2_with fail
      go_end0
      exact ⟨rfl, BX.out, _, _, by rw [HON.out]; exact K1.out⟩
end Go.Proofs.Ytijbhcdnbaaobaa
