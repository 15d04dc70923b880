/- Contract of queue's getOn. Conditions: the evening lies in memory, its numbers are small, the group stands in its queue and can pay. -/
import Derived.Test.YtijbhcdnbaaobaaJh
/- Contract of queue's giveUp. Conditions: the evening lies in memory, its numbers are small, and the group stands in its queue. -/
namespace Go.Proofs.Ytijbhcdnbaaobaa
open Go.RowKit

set_option maxHeartbeats 1000000 in
theorem giveUp_any {E : EvE} {w : World} {s : EvS} (h : EvAt E w s) {i : Nat} (hi : i < s.groups.length) (hf : FitS s) (hv : s.visits.length ≤ 900) (hn : 0 ≤ s.now ∧ s.now ≤ 4000) (h0 : 0 ≤ (s.grp i).want) (h1 : (s.grp i).want < ((s.grp i).g.wants.length : Int)) (hm : i ∈ (s.rd (s.grp i).goal).q) :
    Calls Try.prog 93 #[.pointer (some ⟨E.v, 0, none⟩), .int .i64 i] w (StepTo E w (giveUpS s i)) := by
  have H1 := Lib.hid (leave_any h false hi hf h0 h1 hm)
  have H2 : Hid (∀ X, EvAt E X (leaveS s i false) → Calls Try.prog 91 #[.pointer (some ⟨E.v, 0, none⟩), .int .i64 i] X (StepTo E X (giveUpS s i))) :=
    fun X hX => goOn_any hX hi (fit_leave hf hv i false) hn (by show -1 ≤ (s.grp i).want; omega) h1
  clear h hi hf hv hn h0 h1 hm
  go_enter Try.func93, Try.ntmps93
  go_upto_region 1 with (go_at_call 110; refine H1.out.mono ?_; rintro e X ⟨rfl, hb, hX⟩)
  have HB := Lib.hid hb
  have H3 := Lib.hid (H2.out X hX)
  clear hb hX
  go_wp2_with (go_at_call 91; refine H3.out.mono ?_; rintro e Y ⟨rfl, hb2, hY⟩)
  go_end0
  exact ⟨rfl, HB.out.trans hb2, hY⟩
end Go.Proofs.Ytijbhcdnbaaobaa
namespace Go.Proofs.Ytijbhcdnbaaobaa
open Go.RowKit

theorem cost_leave (s : EvS) (i j r : Nat) (on : Bool) : costS (leaveS s i on) j r = costS s j r := by
  rw [cost_fix (keep_leave s i on).1]
theorem getOn_eq (s : EvS) (i : Nat) (r : Nat) (hr : r = (s.grp i).goal) : getOnS s i = (((leaveS s i true).modG i fun g => { g with tok := (s.grp i).tok - costS s i r }).modR r fun x => { x with taken := ((leaveS s i true).rd r).taken + costS s i r }).modG i fun g => { g with place := 3, til := s.now + (s.rd r).b.cycle } := by
  subst hr
  unfold getOnS
  dsimp only
  have h1 : ((leaveS s i true).modG i fun g => { g with tok := g.tok - costS s i (s.grp i).goal, place := 3, til := s.now + (s.rd (s.grp i).goal).b.cycle }) = (((leaveS s i true).modG i fun g => { g with tok := (s.grp i).tok - costS s i (s.grp i).goal }).modG i fun g => { g with place := 3, til := s.now + (s.rd (s.grp i).goal).b.cycle }) := by
    rw [modG_twice]
    exact modG_congr _ _ _ _ rfl
  rw [h1]
  exact modR_congr _ _ _ _ rfl
set_option maxRecDepth 100000 in
set_option maxHeartbeats 4000000 in
theorem getOn_any {E : EvE} {w : World} {s : EvS} (h : EvAt E w s) {i : Nat} (hi : i < s.groups.length) (hf : FitS s) (hv : s.visits.length ≤ 900) (hn : 0 ≤ s.now ∧ s.now ≤ 4000) (h0 : 0 ≤ (s.grp i).want) (h1 : (s.grp i).want < ((s.grp i).g.wants.length : Int)) (hm : i ∈ (s.rd (s.grp i).goal).q) (hc : costS s i (s.grp i).goal ≤ (s.grp i).tok) :
    Calls Try.prog 130 #[.pointer (some ⟨E.v, 0, none⟩), .int .i64 i] w (StepTo E w (getOnS s i)) := by
  have H1 := Lib.hid (leave_any h true hi hf h0 h1 hm)
  obtain ⟨r, hr⟩ : ∃ r, r = (s.grp i).goal := ⟨_, rfl⟩
  have HS := Lib.hid (getOn_eq s i r hr)
  have hrl : r < s.rides.length := by
    obtain ⟨qs, uv, h⟩ := h
    obtain ⟨_, _, _, _, _, _, _, _, hgl⟩ := h.wish hi hf.wish h0 h1
    rw [hr]; exact hgl
  have hft := fit_leave hf hv i true
  have hcb := cost_bd hf hi hrl
  have htk := hf.tok i hi
  have hcy := (hf.rd r hrl).2.2.1
  have htn := hft.taken r (by rw [leave_rlen]; exact hrl)
  rw [← hr] at hc
  have Hr := Lib.hid hr
  obtain ⟨t, ht⟩ : ∃ t, t = leaveS s i true := ⟨_, rfl⟩
  have hit : i < t.groups.length := by rw [ht]; exact hi
  have hgt : t.grp i = s.grp i := by rw [ht]; rfl
  have hrt : r < t.rides.length := by rw [ht, leave_rlen]; exact hrl
  have hct : costS t i r = costS s i r := by rw [ht]; exact cost_leave _ _ _ _ _
  have hnt : t.now = s.now := by rw [ht]; rfl
  have hct2 : (t.rd r).b.cycle = (s.rd r).b.cycle := by rw [ht, fix_rd (keep_leave s i true).1]
  rw [← ht] at H1 HS hft htn
  have hng := hft.ng
  have hi' : (i : Int) < (t.groups.length : Int) := by omega
  have hi0 : (0 : Int) ≤ (i : Int) := by omega
  clear h hf hv hm hi hrl ht
  go_enter Try.func130, Try.ntmps130
  go_upto_region 1 with (go_at_call 110; refine H1.out.mono ?_; rintro e W ⟨rfl, hb, hX⟩)
  have HB := Lib.hid hb
  obtain ⟨qs, uv, hW⟩ := hX
  have v3 := hW.vG hit
  have l1 := hW.vc.2.2.2
  have HW := Lib.hid hW
  have hw0 := wanted_any hW hit hft (by rw [hgt]; exact h0) (by rw [hgt]; exact h1)
  rw [hgt, ← hr] at hw0
  have Hw := Lib.hid hw0
  clear hw0 hW hb
  rw [hr] at Hr
  have hrh := Lib.hid hr
  clear hr
  go_upto_region 3 with (go_at_call 109; refine Hw.out.mono ?_; rintro e w' ⟨rfl, nd, rfl⟩)
  have hZi : EvIn E (W.drewN nd) t qs uv := HW.out.grow (below_drewN (Below.refl _ _) nd)
  have bZ : Below E.base w (W.drewN nd) := below_drewN HB.out nd
  obtain ⟨Z, hZ⟩ : ∃ Z, Z = W.drewN nd := ⟨_, rfl⟩
  rw [← hZ] at hZi bZ ⊢
  clear hZ v3 l1 HW HB Hw
  have HZ := Lib.hid hZi
  have HBZ := Lib.hid bZ
  have c2 := (hZi.gc hit).2.1
  have lG := (hZi.gc hit).2.2.2.2.2.2.2.2.2
  have lR := (hZi.rc hrt).2.2.2.2.2.2.2.2.2
  have f2 := hZi.frG hit (i * 10 + 2)
  rw [hgt] at c2
  have HP : Hid (∀ y, Below Z.heap.size Z y → Calls Try.prog 129 #[.pointer (some ⟨E.R, r * 9, none⟩), .pointer (some ⟨E.G, i * 10, none⟩)] y fun e w' => e = .returned (.int .i64 (costS s i r)) ∧ ∃ n, w' = y.drewN n) := fun y hy => by
    have := price_any (HZ.out.grow hy) hit hrt (by rw [hct]; exact hcb)
    rw [hct] at this
    exact this
  obtain ⟨tk, htkk⟩ : ∃ x, x = (s.grp i).tok := ⟨_, rfl⟩
  rw [← htkk] at c2 hc htk HS
  have e1 : IntKind.i64.wrap (tk - costS s i r) = tk - costS s i r := IntWalk.i64_in _ (by omega)
  have HHgt := Lib.hid hgt
  have HHct := Lib.hid hct
  have HHnt := Lib.hid hnt
  have HHc2 := Lib.hid hct2
  clear hZi bZ htkk hgt hct hnt hct2
  refine wp_region_add (m := 12) (w0 := Z) (ord := [0, 1, 2, 3, 4, 5, 6, 7, 8, 9, 10, 11, 12]) (ds := [(0, 18), (1, 19), (2, 20), (3, 21), (4, 22), (5, 23), (6, 24), (7, 25), (8, 26), (9, 27), (10, 28), (11, 29)]) (l := [isV (.pointer (some ⟨E.G, i * 10, none⟩)), isV (.pointer (some ⟨E.G, i * 10, none⟩)), isV (.pointer (some ⟨E.G, i * 10, none⟩)), isV (.pointer (some ⟨E.G, i * 10 + 2, none⟩)), isV (.int .i64 tk), isV (.pointer (some ⟨E.R, r * 9, none⟩)), isV (.pointer (some ⟨E.G, i * 10, none⟩)), isV (.int .i64 (costS s i r)), isV (.int .i64 (tk - costS s i r)), isV (.pointer (some ⟨E.G, i * 10, none⟩)), isV (.pointer (some ⟨E.G, i * 10, none⟩)), isV (.pointer (some ⟨E.G, i * 10 + 2, none⟩))]) (by kernel_rfl) (by kernel_rfl) (by first | rfl | kernel_rfl) (AddSteps.cons (k := 0) (k' := 1) rfl ?sa0 (AddSteps.cons (k := 1) (k' := 2) rfl ?sa1 (AddSteps.cons (k := 2) (k' := 3) rfl ?sa2 (AddSteps.cons (k := 3) (k' := 4) rfl ?sa3 (AddSteps.cons (k := 4) (k' := 5) rfl ?sa4 (AddSteps.cons (k := 5) (k' := 6) rfl ?sa5 (AddSteps.cons (k := 6) (k' := 7) rfl ?sa6 (AddSteps.cons (k := 7) (k' := 8) rfl ?sa7 (AddSteps.cons (k := 8) (k' := 9) rfl ?sa8 (AddSteps.cons (k := 9) (k' := 10) rfl ?sa9 (AddSteps.cons (k := 10) (k' := 11) rfl ?sa10 (AddSteps.cons (k := 11) (k' := 12) rfl ?sa11 AddSteps.nil)))))))))))) ?sta ?fina
  case sa0 =>
    refine AddStep.go (o := ⟨some 18, _, _, _, _, _⟩) rfl rfl (fun xs y hy hV K hK => ?_)
    clear hV
    simp only [putsF, List.foldl_cons, List.foldl_nil, Act.put, List.setIfInBounds_toArray, List.set_cons_zero, List.set_cons_succ] at hK ⊢
    go_wp2_with fail
    exact hK.out _ _ (Below.refl _ _) (by exact rfl)
  case sa1 =>
    refine AddStep.go (o := ⟨some 19, _, _, _, _, _⟩) rfl rfl (fun xs y hy hV K hK => ?_)
    have e0 : xs 0 = .pointer (some ⟨E.G, i * 10, none⟩) := (hV 0 (by kernel_rfl))
    clear hV
    simp only [putsF, List.foldl_cons, List.foldl_nil, Act.put, List.setIfInBounds_toArray, List.set_cons_zero, List.set_cons_succ] at hK ⊢
    simp only [e0] at hK ⊢
    clear e0
    go_wp2_with fail
    exact hK.out _ _ (Below.refl _ _) (by exact rfl)
  case sa2 =>
    refine AddStep.go (o := ⟨some 20, _, _, _, _, _⟩) rfl rfl (fun xs y hy hV K hK => ?_)
    have e1 : xs 1 = .pointer (some ⟨E.G, i * 10, none⟩) := (hV 1 (by kernel_rfl))
    clear hV
    simp only [putsF, List.foldl_cons, List.foldl_nil, Act.put, List.setIfInBounds_toArray, List.set_cons_zero, List.set_cons_succ] at hK ⊢
    simp only [e1] at hK ⊢
    clear e1
    go_wp2_with fail
    exact hK.out _ _ (Below.refl _ _) (by exact rfl)
  case sa3 =>
    refine AddStep.go (o := ⟨some 21, _, _, _, _, _⟩) rfl rfl (fun xs y hy hV K hK => ?_)
    have e2 : xs 2 = .pointer (some ⟨E.G, i * 10, none⟩) := (hV 2 (by kernel_rfl))
    clear hV
    simp only [putsF, List.foldl_cons, List.foldl_nil, Act.put, List.setIfInBounds_toArray, List.set_cons_zero, List.set_cons_succ] at hK ⊢
    simp only [e2] at hK ⊢
    clear e2
    go_wp2_with fail
    exact hK.out _ _ (Below.refl _ _) (by exact rfl)
  case sa4 =>
    refine AddStep.go (o := ⟨some 22, _, _, _, _, _⟩) rfl rfl (fun xs y hy hV K hK => ?_)
    have e3 : xs 3 = .pointer (some ⟨E.G, i * 10 + 2, none⟩) := (hV 3 (by kernel_rfl))
    clear hV
    simp only [putsF, List.foldl_cons, List.foldl_nil, Act.put, List.setIfInBounds_toArray, List.set_cons_zero, List.set_cons_succ] at hK ⊢
    simp only [e3] at hK ⊢
    clear e3
    have c2 := (hy.cell (p := ⟨E.G, i * 10 + 2, none⟩) lG).trans c2
    go_wp2_with fail
    exact hK.out _ _ (Below.refl _ _) (by exact rfl)
  case sa5 =>
    refine AddStep.go (o := ⟨some 23, _, _, _, _, _⟩) rfl rfl (fun xs y hy hV K hK => ?_)
    clear hV
    simp only [putsF, List.foldl_cons, List.foldl_nil, Act.put, List.setIfInBounds_toArray, List.set_cons_zero, List.set_cons_succ] at hK ⊢
    go_wp2_with fail
    exact hK.out _ _ (Below.refl _ _) (by exact rfl)
  case sa6 =>
    refine AddStep.go (o := ⟨some 24, _, _, _, _, _⟩) rfl rfl (fun xs y hy hV K hK => ?_)
    clear hV
    simp only [putsF, List.foldl_cons, List.foldl_nil, Act.put, List.setIfInBounds_toArray, List.set_cons_zero, List.set_cons_succ] at hK ⊢
    go_wp2_with fail
    exact hK.out _ _ (Below.refl _ _) (by exact rfl)
  case sa7 =>
    refine AddStep.go (o := ⟨some 25, _, _, _, _, _⟩) rfl rfl (fun xs y hy hV K hK => ?_)
    have e5 : xs 5 = .pointer (some ⟨E.R, r * 9, none⟩) := (hV 5 (by kernel_rfl))
    have e6 : xs 6 = .pointer (some ⟨E.G, i * 10, none⟩) := (hV 6 (by kernel_rfl))
    clear hV
    simp only [putsF, List.foldl_cons, List.foldl_nil, Act.put, List.setIfInBounds_toArray, List.set_cons_zero, List.set_cons_succ] at hK ⊢
    simp only [e5, e6] at hK ⊢
    clear e5 e6
    go_wp2_with (go_at_call 129; refine (HP.out y hy).mono ?_; rintro e w' ⟨rfl, nd, rfl⟩)
    exact hK.out _ _ (below_drewN (Below.refl _ _) _) (by exact rfl)
  case sa8 =>
    refine AddStep.go (o := ⟨some 26, _, _, _, _, _⟩) rfl rfl (fun xs y hy hV K hK => ?_)
    have e4 : xs 4 = .int .i64 tk := (hV 4 (by kernel_rfl))
    have e7 : xs 7 = .int .i64 (costS s i r) := (hV 7 (by kernel_rfl))
    clear hV
    simp only [putsF, List.foldl_cons, List.foldl_nil, Act.put, List.setIfInBounds_toArray, List.set_cons_zero, List.set_cons_succ] at hK ⊢
    simp only [e4, e7] at hK ⊢
    clear e4 e7
    go_wp2_with fail
    exact hK.out _ _ (Below.refl _ _) (by exact rfl)
  case sa9 =>
    refine AddStep.go (o := ⟨some 27, _, _, _, _, _⟩) rfl rfl (fun xs y hy hV K hK => ?_)
    have e0 : xs 0 = .pointer (some ⟨E.G, i * 10, none⟩) := (hV 0 (by kernel_rfl))
    clear hV
    simp only [putsF, List.foldl_cons, List.foldl_nil, Act.put, List.setIfInBounds_toArray, List.set_cons_zero, List.set_cons_succ] at hK ⊢
    simp only [e0] at hK ⊢
    clear e0
    go_wp2_with fail
    exact hK.out _ _ (Below.refl _ _) (by exact rfl)
  case sa10 =>
    refine AddStep.go (o := ⟨some 28, _, _, _, _, _⟩) rfl rfl (fun xs y hy hV K hK => ?_)
    have e9 : xs 9 = .pointer (some ⟨E.G, i * 10, none⟩) := (hV 9 (by kernel_rfl))
    clear hV
    simp only [putsF, List.foldl_cons, List.foldl_nil, Act.put, List.setIfInBounds_toArray, List.set_cons_zero, List.set_cons_succ] at hK ⊢
    simp only [e9] at hK ⊢
    clear e9
    go_wp2_with fail
    exact hK.out _ _ (Below.refl _ _) (by exact rfl)
  case sa11 =>
    refine AddStep.go (o := ⟨some 29, _, _, _, _, _⟩) rfl rfl (fun xs y hy hV K hK => ?_)
    have e10 : xs 10 = .pointer (some ⟨E.G, i * 10, none⟩) := (hV 10 (by kernel_rfl))
    clear hV
    simp only [putsF, List.foldl_cons, List.foldl_nil, Act.put, List.setIfInBounds_toArray, List.set_cons_zero, List.set_cons_succ] at hK ⊢
    simp only [e10] at hK ⊢
    clear e10
    go_wp2_with fail
    exact hK.out _ _ (Below.refl _ _) (by exact rfl)
  case sta => exact (AllSt.cons (stable_isV _) (AllSt.cons (stable_isV _) (AllSt.cons (stable_isV _) (AllSt.cons (stable_isV _) (AllSt.cons (stable_isV _) (AllSt.cons (stable_isV _) (AllSt.cons (stable_isV _) (AllSt.cons (stable_isV _) (AllSt.cons (stable_isV _) (AllSt.cons (stable_isV _) (AllSt.cons (stable_isV _) (AllSt.cons (stable_isV _) AllSt.nil))))))))))))
  case fina =>
    intro xs y hy hV
    have e0 : xs 0 = .pointer (some ⟨E.G, i * 10, none⟩) := (hV 0 (by decide))
    have e1 : xs 1 = .pointer (some ⟨E.G, i * 10, none⟩) := (hV 1 (by decide))
    have e2 : xs 2 = .pointer (some ⟨E.G, i * 10, none⟩) := (hV 2 (by decide))
    have e3 : xs 3 = .pointer (some ⟨E.G, i * 10 + 2, none⟩) := (hV 3 (by decide))
    have e4 : xs 4 = .int .i64 tk := (hV 4 (by decide))
    have e5 : xs 5 = .pointer (some ⟨E.R, r * 9, none⟩) := (hV 5 (by decide))
    have e6 : xs 6 = .pointer (some ⟨E.G, i * 10, none⟩) := (hV 6 (by decide))
    have e7 : xs 7 = .int .i64 (costS s i r) := (hV 7 (by decide))
    have e8 : xs 8 = .int .i64 (tk - costS s i r) := (hV 8 (by decide))
    have e9 : xs 9 = .pointer (some ⟨E.G, i * 10, none⟩) := (hV 9 (by decide))
    have e10 : xs 10 = .pointer (some ⟨E.G, i * 10, none⟩) := (hV 10 (by decide))
    have e11 : xs 11 = .pointer (some ⟨E.G, i * 10 + 2, none⟩) := (hV 11 (by decide))
    clear hV
    simp only [putsF, List.foldl_cons, List.foldl_nil, Act.put, List.setIfInBounds_toArray, List.set_cons_zero, List.set_cons_succ]
    simp only [e0, e1, e2, e3, e4, e5, e6, e7, e8, e9, e10, e11]
    clear e0 e1 e2 e3 e4 e5 e6 e7 e8 e9 e10 e11
    show wpOps _ _ _ [12] _ _
    have hyi := HZ.out.grow hy
    have c2' := (hy.cell (p := ⟨E.G, i * 10 + 2, none⟩) lG).trans c2
    have f2' := hyi.frG hit (i * 10 + 2)
    have hS := hyi.setG (j := 2) (u := .int .i64 (tk - costS s i r)) hit (by omega) (fun g => { g with tok := tk - costS s i r }) (fun _ => rfl) (fun _ => lt_ten rfl rfl rfl rfl rfl rfl rfl rfl rfl rfl)
    have bS : Below E.base w (y.setCell ⟨E.G, i * 10 + 2, none⟩ (.int .i64 (tk - costS s i r))) := (HBZ.out.trans (hy.mono HZ.out.bas.2.2.2)).setCell HZ.out.bas.2.2.1 _
    have HS2 := Lib.hid hS
    have HB2 := Lib.hid bS
    clear hyi hS bS c2 f2 HP HZ HBZ
    refine wpOps_go (o := ⟨none, _, _, _, _, _⟩) rfl rfl (fun K hK => ?_)
    go_wp2_with fail
    refine hK.out _ _ (wpOps_nil ?_)
    clear hK c2' f2'
    go_upto_region 4 with (fail)
    obtain ⟨Z2, hZ2⟩ : ∃ Z2, Z2 = y.setCell ⟨E.G, i * 10 + 2, none⟩ (.int .i64 (tk - costS s i r)) := ⟨_, rfl⟩
    rw [← hZ2] at HS2 HB2 ⊢
    clear hZ2 hy lG lR
    obtain ⟨t2, ht2⟩ : ∃ x, x = t.modG i fun g => { g with tok := tk - costS s i r } := ⟨_, rfl⟩
    rw [← ht2] at HS2 HS
    have hi2 : i < t2.groups.length := by rw [ht2, len_modG]; exact hit
    have hr2 : r < t2.rides.length := by rw [ht2]; exact hrt
    have hrd2 : t2.rd r = t.rd r := by rw [ht2]; rfl
    have hct2' : costS t2 i r = costS s i r := by
      rw [← HHct.out, ht2]
      unfold costS
      rw [grp_modG _ _ _ _ hit, if_pos rfl]
      rfl
    have hnt2 : t2.now = s.now := by rw [ht2]; exact HHnt.out
    have hZ2i := HS2.out
    have k7 := (hZ2i.rc hr2).2.2.2.2.2.2.2.1
    have lG := (hZ2i.gc hi2).2.2.2.2.2.2.2.2.2
    have lR := (hZ2i.rc hr2).2.2.2.2.2.2.2.2.2
    rw [hrd2] at k7
    have HP : Hid (∀ y, Below Z2.heap.size Z2 y → Calls Try.prog 129 #[.pointer (some ⟨E.R, r * 9, none⟩), .pointer (some ⟨E.G, i * 10, none⟩)] y fun e w' => e = .returned (.int .i64 (costS s i r)) ∧ ∃ n, w' = y.drewN n) := fun y hy => by
      have := price_any (HS2.out.grow hy) hi2 hr2 (by rw [hct2']; exact hcb)
      rw [hct2'] at this
      exact this
    obtain ⟨tn, htnn⟩ : ∃ x, x = (t.rd r).taken := ⟨_, rfl⟩
    rw [← htnn] at k7 htn HS
    have e1 : IntKind.i64.wrap (tn + costS s i r) = tn + costS s i r := IntWalk.i64_in _ (by omega)
    have HHrd := Lib.hid hrd2
    have HHn2 := Lib.hid hnt2
    clear hZ2i htnn hrd2 hct2' ht2 hnt2
    refine wp_region_add (m := 10) (w0 := Z2) (ord := [0, 1, 2, 3, 4, 5, 6, 7, 8, 9, 10]) (ds := [(0, 30), (1, 31), (2, 32), (3, 33), (4, 34), (5, 35), (6, 36), (7, 37), (8, 38), (9, 39)]) (l := [isV (.pointer (some ⟨E.R, r * 9, none⟩)), isV (.pointer (some ⟨E.R, r * 9, none⟩)), isV (.pointer (some ⟨E.R, r * 9 + 7, none⟩)), isV (.int .i64 tn), isV (.pointer (some ⟨E.R, r * 9, none⟩)), isV (.pointer (some ⟨E.G, i * 10, none⟩)), isV (.int .i64 (costS s i r)), isV (.int .i64 (tn + costS s i r)), isV (.pointer (some ⟨E.R, r * 9, none⟩)), isV (.pointer (some ⟨E.R, r * 9 + 7, none⟩))]) (by kernel_rfl) (by kernel_rfl) (by first | rfl | kernel_rfl) (AddSteps.cons (k := 0) (k' := 1) rfl ?sb0 (AddSteps.cons (k := 1) (k' := 2) rfl ?sb1 (AddSteps.cons (k := 2) (k' := 3) rfl ?sb2 (AddSteps.cons (k := 3) (k' := 4) rfl ?sb3 (AddSteps.cons (k := 4) (k' := 5) rfl ?sb4 (AddSteps.cons (k := 5) (k' := 6) rfl ?sb5 (AddSteps.cons (k := 6) (k' := 7) rfl ?sb6 (AddSteps.cons (k := 7) (k' := 8) rfl ?sb7 (AddSteps.cons (k := 8) (k' := 9) rfl ?sb8 (AddSteps.cons (k := 9) (k' := 10) rfl ?sb9 AddSteps.nil)))))))))) ?stb ?finb
    case sb0 =>
      refine AddStep.go (o := ⟨some 30, _, _, _, _, _⟩) rfl rfl (fun xs y hy hV K hK => ?_)
      clear hV
      simp only [putsF, List.foldl_cons, List.foldl_nil, Act.put, List.setIfInBounds_toArray, List.set_cons_zero, List.set_cons_succ] at hK ⊢
      go_wp2_with fail
      exact hK.out _ _ (Below.refl _ _) (by exact rfl)
    case sb1 =>
      refine AddStep.go (o := ⟨some 31, _, _, _, _, _⟩) rfl rfl (fun xs y hy hV K hK => ?_)
      have e0 : xs 0 = .pointer (some ⟨E.R, r * 9, none⟩) := (hV 0 (by kernel_rfl))
      clear hV
      simp only [putsF, List.foldl_cons, List.foldl_nil, Act.put, List.setIfInBounds_toArray, List.set_cons_zero, List.set_cons_succ] at hK ⊢
      simp only [e0] at hK ⊢
      clear e0
      go_wp2_with fail
      exact hK.out _ _ (Below.refl _ _) (by exact rfl)
    case sb2 =>
      refine AddStep.go (o := ⟨some 32, _, _, _, _, _⟩) rfl rfl (fun xs y hy hV K hK => ?_)
      have e1 : xs 1 = .pointer (some ⟨E.R, r * 9, none⟩) := (hV 1 (by kernel_rfl))
      clear hV
      simp only [putsF, List.foldl_cons, List.foldl_nil, Act.put, List.setIfInBounds_toArray, List.set_cons_zero, List.set_cons_succ] at hK ⊢
      simp only [e1] at hK ⊢
      clear e1
      go_wp2_with fail
      exact hK.out _ _ (Below.refl _ _) (by exact rfl)
    case sb3 =>
      refine AddStep.go (o := ⟨some 33, _, _, _, _, _⟩) rfl rfl (fun xs y hy hV K hK => ?_)
      have e2 : xs 2 = .pointer (some ⟨E.R, r * 9 + 7, none⟩) := (hV 2 (by kernel_rfl))
      clear hV
      simp only [putsF, List.foldl_cons, List.foldl_nil, Act.put, List.setIfInBounds_toArray, List.set_cons_zero, List.set_cons_succ] at hK ⊢
      simp only [e2] at hK ⊢
      clear e2
      have k7 := (hy.cell (p := ⟨E.R, r * 9 + 7, none⟩) lR).trans k7
      go_wp2_with fail
      exact hK.out _ _ (Below.refl _ _) (by exact rfl)
    case sb4 =>
      refine AddStep.go (o := ⟨some 34, _, _, _, _, _⟩) rfl rfl (fun xs y hy hV K hK => ?_)
      clear hV
      simp only [putsF, List.foldl_cons, List.foldl_nil, Act.put, List.setIfInBounds_toArray, List.set_cons_zero, List.set_cons_succ] at hK ⊢
      go_wp2_with fail
      exact hK.out _ _ (Below.refl _ _) (by exact rfl)
    case sb5 =>
      refine AddStep.go (o := ⟨some 35, _, _, _, _, _⟩) rfl rfl (fun xs y hy hV K hK => ?_)
      clear hV
      simp only [putsF, List.foldl_cons, List.foldl_nil, Act.put, List.setIfInBounds_toArray, List.set_cons_zero, List.set_cons_succ] at hK ⊢
      go_wp2_with fail
      exact hK.out _ _ (Below.refl _ _) (by exact rfl)
    case sb6 =>
      refine AddStep.go (o := ⟨some 36, _, _, _, _, _⟩) rfl rfl (fun xs y hy hV K hK => ?_)
      have e4 : xs 4 = .pointer (some ⟨E.R, r * 9, none⟩) := (hV 4 (by kernel_rfl))
      have e5 : xs 5 = .pointer (some ⟨E.G, i * 10, none⟩) := (hV 5 (by kernel_rfl))
      clear hV
      simp only [putsF, List.foldl_cons, List.foldl_nil, Act.put, List.setIfInBounds_toArray, List.set_cons_zero, List.set_cons_succ] at hK ⊢
      simp only [e4, e5] at hK ⊢
      clear e4 e5
      go_wp2_with (go_at_call 129; refine (HP.out y hy).mono ?_; rintro e w' ⟨rfl, nd, rfl⟩)
      exact hK.out _ _ (below_drewN (Below.refl _ _) _) (by exact rfl)
    case sb7 =>
      refine AddStep.go (o := ⟨some 37, _, _, _, _, _⟩) rfl rfl (fun xs y hy hV K hK => ?_)
      have e3 : xs 3 = .int .i64 tn := (hV 3 (by kernel_rfl))
      have e6 : xs 6 = .int .i64 (costS s i r) := (hV 6 (by kernel_rfl))
      clear hV
      simp only [putsF, List.foldl_cons, List.foldl_nil, Act.put, List.setIfInBounds_toArray, List.set_cons_zero, List.set_cons_succ] at hK ⊢
      simp only [e3, e6] at hK ⊢
      clear e3 e6
      go_wp2_with fail
      exact hK.out _ _ (Below.refl _ _) (by exact rfl)
    case sb8 =>
      refine AddStep.go (o := ⟨some 38, _, _, _, _, _⟩) rfl rfl (fun xs y hy hV K hK => ?_)
      have e0 : xs 0 = .pointer (some ⟨E.R, r * 9, none⟩) := (hV 0 (by kernel_rfl))
      clear hV
      simp only [putsF, List.foldl_cons, List.foldl_nil, Act.put, List.setIfInBounds_toArray, List.set_cons_zero, List.set_cons_succ] at hK ⊢
      simp only [e0] at hK ⊢
      clear e0
      go_wp2_with fail
      exact hK.out _ _ (Below.refl _ _) (by exact rfl)
    case sb9 =>
      refine AddStep.go (o := ⟨some 39, _, _, _, _, _⟩) rfl rfl (fun xs y hy hV K hK => ?_)
      have e8 : xs 8 = .pointer (some ⟨E.R, r * 9, none⟩) := (hV 8 (by kernel_rfl))
      clear hV
      simp only [putsF, List.foldl_cons, List.foldl_nil, Act.put, List.setIfInBounds_toArray, List.set_cons_zero, List.set_cons_succ] at hK ⊢
      simp only [e8] at hK ⊢
      clear e8
      go_wp2_with fail
      exact hK.out _ _ (Below.refl _ _) (by exact rfl)
    case stb => exact (AllSt.cons (stable_isV _) (AllSt.cons (stable_isV _) (AllSt.cons (stable_isV _) (AllSt.cons (stable_isV _) (AllSt.cons (stable_isV _) (AllSt.cons (stable_isV _) (AllSt.cons (stable_isV _) (AllSt.cons (stable_isV _) (AllSt.cons (stable_isV _) (AllSt.cons (stable_isV _) AllSt.nil))))))))))
    case finb =>
      intro xs y hy hV
      have e0 : xs 0 = .pointer (some ⟨E.R, r * 9, none⟩) := (hV 0 (by decide))
      have e1 : xs 1 = .pointer (some ⟨E.R, r * 9, none⟩) := (hV 1 (by decide))
      have e2 : xs 2 = .pointer (some ⟨E.R, r * 9 + 7, none⟩) := (hV 2 (by decide))
      have e3 : xs 3 = .int .i64 tn := (hV 3 (by decide))
      have e4 : xs 4 = .pointer (some ⟨E.R, r * 9, none⟩) := (hV 4 (by decide))
      have e5 : xs 5 = .pointer (some ⟨E.G, i * 10, none⟩) := (hV 5 (by decide))
      have e6 : xs 6 = .int .i64 (costS s i r) := (hV 6 (by decide))
      have e7 : xs 7 = .int .i64 (tn + costS s i r) := (hV 7 (by decide))
      have e8 : xs 8 = .pointer (some ⟨E.R, r * 9, none⟩) := (hV 8 (by decide))
      have e9 : xs 9 = .pointer (some ⟨E.R, r * 9 + 7, none⟩) := (hV 9 (by decide))
      clear hV
      simp only [putsF, List.foldl_cons, List.foldl_nil, Act.put, List.setIfInBounds_toArray, List.set_cons_zero, List.set_cons_succ]
      simp only [e0, e1, e2, e3, e4, e5, e6, e7, e8, e9]
      clear e0 e1 e2 e3 e4 e5 e6 e7 e8 e9
      show wpOps _ _ _ [10] _ _
      have hyi := HS2.out.grow hy
      have k7' := (hy.cell (p := ⟨E.R, r * 9 + 7, none⟩) lR).trans k7
      have f7' := hyi.frR hr2 (r * 9 + 7)
      have hS := hyi.setR (j := 7) (u := .int .i64 (tn + costS s i r)) hr2 (by omega) (fun x => { x with taken := tn + costS s i r }) (fun _ => rfl) (fun _ => lt_nine rfl rfl rfl rfl rfl rfl rfl rfl rfl)
      have bS : Below E.base w (y.setCell ⟨E.R, r * 9 + 7, none⟩ (.int .i64 (tn + costS s i r))) := (HB2.out.trans (hy.mono HS2.out.bas.2.2.2)).setCell HS2.out.bas.2.1 _
      have HS3 := Lib.hid hS
      have HB3 := Lib.hid bS
      clear hyi hS bS k7 HP
      refine wpOps_go (o := ⟨none, _, _, _, _, _⟩) rfl rfl (fun K hK => ?_)
      go_wp2_with fail
      refine hK.out _ _ (wpOps_nil ?_)
      clear hK k7' f7'
      go_upto_region 5 with (fail)
      obtain ⟨Z3, hZ3⟩ : ∃ Z3, Z3 = y.setCell ⟨E.R, r * 9 + 7, none⟩ (.int .i64 (tn + costS s i r)) := ⟨_, rfl⟩
      rw [← hZ3] at HS3 HB3 ⊢
      clear hZ3 hy lG lR HS2 HB2
      obtain ⟨t3, ht3⟩ : ∃ x, x = t2.modR r fun x => { x with taken := tn + costS s i r } := ⟨_, rfl⟩
      rw [← ht3] at HS3 HS
      have hi3 : i < t3.groups.length := by rw [ht3]; exact hi2
      have hr3 : r < t3.rides.length := by rw [ht3, len_modR]; exact hr2
      have hcy3 : (t3.rd r).b.cycle = (s.rd r).b.cycle := by rw [ht3, rd_modR _ _ _ _ hr2, if_pos rfl]; show (t2.rd r).b.cycle = _; rw [HHrd.out]; exact HHc2.out
      have hnt3 : t3.now = s.now := by rw [ht3]; exact HHn2.out
      have h3 := HS3.out
      obtain ⟨_, v1, _, lv⟩ := h3.vc
      obtain ⟨_, _, _, _, c5, c6, _, _, _, lG⟩ := h3.gc hi3
      have k2 := (h3.rc hr3).2.2.1
      have lR := (h3.rc hr3).2.2.2.2.2.2.2.2.2
      have f5 := h3.frG hi3 (i * 10 + 5)
      have f6 := h3.frG hi3 (i * 10 + 6)
      rw [hnt3] at v1
      rw [hcy3] at k2
      have nvG : ¬ E.v = E.G := h3.ev.ty.ne (h3.gp (by omega)).ty (by decide)
      have nRG : ¬ E.R = E.G := (h3.rd (by omega)).ty.ne (h3.gp (by omega)).ty (by decide)
      have e1 : IntKind.i64.wrap (s.now + (s.rd r).b.cycle) = s.now + (s.rd r).b.cycle := IntWalk.i64_in _ (by omega)
      have q2 := (h3.grow (below_drewN (Below.refl _ Z3) 1)).set2 (u := .int .i64 3) (x := .int .i64 (s.now + (s.rd r).b.cycle)) (j := 5) (k := 6) hi3 (by omega) (by omega) (fun g => { g with place := 3 }) (fun g => { g with til := s.now + (s.rd r).b.cycle }) (fun _ => rfl) (fun _ => rfl) (fun _ => lt_ten rfl rfl rfl rfl rfl rfl rfl rfl rfl rfl) (fun _ => lt_ten rfl rfl rfl rfl rfl rfl rfl rfl rfl rfl)
      have b2 := (h3.grow (below_drewN (Below.refl _ Z3) 1)).bel2 (below_drewN HB3.out 1) (i * 10 + 5) (i * 10 + 6) (.int .i64 3) (.int .i64 (s.now + (s.rd r).b.cycle))
      have H2 := Lib.hid q2
      have HBB := Lib.hid b2
      clear h3 q2 b2 hnt3 hcy3 ht3 HS3 HB3
      go_region
      go_wp2_with fail
      go_end0
      exact ⟨rfl, HBB.out, _, _, by rw [HS.out]; exact H2.out⟩
end Go.Proofs.Ytijbhcdnbaaobaa
