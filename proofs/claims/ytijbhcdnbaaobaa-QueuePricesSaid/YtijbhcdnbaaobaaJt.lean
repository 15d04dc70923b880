/- Contract of queue's over. Conditions: the evening lies in memory. -/
import Derived.Test.YtijbhcdnbaaobaaJr
/- Contract of queue's tick. Conditions: a valid evening that lies in memory, in a moment of it. -/
namespace Go.Proofs.Ytijbhcdnbaaobaa
open Go.RowKit

/-- A moment of the evening that began as a. -/
def MomS (a : EvS) (n : Int) (t : EvS) : Prop := BothS a t ∧ t.now = n
section
variable {a : EvS} {n : Int} {E : EvE} {X : World} {t : EvS} {i : Nat}
theorem mom_len (h : MomS a n t) : t.groups.length = a.groups.length := (fix_len h.1.1.fix).1
theorem step_goOn (hB : BigS a) (hn : 0 ≤ n ∧ n ≤ 4000) (h : MomS a n t) (hX : EvAt E X t) (hi : i < a.groups.length) (hp : (t.grp i).place = 0 ∨ (t.grp i).place = 3) (ht : (t.grp i).til = t.now) :
    MomS a n (goOnS t i) ∧ Calls Try.prog 91 #[.pointer (some ⟨E.v, 0, none⟩), .int .i64 (i : Nat)] X (StepTo E X (goOnS t i)) := by
  have hi' : i < t.groups.length := by rw [mom_len h]; exact hi
  refine ⟨⟨both_go hB.wish h.1 hi' hp ht, (goOn_same t i).2.trans h.2⟩, goOn_any hX hi' (fit_of hB h.1) (by rw [h.2]; exact hn) ?_ ?_⟩
  · rcases hp with hp | hp
    · have := h.1.1.out i hi' (by simp) hp; omega
    · have := h.1.1.at_ i hi' (by simp) (.inr (.inr hp)); omega
  · rcases hp with hp | hp
    · have := h.1.1.out i hi' (by simp) hp; omega
    · have := h.1.1.at_ i hi' (by simp) (.inr (.inr hp)); omega
theorem step_stand (hB : BigS a) (hn : 0 ≤ n ∧ n ≤ 4000) (h : MomS a n t) (hX : EvAt E X t) (hi : i < a.groups.length) (hp : (t.grp i).place = 1) (ht : (t.grp i).til = t.now) :
    MomS a n (standS t i) ∧ Calls Try.prog 92 #[.pointer (some ⟨E.v, 0, none⟩), .int .i64 (i : Nat)] X (StepTo E X (standS t i)) := by
  have hi' : i < t.groups.length := by rw [mom_len h]; exact hi
  have h1 := h.1.1.at_ i hi' (by simp) (.inl hp)
  exact ⟨⟨both_st hB.wish h.1 hi' hp ht, h.2⟩, stand_any hX hi' (fit_of hB h.1) (by rw [h.2]; exact hn) h1.1 h1.2⟩
theorem step_giveUp (hB : BigS a) (hn : 0 ≤ n ∧ n ≤ 4000) (h : MomS a n t) (hX : EvAt E X t) (hi : i < a.groups.length) (hp : (t.grp i).place = 2) :
    MomS a n (giveUpS t i) ∧ Calls Try.prog 93 #[.pointer (some ⟨E.v, 0, none⟩), .int .i64 (i : Nat)] X (StepTo E X (giveUpS t i)) := by
  have hi' : i < t.groups.length := by rw [mom_len h]; exact hi
  have h1 := h.1.1.at_ i hi' (by simp) (.inr (.inl hp))
  have h2 := vis_600 hB h.1
  exact ⟨⟨both_gu hB.wish h.1 hi' hp, (goOn_same _ i).2.trans h.2⟩, giveUp_any hX hi' (fit_of hB h.1) (by omega) (by rw [h.2]; exact hn) h1.1 h1.2 (h.1.1.std i hi' (by simp) hp)⟩
end
set_option maxRecDepth 100000 in
set_option maxHeartbeats 2000000 in
theorem tick_any {a : EvS} (hB : BigS a) {E : EvE} {w : World} {s : EvS} (h : EvAt E w s) (hb : BothS a s) (hn : 0 ≤ s.now ∧ s.now ≤ 4000) :
    Calls Try.prog 77 #[.pointer (some ⟨E.v, 0, none⟩)] w (StepTo E w (tickS s)) := by
  obtain ⟨n, hnn⟩ : ∃ n, n = s.now := ⟨_, rfl⟩
  have M0 : MomS a n s := ⟨hb, hnn.symm⟩
  rw [← hnn] at hn
  have hm := hB.ng
  have hl : ∀ t, MomS a n t → t.groups.length = a.groups.length := fun t ht => mom_len ht
  have HE := Lib.hid h
  have C1 : Hid (∀ X, EvAt E X s → Calls Try.prog 90 #[.pointer (some ⟨E.v, 0, none⟩), .int .i64 3, .func (.func 91) #[.pointer (some ⟨E.v, 0, none⟩)] #[]] X (StepTo E X (forDueS 3 goOnS s))) :=
    fun X hX => due_goOn (P := MomS a n) (p := 3) hX hm M0 hl fun X t i hP hX hi hp ht => step_goOn hB hn hP hX hi (.inr hp) ht
  have M1 : MomS a n (forDueS 3 goOnS s) := forDue_keep (a := a) hl (fun t i hP hi hp ht => ⟨both_go hB.wish hP.1 hi (.inr hp) ht, (goOn_same t i).2.trans hP.2⟩) M0
  obtain ⟨s1, e1⟩ : ∃ x, x = forDueS 3 goOnS s := ⟨_, rfl⟩
  rw [← e1] at M1 C1
  have C2 : Hid (∀ X, EvAt E X s1 → Calls Try.prog 90 #[.pointer (some ⟨E.v, 0, none⟩), .int .i64 0, .func (.func 91) #[.pointer (some ⟨E.v, 0, none⟩)] #[]] X (StepTo E X (forDueS 0 goOnS s1))) :=
    fun X hX => due_goOn (P := MomS a n) (p := 0) hX hm M1 hl fun X t i hP hX hi hp ht => step_goOn hB hn hP hX hi (.inl hp) ht
  have M2 : MomS a n (forDueS 0 goOnS s1) := forDue_keep (a := a) hl (fun t i hP hi hp ht => ⟨both_go hB.wish hP.1 hi (.inl hp) ht, (goOn_same t i).2.trans hP.2⟩) M1
  obtain ⟨s2, e2⟩ : ∃ x, x = forDueS 0 goOnS s1 := ⟨_, rfl⟩
  rw [← e2] at M2 C2
  have C3 : Hid (∀ X, EvAt E X s2 → Calls Try.prog 90 #[.pointer (some ⟨E.v, 0, none⟩), .int .i64 1, .func (.func 92) #[.pointer (some ⟨E.v, 0, none⟩)] #[]] X (StepTo E X (forDueS 1 standS s2))) :=
    fun X hX => due_stand (P := MomS a n) (p := 1) hX hm M2 hl fun X t i hP hX hi hp ht => step_stand hB hn hP hX hi hp ht
  have M3 : MomS a n (forDueS 1 standS s2) := forDue_keep (a := a) hl (fun t i hP hi hp ht => ⟨both_st hB.wish hP.1 hi hp ht, hP.2⟩) M2
  obtain ⟨s3, e3⟩ : ∃ x, x = forDueS 1 standS s2 := ⟨_, rfl⟩
  rw [← e3] at M3 C3
  have C4 : Hid (∀ X, EvAt E X s3 → Calls Try.prog 90 #[.pointer (some ⟨E.v, 0, none⟩), .int .i64 2, .func (.func 93) #[.pointer (some ⟨E.v, 0, none⟩)] #[]] X (StepTo E X (forDueS 2 giveUpS s3))) :=
    fun X hX => due_giveUp (P := MomS a n) (p := 2) hX hm M3 hl fun X t i hP hX hi hp ht => step_giveUp hB hn hP hX hi hp
  have M4 : MomS a n (forDueS 2 giveUpS s3) := forDue_keep (a := a) hl (fun t i hP hi hp ht => ⟨both_gu hB.wish hP.1 hi hp, (goOn_same _ i).2.trans hP.2⟩) M3
  obtain ⟨s4, e4⟩ : ∃ x, x = forDueS 2 giveUpS s3 := ⟨_, rfl⟩
  rw [← e4] at M4 C4
  have C5 : Hid (∀ X, EvAt E X s4 → Calls Try.prog 94 #[.pointer (some ⟨E.v, 0, none⟩)] X (StepTo E X (rbegsS s4))) := fun X hX => beginRides_any hB hX M4.1 (by rw [M4.2]; exact hn)
  have M5 : BothS a (rbegsS s4) := (begK_both hB.wish M4.1 _).1
  obtain ⟨s5, e5⟩ : ∃ x, x = rbegsS s4 := ⟨_, rfl⟩
  rw [← e5] at M5 C5
  have C6 : Hid (∀ X, EvAt E X s5 → Calls Try.prog 95 #[.pointer (some ⟨E.v, 0, none⟩)] X (StepTo E X (measureS s5))) := fun X hX => measure_any hB hX M5
  have HS : Hid (tickS s = measureS s5) := by
    show _ = _
    rw [e5, e4, e3, e2, e1]
    rfl
  clear e1 e2 e3 e4 e5 M0 M1 M2 M3 M4 M5 hl hnn hb h
  go_enter Try.func77, Try.ntmps77
  go_upto_region 1 with (go_at_call 90; refine (C1.out _ HE.out).mono ?_; rintro e X1 ⟨rfl, b1, h1⟩; have HB1 := Lib.hid b1; have HX1 := Lib.hid h1; clear b1 h1 C1)
  go_upto_region 2 with (go_at_call 90; refine (C2.out _ HX1.out).mono ?_; rintro e X2 ⟨rfl, b1, h1⟩; have HB2 := Lib.hid (HB1.out.trans b1); have HX2 := Lib.hid h1; clear b1 h1 C2 HB1 HX1)
  go_upto_region 3 with (go_at_call 90; refine (C3.out _ HX2.out).mono ?_; rintro e X3 ⟨rfl, b1, h1⟩; have HB3 := Lib.hid (HB2.out.trans b1); have HX3 := Lib.hid h1; clear b1 h1 C3 HB2 HX2)
  go_upto_region 4 with (go_at_call 90; refine (C4.out _ HX3.out).mono ?_; rintro e X4 ⟨rfl, b1, h1⟩; have HB4 := Lib.hid (HB3.out.trans b1); have HX4 := Lib.hid h1; clear b1 h1 C4 HB3 HX3)
  go_upto_region 5 with (go_at_call 94; refine (C5.out _ HX4.out).mono ?_; rintro e X5 ⟨rfl, b1, h1⟩; have HB5 := Lib.hid (HB4.out.trans b1); have HX5 := Lib.hid h1; clear b1 h1 C5 HB4 HX4)
  go_wp2_with (go_at_call 95; refine (C6.out _ HX5.out).mono ?_; rintro e X6 ⟨rfl, b1, h1⟩; have HB6 := Lib.hid (HB5.out.trans b1); have HX6 := Lib.hid h1; clear b1 h1 C6 HB5 HX5)
  go_end0
  exact ⟨rfl, HB6.out, by rw [HS.out]; exact HX6.out⟩
end Go.Proofs.Ytijbhcdnbaaobaa
namespace Go.Proofs
open Go.Shelf Go.RowKit Go.Lib Go.Sort
namespace Ytijbhcdnbaaobaa

def gpL (E : EvE) (s : EvS) (i : Nat) : List Value := (List.range 10).map fun j => gpV (E.ref i) (s.grp i) j
theorem over1_below (E : EvE) (s : EvS) (w : World) : PredBelow Try.prog 89 #[] (fun i => .agg (gpL E s i).toArray) (fun i => decide ((s.grp i).place ≠ 4)) w := fun W i hb => by
  have hg : (gpL E s i).toArray = #[gpV (E.ref i) (s.grp i) 0, gpV (E.ref i) (s.grp i) 1, gpV (E.ref i) (s.grp i) 2, gpV (E.ref i) (s.grp i) 3, gpV (E.ref i) (s.grp i) 4, gpV (E.ref i) (s.grp i) 5, gpV (E.ref i) (s.grp i) 6, gpV (E.ref i) (s.grp i) 7, gpV (E.ref i) (s.grp i) 8, gpV (E.ref i) (s.grp i) 9] := rfl
  show Calls Try.prog 89 #[.agg (gpL E s i).toArray] W _
  rw [hg]
  simp only [gpV]
  by_cases h4 : (s.grp i).place = 4
  · have d4 : (((s.grp i).place : Int) != 4) = false := by rw [h4]; rfl
    have HD : Hid (decide ((s.grp i).place ≠ 4) = false) := by show _ = _; simp [h4]
    have HB := Lib.hid hb
    clear hg hb h4
    go_enter Try.func89, Try.ntmps89
    go_wp2_with fail
    go_ret
    exact ⟨ret_bool HD.out.symm, HB.out.alloc HB.out.size _⟩
  · have d4 : (((s.grp i).place : Int) != 4) = true := by simp; omega
    have HD : Hid (decide ((s.grp i).place ≠ 4) = true) := by show _ = _; simp [h4]
    have HB := Lib.hid hb
    clear hg hb h4
    go_enter Try.func89, Try.ntmps89
    go_wp2_with fail
    go_ret
    exact ⟨ret_bool HD.out.symm, HB.out.alloc HB.out.size _⟩
set_option maxHeartbeats 1000000 in
theorem con_nil (c : Nat) (fv : Value) (w : World) : Calls Try.prog 88 #[.slice none 0 c, fv] w fun e w' => e = .returned (.bool false) ∧ Below w.heap.size w w' := by
  have H : Hid (Calls Try.prog 108 #[.slice none 0 c, fv] w fun e w' => e = .returned (.int .i64 (-1)) ∧ w = w') := by
    show Calls _ _ _ _ _
    go_enter Try.func108, Try.ntmps108
    go_wp2_with fail
    go_loop [8] (fun ix => ix = .int .i64 0) (fun _ => 0)
    case atStart => rfl
    case round =>
      subst hrel
      go_wp2_with fail
      go_ret
      exact ⟨rfl, rfl⟩
  go_enter Try.func88, Try.ntmps88
  go_wp2_with (go_at_call 108; refine H.out.mono ?_; rintro e w' ⟨rfl, rfl⟩)
  go_ret
  exact ⟨rfl, Below.refl _ _⟩
theorem over_eq (s : EvS) : overS s = !((List.range s.groups.length).any fun i => decide ((s.grp i).place ≠ 4)) := by
  unfold overS
  rw [Bool.eq_iff_iff]
  simp only [List.all_eq_true, Bool.not_eq_true', List.any_eq_false, List.mem_range, decide_eq_true_eq, ne_eq, decide_not]
  constructor
  · intro h i hi
    have := h _ (grp_mem hi)
    simp [this]
  · intro h x hx
    obtain ⟨i, hi, rfl⟩ := mem_grp hx
    have := h i hi
    simpa using this
set_option maxHeartbeats 1000000 in
theorem over_any {E : EvE} {w : World} {s : EvS} (h : EvAt E w s) (hm : s.groups.length ≤ 60) :
    Calls Try.prog 76 #[.pointer (some ⟨E.v, 0, none⟩)] w fun e w' => e = .returned (.bool (overS s)) ∧ Below w.heap.size w w' := by
  obtain ⟨qs, uv, h⟩ := h
  have v3 := h.v3
  have l1 := h.vc.2.2.2
  have HO := Lib.hid (over_eq s)
  by_cases h0 : s.groups.length = 0
  · have hs : slA E.G s.groups.length = none := by unfold slA; rw [if_pos h0]
    rw [hs, h0] at v3
    rw [h0] at HO
    have hov : Hid (overS s = true) := by show _ = _; rw [HO.out]; rfl
    have HC := Lib.hid (con_nil E.cG (.func (.func 89) #[] #[]) w)
    clear h h0 hs HO hm
    go_enter Try.func76, Try.ntmps76
    go_wp2_with (go_at_call 88; refine HC.out.mono ?_; rintro e w' ⟨rfl, hb⟩)
    go_ret
    exact ⟨ret_bool hov.out.symm, hb⟩
  · have hp : 0 < s.groups.length := by omega
    have hG := h.vG hp
    have hgp := h.gp hp
    have lG := hgp.lt
    have eg : ∀ args w, (callFunc 89 args).run Try.prog w = .ok (.enter 89 args) w := enters_of Try.func89 (by kernel_rfl) rfl
    have hcon := AnyQ.slices_ContainsFunc Ytijbhcdnbaaobaa.laysCon 10 Try.isAgg79 Try.sizeOf79 (gpL E s) (fun _ => rfl) (fun i => decide ((s.grp i).place ≠ 4)) 89 #[] eg E.G 0 s.groups.length E.cG (List.range s.groups.length) w (over1_below E s w) (by simp) (by omega) lG (fun j hj i v hi => by
      have hj' : j < s.groups.length := by simpa using hj
      have hr : (List.range s.groups.length)[j]! = j := by rw [getElem!_pos _ j hj]; simp
      rw [hr] at hi
      have hi10 : i < 10 := by
        have := (List.getElem?_eq_some_iff.1 hi).1
        simpa [gpL] using this
      have hv : v = gpV (E.ref j) (s.grp j) i := by
        unfold gpL at hi
        rw [List.getElem?_map, List.getElem?_range hi10] at hi
        simpa using hi.symm
      rw [Nat.zero_add, hv]
      exact hgp.cell hj' hi10)
    change Calls Try.prog 88 _ _ _ at hcon
    have ht : (List.range s.groups.length).take s.groups.length = List.range s.groups.length := List.take_of_length_le (by simp)
    rw [ht] at hcon
    obtain ⟨bb, hbb⟩ : ∃ b, b = (List.range s.groups.length).any fun i => decide ((s.grp i).place ≠ 4) := ⟨_, rfl⟩
    rw [← hbb] at hcon HO
    have HC := Lib.hid hcon
    clear h hgp hbb ht hcon v3 eg lG h0
    go_enter Try.func76, Try.ntmps76
    go_wp2_with (go_at_call 88; refine HC.out.mono ?_; rintro e w' ⟨rfl, hb⟩)
    all_goals
      go_ret
      exact ⟨ret_bool (by rw [HO.out]), hb⟩
end Ytijbhcdnbaaobaa
end Go.Proofs
