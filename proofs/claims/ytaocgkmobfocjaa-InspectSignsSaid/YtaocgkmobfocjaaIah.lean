/- Contracts of inspect's shortest and visits. Conditions: a valid book that reads as data; days in range. -/
import Derived.Test.YtaocgkmobfocjaaIcd
namespace Go.Proofs.Ytaocgkmobfocjaa
open Go.RowKit

/-- The least Every of the rules of a ride among the first; 0 if there is none. -/
def evN (k : BookZ) (ride : Int) : Nat → Int
  | 0 => 0
  | n + 1 => if (k.rules.getD n default).ride = ride ∧ (evN k ride n = 0 ∨ (k.rules.getD n default).every < evN k ride n) then (k.rules.getD n default).every else evN k ride n
theorem evN_bd {k : BookZ} (h : bookB k = true) (ride : Int) : ∀ n, n ≤ k.rules.length → 0 ≤ evN k ride n ∧ evN k ride n ≤ 10000 := by
  intro n
  induction n with
  | zero => intro _; show 0 ≤ (0 : Int) ∧ (0 : Int) ≤ 10000; omega
  | succ n ih =>
    intro hn
    have h1 := ih (by omega)
    have h2 := (book_rule h (show n < k.rules.length by omega)).2.1
    simp only [evN]
    split <;> omega
def shD (e : Int) : Int := if e = 0 then 10000 else e
theorem shD_no {k : BookZ} {ride : Int} {n : Nat} {u : RuZ} (hu : k.rules.getD n default = u) (h : u.ride ≠ ride) : evN k ride (n + 1) = evN k ride n := by
  simp only [evN]
  rw [hu, if_neg (fun q => h q.1)]
theorem shD_yes {k : BookZ} {ride : Int} {n : Nat} {u : RuZ} (hu : k.rules.getD n default = u) (h : u.ride = ride) (h1 : 1 ≤ u.every ∧ u.every ≤ 10000) (_ : 0 ≤ evN k ride n) : (if u.every < shD (evN k ride n) then u.every else shD (evN k ride n)) = shD (evN k ride (n + 1)) ∧ evN k ride (n + 1) ≠ 0 := by
  have h2 : evN k ride (n + 1) = if u.ride = ride ∧ (evN k ride n = 0 ∨ u.every < evN k ride n) then u.every else evN k ride n := by simp only [evN]; rw [hu]
  rw [h2]
  generalize evN k ride n = e
  by_cases e0 : e = 0
  · rw [if_pos (show u.ride = ride ∧ (e = 0 ∨ u.every < e) from ⟨h, .inl e0⟩)]
    unfold shD
    rw [if_pos e0, if_neg (show ¬ u.every = 0 by omega)]
    split <;> omega
  · by_cases q : u.every < e
    · rw [if_pos (show u.ride = ride ∧ (e = 0 ∨ u.every < e) from ⟨h, .inr q⟩)]
      unfold shD
      rw [if_neg e0, if_neg (show ¬ u.every = 0 by omega)]
      split <;> omega
    · rw [if_neg (show ¬ (u.ride = ride ∧ (e = 0 ∨ u.every < e)) from fun p => p.2.elim e0 q)]
      unfold shD
      rw [if_neg e0]
      split <;> omega
def visE (ev f t : Int) : Int := if ev ≠ 0 ∧ 1000 ≤ (t - f) / ev then 2 else 0
def visN (ev f t : Int) : Nat := if ev = 0 then 0 else ((t - f) / ev).toNat + 1
def dyv (f ev : Int) (n : Nat) : Int := f + n * ev
def visL (f ev : Int) (n : Nat) : List Int := (List.range n).map fun j => dyv f ev j
theorem visL_succ (f ev : Int) (n : Nat) : visL f ev (n + 1) = visL f ev n ++ [dyv f ev n] := by simp [visL, List.range_succ]
theorem visL_len (f ev : Int) (n : Nat) : (visL f ev n).length = n := by simp [visL]
theorem dyv_zero (f ev : Int) : dyv f ev 0 = f := by simp [dyv]
theorem dyv_succ (f ev : Int) (n : Nat) : dyv f ev (n + 1) = dyv f ev n + ev := by
  simp only [dyv, Int.natCast_add, Int.natCast_one, Int.add_mul, Int.one_mul]; omega
theorem dyv_le {f ev t : Int} (h : 0 < ev) (ht : f ≤ t) (n : Nat) : dyv f ev n ≤ t ↔ n < visN ev f t := by
  unfold dyv visN
  rw [if_neg (by omega)]
  have h1 := Int.le_ediv_iff_mul_le (a := (n : Int)) (b := t - f) h
  have h2 : 0 ≤ (t - f) / ev := Int.ediv_nonneg (by omega) (by omega)
  generalize (t - f) / ev = q at h1 h2
  generalize (n : Int) * ev = p at h1
  constructor
  · intro h3; have := h1.2 (by omega); omega
  · intro h3; have := h1.1 (by omega); omega
theorem dyv_bd {f ev t : Int} (h : 0 < ev) (hf : 0 ≤ f) (ht : f ≤ t) : ∀ n, n ≤ visN ev f t → 0 ≤ dyv f ev n ∧ dyv f ev n ≤ t + ev := by
  intro n
  induction n with
  | zero => intro _; rw [dyv_zero]; omega
  | succ n ih =>
    intro hn
    have h1 := ih (by omega)
    have h2 := (dyv_le h ht n).2 (by omega)
    rw [dyv_succ]; omega
theorem visE_many {ev f t : Int} (h : 0 < ev) (ht : f ≤ t) : visE ev f t = if 1000 < visN ev f t then 2 else 0 := by
  unfold visE visN
  have h2 : 0 ≤ (t - f) / ev := Int.ediv_nonneg (by omega) (by omega)
  rw [if_neg (show ¬ ev = 0 by omega)]
  generalize (t - f) / ev = q at h2
  by_cases h3 : 1000 ≤ q
  · rw [if_pos ⟨by omega, h3⟩, if_pos (by omega)]
  · rw [if_neg (fun p => h3 p.2), if_neg (by omega)]
set_option maxRecDepth 100000 in
set_option maxHeartbeats 2000000 in
theorem shortest_any (k : BookZ) (R : BkR) (ride : Int) (B : Nat) (w : World) (hB : B ≤ w.heap.size) (hk : BkIn w B k R) (hb : bookB k = true) :
    Calls Try.prog 83 #[bookV k R, .int .i64 ride] w fun e w' => e = .returned (.tuple #[.int .i64 (shD (evN k ride k.rules.length)), .bool (!decide (evN k ride k.rules.length = 0))]) ∧ Below w.heap.size w w' := by
  obtain ⟨W, hW⟩ : ∃ W, W = w.alloc (.cells #[.slice R.A1 k.rules.length R.c1, .slice R.A2 k.ranks.length R.c2, .slice R.A3 k.insured.length R.c3] 25) := ⟨_, rfl⟩
  have bW : Below w.heap.size w W := by subst hW; exact (Below.refl _ _).alloc (Nat.le_refl _) _
  have r0 : Row W w.heap.size 25 [.slice R.A1 k.rules.length R.c1, .slice R.A2 k.ranks.length R.c2, .slice R.A3 k.insured.length R.c3] := by subst hW; exact Row.new w _ _
  obtain ⟨zb, hzb⟩ : ∃ z, z = w.heap.size := ⟨_, rfl⟩
  rw [← hzb] at r0
  have q0 : W.cell? ⟨zb, 0, none⟩ = some (.slice R.A1 k.rules.length R.c1) := r0.cell (j := 0) (by simp)
  have q1 : W.cell? ⟨zb, 1, none⟩ = some (.slice R.A2 k.ranks.length R.c2) := r0.cell (j := 1) (by simp)
  have q2 : W.cell? ⟨zb, 2, none⟩ = some (.slice R.A3 k.insured.length R.c3) := r0.cell (j := 2) (by simp)
  have lW := r0.lt
  have HBW := Lib.hid bW
  have HR0 := Lib.hid r0
  have HRd : Hid (∀ (i : Nat) (hi : i < k.rules.length) (X : World), Below w.heap.size w X → ∃ b o, R.A1 = some ⟨b, o, none⟩ ∧ b < X.heap.size ∧ X.cell? ⟨b, o + i * 4, none⟩ = some (.int .i64 k.rules[i].ride) ∧ X.cell? ⟨b, o + i * 4 + 1, none⟩ = some (.int .i64 k.rules[i].every) ∧ X.cell? ⟨b, o + i * 4 + 2, none⟩ = some (.int .i64 k.rules[i].rank) ∧ X.cell? ⟨b, o + i * 4 + 3, none⟩ = some (.bool k.rules[i].two)) := fun i hi X hX => by
    obtain ⟨b, o, h1, h2, h3⟩ := ru_at (hk.rules.below (hX.mono hB)) hi
    exact ⟨b, o, h1, by have := hX.size; omega, h3⟩
  obtain ⟨EV, hEV⟩ : ∃ EV, EV = evN k ride k.rules.length := ⟨_, rfl⟩
  rw [← hEV]
  have HEV := Lib.hid hEV
  clear hEV
  have HBo := Lib.hid hb
  have hl1 := hk.l1
  unfold maxLen at hl1
  unfold bookV at *
  clear bW r0 hk hB hb
  go_enter Try.func83, Try.ntmps83
  go_upto_region 1 with fail
  rw [← hW, ← hzb]
  clear hW hzb
  go_wp2_with fail
  go_loopw [4, 5, 11] (fun d b q wr => ∃ n : Nat, n ≤ k.rules.length ∧ q = .int .i64 n ∧ d = .int .i64 (shD (evN k ride n)) ∧ b = .bool (!decide (evN k ride n = 0)) ∧ Below W.heap.size W wr) (fun _ _ q _ => k.rules.length - (intOf q).toNat)
  case atStart => exact ⟨0, Nat.zero_le _, rfl, rfl, rfl, Below.refl _ _⟩
  case round =>
    obtain ⟨n, hn, rfl, rfl, rfl, hbel⟩ := hrel
    have HBr := Lib.hid (HBW.out.trans (hbel.mono HBW.out.size))
    have HBL := Lib.hid hbel
    clear hbel
    by_cases hlt : n < k.rules.length
    · have n1 : (n : Int) < (k.rules.length : Int) := by omega
      have n0 : ¬ (n : Int) < 0 := by omega
      have en : IntKind.i64.wrap ((n : Int) + 1) = (n : Int) + 1 := IntWalk.i64_in _ (by omega)
      obtain ⟨br, or, hR, lr, x0, x1, x2, x3⟩ := HRd.out n hlt wr HBr.out
      have hrg := (book_rule HBo.out hlt).2.1
      have hvb := (evN_bd HBo.out ride n (by omega)).1
      have HNo := Lib.hid (fun h => shD_no (k := k) (ride := ride) (n := n) (rules_at hlt) h)
      have HYs := Lib.hid (fun h => shD_yes (k := k) (ride := ride) (n := n) (rules_at hlt) h)
      rw [rules_at hlt] at hrg
      generalize k.rules[n] = u at x0 x1 x2 x3 hrg HNo HYs
      have HRg := Lib.hid hrg
      generalize evN k ride n = ev at hvb HNo HYs ⊢
      have HVb := Lib.hid hvb
      clear hrg hvb
      rw [hR]
      clear hR
      have bY := HBL.out.alloc HBL.out.size (.cells #[.int .i64 u.ride, .int .i64 u.every, .int .i64 u.rank, .bool u.two] 59)
      have rY := Row.new wr 59 #[.int .i64 u.ride, .int .i64 u.every, .int .i64 u.rank, .bool u.two]
      go_upto_region 5 with fail
      generalize wr.alloc (.cells #[.int .i64 u.ride, .int .i64 u.every, .int .i64 u.rank, .bool u.two] 59) = Y at bY rY ⊢
      generalize wr.heap.size = ze at rY ⊢
      have y0 : Y.cell? ⟨ze, 0, none⟩ = some (.int .i64 u.ride) := rY.cell (j := 0) (by simp)
      have y1 : Y.cell? ⟨ze, 1, none⟩ = some (.int .i64 u.every) := rY.cell (j := 1) (by simp)
      have lY := rY.lt
      have HBY := Lib.hid bY
      clear bY rY x0 x1 x2 x3
      by_cases hu : u.ride = ride
      · have hm := (HYs.out hu HRg.out HVb.out).1
        have HV2 := Lib.hid (HYs.out hu HRg.out HVb.out).2
        have e1 : decide (u.ride = ride) = true := decide_eq_true hu
        have e2 : (u.ride == ride) = true := by simpa using hu
        clear hu HNo HYs
        go_wp2_with fail
        go_roundw
        case rel => exact ⟨n + 1, by omega, by go_num, rfl, by rw [decide_eq_false HV2.out]; rfl, HBY.out⟩
        case measure => simp [intOf]; omega
      · have HV2 := Lib.hid (HNo.out hu)
        have e1 : decide (u.ride = ride) = false := decide_eq_false hu
        have e2 : (u.ride == ride) = false := by simpa using hu
        clear hu HNo HYs
        go_wp2_with fail
        go_roundw
        case rel => exact ⟨n + 1, by omega, by go_num, by rw [HV2.out], by rw [HV2.out], HBY.out⟩
        case measure => simp [intOf]; omega
    · have en : n = k.rules.length := by omega
      have n1 : ¬ (n : Int) < (k.rules.length : Int) := by omega
      have HE : Hid (evN k ride n = EV) := by show _ = _; rw [en, HEV.out]
      clear en hlt
      rw [HE.out]
      clear HE
      go_wp2_with fail
      refine bodyPost_ret (v := .tuple #[.int .i64 (shD EV), .bool (!decide (EV = 0))]) (by simp [results, Try.results83, go_sem]) rfl ?_
      exact ⟨rfl, HBr.out⟩
set_option maxRecDepth 100000 in
set_option maxHeartbeats 2000000 in
theorem visits_any (k : BookZ) (R : BkR) (ride f t : Int) (B : Nat) (w : World) (hB : B ≤ w.heap.size) (hk : BkIn w B k R) (hb : bookB k = true) (hf : 0 ≤ f) (hft : f ≤ t) (ht : t ≤ 10000) :
    Calls Try.prog 65 #[bookV k R, .int .i64 ride, .int .i64 f, .int .i64 t] w (LsTo w (visE (evN k ride k.rules.length) f t) (lsE (visE (evN k ride k.rules.length) f t) (visL f (evN k ride k.rules.length) (visN (evN k ride k.rules.length) f t)))) := by
  obtain ⟨W, hW⟩ : ∃ W, W = w.alloc (.cells #[.slice R.A1 k.rules.length R.c1, .slice R.A2 k.ranks.length R.c2, .slice R.A3 k.insured.length R.c3] 25) := ⟨_, rfl⟩
  have bW : Below w.heap.size w W := by subst hW; exact (Below.refl _ _).alloc (Nat.le_refl _) _
  have r0 : Row W w.heap.size 25 [.slice R.A1 k.rules.length R.c1, .slice R.A2 k.ranks.length R.c2, .slice R.A3 k.insured.length R.c3] := by subst hW; exact Row.new w _ _
  obtain ⟨zb, hzb⟩ : ∃ z, z = w.heap.size := ⟨_, rfl⟩
  rw [← hzb] at r0
  have q0 : W.cell? ⟨zb, 0, none⟩ = some (.slice R.A1 k.rules.length R.c1) := r0.cell (j := 0) (by simp)
  have q1 : W.cell? ⟨zb, 1, none⟩ = some (.slice R.A2 k.ranks.length R.c2) := r0.cell (j := 1) (by simp)
  have q2 : W.cell? ⟨zb, 2, none⟩ = some (.slice R.A3 k.insured.length R.c3) := r0.cell (j := 2) (by simp)
  have lW := r0.lt
  have HBW := Lib.hid bW
  have HR0 := Lib.hid r0
  have HSh := Lib.hid (shortest_any k R ride B W (Nat.le_trans hB bW.size) (hk.below (bW.mono hB)) hb)
  have hev := evN_bd hb ride k.rules.length (Nat.le_refl _)
  obtain ⟨i0, hi, hz0, hz1, hz2⟩ := info_parts Try.info_intI
  generalize evN k ride k.rules.length = ev at HSh hev ⊢
  unfold bookV at *
  clear bW hk hB hb
  by_cases h0 : ev = 0
  · subst h0
    have HE : Hid (visE 0 f t = 0) := by show _ = _; simp [visE]
    have HL : Hid (visL f 0 (visN 0 f t) = []) := by show _ = _; simp [visL, visN]
    rw [HL.out]
    go_enter Try.func65, Try.ntmps65
    go_upto_region 1 with fail
    rw [← hW, ← hzb]
    clear hW hzb
    go_wp2_with (go_at_call 83; refine HSh.out.mono ?_; rintro e X ⟨rfl, hX⟩; have HX := Lib.hid (HBW.out.trans (hX.mono HBW.out.size)); clear hX)
    refine bodyPost_ret (v := .tuple #[.slice none 0 0, .int .i64 0]) (by simp [results, Try.results65, go_sem]) rfl ?_
    exact LsTo.ok HE.out HX.out ⟨by simp, fun h => absurd h (by simp)⟩
  · have hpos : 0 < ev := by omega
    have HSh2 : Hid (shD ev = ev ∧ (!decide (ev = 0)) = true) := ⟨if_neg h0, by simp [h0]⟩
    rw [HSh2.out.1, HSh2.out.2] at HSh
    have HMa := Lib.hid (visE_many (f := f) (t := t) hpos hft)
    have q0' : 0 ≤ (t - f) / ev := Int.ediv_nonneg (by omega) (by omega)
    have q1' : (t - f).tdiv ev = (t - f) / ev := Int.tdiv_eq_ediv_of_nonneg (by omega)
    have q2' : (t - f) / ev ≤ t - f := Int.ediv_le_self _ (by omega)
    have HNq : Hid (visN ev f t = ((t - f) / ev).toNat + 1) := if_neg h0
    generalize (t - f) / ev = q at q0' q1' q2' HNq
    have e1 : IntKind.i64.wrap (t - f) = t - f := IntWalk.i64_in _ (by omega)
    have e2 : IntKind.i64.wrap q = q := IntWalk.i64_in _ (by omega)
    have e3 : (ev == 0) = false := by simpa using h0
    by_cases hq : 1000 ≤ q
    · have HE : Hid (visE ev f t = 2) := HMa.out.trans (if_pos (by have := HNq.out; omega))
      clear HMa HSh2 HNq
      rw [HE.out]
      go_enter Try.func65, Try.ntmps65
      go_upto_region 1 with fail
      rw [← hW, ← hzb]
      clear hW hzb
      go_wp2_with (go_at_call 83; refine HSh.out.mono ?_; rintro e X ⟨rfl, hX⟩; have HX := Lib.hid (HBW.out.trans (hX.mono HBW.out.size)); clear hX)
      refine bodyPost_ret (v := .tuple #[.slice none 0 0, .int .i64 2]) (by simp [results, Try.results65, go_sem]) rfl ?_
      exact LsTo.bad (by decide) HX.out
    · have HE : Hid (visE ev f t = 0) := HMa.out.trans (if_neg (by have := HNq.out; omega))
      have hN : visN ev f t ≤ 1000 := by have := HNq.out; omega
      have HDl := Lib.hid (dyv_le hpos hft)
      have HDb := Lib.hid (dyv_bd hpos hf hft)
      have HDs := Lib.hid (dyv_succ f ev)
      have HD0 := Lib.hid (dyv_zero f ev)
      clear HMa HSh2 HNq
      generalize visN ev f t = N at hN HDl HDb ⊢
      rw [HE.out]
      go_enter Try.func65, Try.ntmps65
      go_upto_region 1 with fail
      rw [← hW, ← hzb]
      clear hW hzb
      go_upto_region 7 with (go_at_call 83; refine HSh.out.mono ?_; rintro e X ⟨rfl, hX⟩)
      have HX := Lib.hid (HBW.out.trans (hX.mono HBW.out.size))
      have HWX := Lib.hid hX
      clear hX HSh
      go_wp2_with fail
      go_loopw [12, 13] (fun v q wr => ∃ n : Nat, n ≤ N ∧ q = .int .i64 (dyv f ev n) ∧ wr.ownsRow W.heap.size 3 1 v (visL f ev n).length ((visL f ev n).map (Value.int .i64)) ∧ Below W.heap.size W wr) (fun _ q _ => (t + 1 - intOf q).toNat)
      case atStart => exact ⟨0, Nat.zero_le _, by rw [HD0.out], owns_nil _ _ _ _, HWX.out⟩
      case round =>
        obtain ⟨n, hn, rfl, hown, hbel⟩ := hrel
        have HBr := Lib.hid (HBW.out.trans (hbel.mono HBW.out.size))
        have HBL := Lib.hid hbel
        have hws := hbel.size
        have HOw := Lib.hid hown
        have hbd := HDb.out n hn
        have hnl := visL_len f ev n
        have hdl := HDl.out n
        clear hown hbel
        by_cases hlt : n < N
        · have n1 : dyv f ev n ≤ t := hdl.2 hlt
          have HLs := Lib.hid (visL_succ f ev n)
          have hds := HDs.out n
          have m1 : (visL f ev n).length + 1 ≤ maxLen := by unfold maxLen; omega
          have m2 : ((visL f ev n).length + 1) * 8 ≤ 140737488355328 := by omega
          have HDn : Hid (dyv f ev (n + 1) = dyv f ev n + ev) := hds
          clear hds hdl hnl
          generalize visL f ev n = L at HOw HLs m1 m2
          generalize dyv f ev n = d at n1 HLs hbd HDn ⊢
          have e5 : IntKind.i64.wrap (d + ev) = d + ev := IntWalk.i64_in _ (by omega)
          have Hpos : Hid (0 < ev) := hpos
          go_wp2_with (at_builtin; refine wpList_app _ rfl _ _ 23 rfl W.heap.size 3 i0 (.int .i64 0) 1 8 Try.underlying23 hi hz0 hz1 hz2 rfl (by decide) (u12) (L).length ((L).map (Value.int .i64)) rfl ?qo (wr.heap.size + 1) (some ⟨wr.heap.size, 0, none⟩) 1 1 ([(d : Int)].map (Value.int .i64)) rfl ?qr ?q1 m1 m2 ?qb ?_)
          case qo => first | exact owns_alloc HOw.out _ | exact owns_alloc (owns_drewN HOw.out _) _ | exact owns_drewN (owns_alloc HOw.out _) _
          case qr =>
            refine Row.reads (t := 3) ?_ rfl (by omega)
            show Row _ _ _ [.int .i64 d]
            first | exact row_oneI _ _ _ _ (by simp; done) | exact (row_oneI _ _ _ _ (by simp; done)).drewN _
          case q1 => first | rfl | (intro u hu; simp at hu; subst hu; rfl)
          case qb => first | exact hws | (have := hws; omega) | (have := hws; simp; omega)
          intro v' w1 hown' hbel'
          go_wp2_with fail
          go_roundw
          case rel => exact ⟨n + 1, by omega, by first | rw [HDn.out] | (rw [HDn.out]; rfl), by rw [HLs.out]; simpa using hown', Below.trans (by repeat (first | (with_reducible exact HBL.out) | (with_reducible exact hws) | (with_reducible refine below_drewN ?_ _) | (with_reducible refine Below.alloc ?_ ?_ _) | (simp; omega))) hbel'⟩
          case measure => simp [intOf]; omega
        · have n1 : ¬ dyv f ev n ≤ t := fun h => hlt (hdl.1 h)
          have en : n = N := by omega
          have HN := Lib.hid en
          obtain ⟨A2, c2, hv2, hr2⟩ := own_readsI HOw.out
          rw [hv2]
          rw [en] at hr2
          rw [en] at n1
          rw [en]
          have HR2 := Lib.hid hr2
          clear en hlt hr2 hdl hnl hbd hv2 HN HOw
          generalize dyv f ev N = d at n1 ⊢
          go_wp2_with fail
          refine bodyPost_ret (v := .tuple #[.slice A2 (visL f ev N).length c2, .int .i64 0]) (by simp [results, Try.results65, go_sem]) rfl ?_
          exact LsTo.ok rfl HBr.out HR2.out
end Go.Proofs.Ytaocgkmobfocjaa
