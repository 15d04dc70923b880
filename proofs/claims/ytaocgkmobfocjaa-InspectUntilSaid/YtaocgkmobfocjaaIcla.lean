/- The walk of InspectUntil, with its plain facts. Conditions: arguments that read as data. -/
import Derived.Test.YtaocgkmobfocjaaIcg
import Derived.Test.YtaocgkmobfocjaaIam
namespace Go.Proofs.Ytaocgkmobfocjaa
open Go.RowKit
theorem take_getD {l : List EntZ} {n i : Nat} (h : i < n) : (l.take n).getD i default = l.getD i default := by
  simp only [List.getD_eq_getElem?_getD, List.getElem?_take]
  rw [if_pos h]

/-- The tests of so many days. -/
def tsL (ride : Nat) (day : Int) : Nat → List EntZ
  | 0 => []
  | j + 1 => tsL ride day j ++ [tstE ride (day + (j : Int))]
theorem tsL_len (ride : Nat) (day : Int) : ∀ j, (tsL ride day j).length = j := by
  intro j
  induction j with
  | zero => rfl
  | succ j ih => simp only [tsL]; rw [List.length_append, ih]; rfl
theorem tsL_day {ride : Nat} {day : Int} : ∀ {j x}, x ∈ tsL ride day j → x.day < day + (j : Int) := by
  intro j
  induction j with
  | zero => intro x hx; cases hx
  | succ j ih =>
    intro x hx
    simp only [tsL] at hx
    rcases List.mem_append.1 hx with h | h
    · have := ih h; omega
    · rw [List.mem_singleton.1 h]; simp only [tstE]; omega
theorem ts_chk {k : BookZ} {l : List EntZ} {ride : Nat} {d : Int} {r : Int} : ∀ n, chkU k (l ++ [tstE ride d]) r n = chkU k l r n := by
  intro n
  induction n with
  | zero => rfl
  | succ n ih =>
    have e : infS (l ++ [tstE ride d]) n (k.rules.getD n default) = infS l n (k.rules.getD n default) := by
      unfold infS
      have hf : forceB (n : Int) (k.rules.getD n default).ride (tstE ride d) = false := by unfold forceB tstE; simp
      have e2 : lastS (forceB (n : Int) (k.rules.getD n default).ride) (l ++ [tstE ride d]) = lastS (forceB (n : Int) (k.rules.getD n default).ride) l := by rw [lastS_snoc, if_neg (by rw [hf]; simp)]
      rw [e2]
    simp only [chkU]
    rw [ih, e]
theorem ts_ins {k : BookZ} {l : List EntZ} {ride : Nat} {d : Int} : insS k (l ++ [tstE ride d]) ride = insS k l ride := by
  unfold insS
  have hf : renB (ride : Int) (tstE ride d) = false := by unfold renB tstE; simp
  have e2 : lastS (renB (ride : Int)) (l ++ [tstE ride d]) = lastS (renB (ride : Int)) l := by rw [lastS_snoc, if_neg (by rw [hf]; simp)]
  rw [e2]
theorem ts_dfv {l : List EntZ} {ride : Nat} {d : Int} : dfvS (l ++ [tstE ride d]) (ride : Int) = dfvS l (ride : Int) := by
  rw [Bool.eq_iff_iff, dfv_is, dfv_is, manN_all (by simp [tstE]), manN_all (by simp [tstE])]
theorem ts_rea {k : BookZ} {l : List EntZ} {ride : Nat} {d e : Int} : reaT k (l ++ [tstE ride d]) ride e = reaT k l ride e := by
  unfold reaT
  rw [ts_chk, ts_dfv, ts_ins]
theorem ts_all {k : BookZ} {l : List EntZ} {ride : Nat} {day e : Int} : ∀ j, reaT k (l ++ tsL ride day j) ride e = reaT k l ride e := by
  intro j
  induction j with
  | zero => simp [tsL]
  | succ j ih => simp only [tsL]; rw [← List.append_assoc, ts_rea, ih]
theorem ts_ok {k : BookZ} {l : List EntZ} {ride : Nat} {day : Int} (h : LogOk k l) (hr : ride < k.insured.length) (hp : 0 < k.ranks.length) (h0 : 0 ≤ day) (hl : ∀ x ∈ l, x.day ≤ day) : ∀ j : Nat, l.length + j ≤ 100 → (0 < j → day + (j : Int) ≤ 10001) → LogOk k (l ++ tsL ride day j) := by
  intro j
  induction j with
  | zero => intro _ _; simpa [tsL] using h
  | succ j ih =>
    intro h1 h2
    have hk := ih (by omega) (by omega)
    have h2 := h2 (by omega)
    simp only [tsL]
    rw [← List.append_assoc, logOk_snoc]
    refine ⟨hk, ?_, by rw [List.length_append, tsL_len]; omega⟩
    rw [canB_iff]
    refine ⟨by simp only [tstE]; omega, ?_, ?_⟩
    · have : lastDay (l ++ tsL ride day j) ≤ day + (j : Int) := by
        cases j with
        | zero =>
          simp only [tsL, List.append_nil]
          rcases List.eq_nil_or_concat l with q | ⟨m, x, q⟩
          · rw [q, lastDay_nil]; omega
          · rw [q, List.concat_eq_append, lastDay_snoc]
            have := hl x (by rw [q]; simp)
            omega
        | succ i =>
          simp only [tsL]
          rw [← List.append_assoc, lastDay_snoc]
          simp only [tstE]; omega
      simpa [tstE] using this
    · unfold kindB
      simp only [tstE]
      simp [inBI]
      omega
/-- What the loop over the days finds on each of them. -/
theorem ts_why {k : BookZ} {l : List EntZ} {ride : Nat} {day : Int} (h : LogOk k l) (hr : ride < k.insured.length) (hp : 0 < k.ranks.length) (h0 : 0 ≤ day) (hl : ∀ x ∈ l, x.day ≤ day) {j : Nat} (h1 : l.length + (j + 1) ≤ 100) (h2 : day + (j : Int) ≤ 10000) :
    LogOk k (l ++ tsL ride day (j + 1)) ∧ upL (l ++ tsL ride day (j + 1)) (day + (j : Int)) = l ++ tsL ride day (j + 1) ∧ whyS k (l ++ tsL ride day (j + 1)) ride (day + (j : Int)) = reaT k l ride (day + (j : Int)) := by
  have hk := ts_ok h hr hp h0 hl (j + 1) h1 (fun _ => by omega)
  have hk0 := ts_ok h hr hp h0 hl j (by omega) (fun _ => by omega)
  have hd : ∀ x ∈ l ++ tsL ride day (j + 1), x.day ≤ day + (j : Int) := by
    intro x hx
    rcases List.mem_append.1 hx with q | q
    · have := hl x q; omega
    · have := tsL_day q; omega
  refine ⟨hk, up_all hd, ?_⟩
  rw [← rea_why hk (by omega) hd]
  simp only [tsL]
  rw [← List.append_assoc, rea_test hk0 (by omega), ts_all]
/-- The last day that Until says, or the day before the first one. -/
def unL (day : Int) (p : Int × Int) : Int := if p.2 = 3 then day - 1 else p.1
theorem un_rea {k : BookZ} {l : List EntZ} {ride : Nat} {day d : Int} (hd : day ≤ d) : (reaT k l ride d).length = 0 ↔ d ≤ unL day (untS k l ride day) := by
  rw [List.length_eq_zero_iff, reaT_nil]
  unfold unL untS
  by_cases q : min (chkU k l ride k.rules.length) (insS k l ride) < day ∨ dfvS l ride = true
  · rw [if_pos q, if_pos rfl]
    constructor
    · rintro ⟨h1, h2⟩
      rcases q with q | q
      · omega
      · rw [h2] at q; cases q
    · intro h1; omega
  · rw [if_neg q, if_neg (by simp)]
    constructor
    · intro h1; exact h1.1
    · intro h1; exact ⟨h1, by simpa using fun h2 => q (.inr h2)⟩
theorem un_bd {k : BookZ} {l : List EntZ} (h : LogOk k l) {ride : Nat} {day : Int} (h0 : 0 ≤ day ∧ day ≤ 10000) : day - 1 ≤ unL day (untS k l ride day) ∧ unL day (untS k l ride day) ≤ 10000 ∧ ((untS k l ride day).2 = 0 ∨ (untS k l ride day).2 = 3) := by
  have hb := chkU_bd h (ride : Int) (Nat.le_refl k.rules.length)
  unfold unL untS
  by_cases q : min (chkU k l ride k.rules.length) (insS k l ride) < day ∨ dfvS l ride = true
  · rw [if_pos q, if_pos rfl]; omega
  · rw [if_neg q, if_neg (by simp)]
    have : ¬ min (chkU k l ride k.rules.length) (insS k l ride) < day := fun h => q (.inl h)
    refine ⟨?_, ?_, .inl rfl⟩ <;> simp only <;> omega

/-- A list of so many numbers, without error. -/
def WyTo (w : World) (wl : Nat) (e : Ending) (w' : World) : Prop := (∃ A2 c2, e = .returned (.tuple #[.slice A2 wl c2, .int .i64 0])) ∧ Below w.heap.size w w'
/-- Any list and error. -/
def WyAny (w : World) (e : Ending) (w' : World) : Prop := (∃ A2 c2 n E, e = .returned (.tuple #[.slice A2 n c2, .int .i64 E])) ∧ Below w.heap.size w w'
set_option maxRecDepth 100000 in
set_option maxHeartbeats 4000000 in
theorem until_walk {w : World} (k : BookZ) (R : BkR) (hk : BkIn w w.heap.size k R) (l : List EntZ) (A : Option Addr) (c : Nat) (hr : Reads w w.heap.size 5 A l.length (entCells l)) (hl : l.length ≤ maxLen) (hlc : l.length ≤ c) (ride day : Int) :
    Calls Try.prog 13 #[bookV k R, .slice A l.length c, .agg #[.int .i64 ride, .int .i64 day]] w (TrueI w) := by
  obtain ⟨W0, hW0⟩ : ∃ W, W = w.alloc (.cells #[.slice R.A1 k.rules.length R.c1, .slice R.A2 k.ranks.length R.c2, .slice R.A3 k.insured.length R.c3] 25) := ⟨_, rfl⟩
  have b0 : Below w.heap.size w W0 := by subst hW0; exact (Below.refl _ _).alloc (Nat.le_refl _) _
  have r0 : Row W0 w.heap.size 25 [.slice R.A1 k.rules.length R.c1, .slice R.A2 k.ranks.length R.c2, .slice R.A3 k.insured.length R.c3] := by subst hW0; exact Row.new w _ _
  obtain ⟨W, hW⟩ : ∃ W, W = W0.alloc (.cells #[.int .i64 ride, .int .i64 day] 38) := ⟨_, rfl⟩
  have bW : Below w.heap.size w W := by subst hW; exact b0.alloc b0.size _
  have q0 : Row W0 w.heap.size 25 [.slice R.A1 k.rules.length R.c1, .slice R.A2 k.ranks.length R.c2, .slice R.A3 k.insured.length R.c3] := r0
  have r0 : Row W w.heap.size 25 [.slice R.A1 k.rules.length R.c1, .slice R.A2 k.ranks.length R.c2, .slice R.A3 k.insured.length R.c3] := by subst hW; exact q0.alloc _
  clear q0
  have t0 : Row W W0.heap.size 38 [.int .i64 ride, .int .i64 day] := by subst hW; exact Row.new W0 _ _
  obtain ⟨zb, hzb⟩ : ∃ z, z = w.heap.size := ⟨_, rfl⟩
  rw [← hzb] at r0
  have e0 : W0.heap.size = w.heap.size + 1 := by rw [hW0]; simp
  rw [e0] at t0
  obtain ⟨zq, hzq⟩ : ∃ z, z = w.heap.size + 1 := ⟨_, rfl⟩
  rw [← hzq] at t0
  clear e0
  have gW0 : W.cell? ⟨zb, 0, none⟩ = some (.slice R.A1 k.rules.length R.c1) := r0.cell (j := 0) (by simp)
  have gW1 : W.cell? ⟨zb, 1, none⟩ = some (.slice R.A2 k.ranks.length R.c2) := r0.cell (j := 1) (by simp)
  have gW2 : W.cell? ⟨zb, 2, none⟩ = some (.slice R.A3 k.insured.length R.c3) := r0.cell (j := 2) (by simp)
  have fW0 : W.cell? ⟨zq, 0, none⟩ = some (.int .i64 ride) := t0.cell (j := 0) (by simp)
  have fW1 : W.cell? ⟨zq, 1, none⟩ = some (.int .i64 day) := t0.cell (j := 1) (by simp)
  have lW := r0.lt
  have mW := t0.lt
  have HBW := Lib.hid bW
  have HGW := Lib.hid r0
  have HFW := Lib.hid t0
  have HW : Hid (∀ X, Below w.heap.size w X → Calls Try.prog 17 #[] X fun e w' => e = .returned (.bool true) ∧ Below w.heap.size w w') := fun X hX => (works_any X).mono fun e w' h => ⟨h.1, hX.trans (h.2.mono hX.size)⟩
  have HL := Lib.hid (long_any A l.length c W)
  have H3 : Hid (∀ X, Below w.heap.size w X → Calls Try.prog 29 #[bookV k R, .slice A l.length c, .int .i64 day] X fun e w' => IsBool e ∧ Below X.heap.size X w') := fun X hX => far_any k R l A c w.heap.size day X hX.size hl (hr.below hX) (hk.below hX)
  have H4 : Hid (∀ X, Below w.heap.size w X → Calls Try.prog 30 #[bookV k R, .slice A l.length c, .int .i64 ride, .int .i64 day] X fun e w' => e = .returned (.tuple #[.int .i64 (untE (rideE k l ride day) (untS k (upL l day) ride.toNat day)).1, .int .i64 (untE (rideE k l ride day) (untS k (upL l day) ride.toNat day)).2]) ∧ Below X.heap.size X w') := fun X hX => Until_any k R l A c w.heap.size ride day X hX.size hl hlc (hr.below hX) (hk.below hX)
  have HUp : Hid (∀ (X : World), Below w.heap.size w X → Calls Try.prog 40 #[.slice A l.length c, .int .i64 day] X fun e w' => e = .returned (.slice A (upL l day).length c) ∧ w' = X) := fun X hX => rUpto_any l A c w.heap.size day X hX.size hl hlc (hr.below hX)
  have hul := upL_len (l := l) (day := day)
  have HRu : Hid (∀ (X : World), Below w.heap.size w X → Reads X w.heap.size 5 A (upL l day).length (entCells (upL l day))) := fun X hX => ents_take (hr.below hX) (upN_le l day)
  have HWa : Hid (∀ (ls : List EntZ) (A : Option Addr) (c : Nat) (d : Int), ls.length ≤ 1000 → ls.length ≤ c → ∀ X, Below w.heap.size w X → Reads X X.heap.size 5 A ls.length (entCells ls) → Calls Try.prog 27 #[bookV k R, .slice A ls.length c, .int .i64 ride, .int .i64 d] X (WyAny X)) := fun ls A c d h1 h2 X hX h => (Why_any k R ls A c X.heap.size ride d X (Nat.le_refl _) (by unfold maxLen; omega) h2 h ((hk.below hX).more hX.size)).mono fun e w' ⟨h1, A2, c2, h2, _⟩ => ⟨⟨A2, c2, _, _, h2⟩, h1⟩
  have HWb : Hid (∀ (ls : List EntZ) (A : Option Addr) (c i : Nat) (d : Int), ride = (i : Int) → i < k.insured.length → LogOk k ls → (0 ≤ d ∧ d ≤ 10000) → upL ls d = ls → ls.length ≤ c → ∀ X, Below w.heap.size w X → Reads X X.heap.size 5 A ls.length (entCells ls) → Calls Try.prog 27 #[bookV k R, .slice A ls.length c, .int .i64 ride, .int .i64 d] X (WyTo X (whyS k ls i d).length)) := fun ls A c i d h1 h2 h3 h4 h5 h6 X hX h => by
    have q := Why_any k R ls A c X.heap.size ride d X (Nat.le_refl _) (by have := h3.len; unfold maxLen; omega) h6 h ((hk.below hX).more hX.size)
    rw [rideE_in h3 h4 ⟨by omega, by omega⟩, h5, h1] at q
    rw [h1]
    exact q.mono fun e w' ⟨h1, A2, c2, h2, _⟩ => ⟨⟨A2, c2, h2⟩, h1⟩
  have HEo := Lib.hid (fun h => rideE_ok (k := k) (l := l) (ride := ride) (day := day) h)
  have HUd : Hid (∀ x ∈ upL l day, x.day ≤ day) := by
    show ∀ x ∈ upL l day, x.day ≤ day
    intro x hx
    obtain ⟨i, hi, he⟩ := List.getElem_of_mem hx
    have h1 : i < upN l day := by unfold upL at hi; rw [List.length_take] at hi; omega
    have h2 := upN_in l day h1
    rw [← he, ← ent_getD hi]
    unfold upL
    rw [take_getD h1]
    exact h2
  have hl2 := hk.l2
  have hll := hl
  unfold maxLen at hl2 hll
  obtain ⟨i0, hi, hz0, hz1, hz2⟩ := info_parts Try.info_entI
  generalize (decide (30 < l.length) && decide (l.length ≤ 100)) = lg at HL
  unfold bookV at *
  clear b0 bW r0 t0 hk hr hl hlc
  go_enter Try.func13, Try.ntmps13
  go_upto_region 1 with fail
  rw [← hW0, ← hW, ← hzq, ← hzb]
  clear hW hW0 hzb hzq
  cases lg with
  | true =>
    go_wp2_with (first | (go_at_call 16; refine HL.out.mono ?_; rintro e w' ⟨rfl, hw⟩; rw [hw]; clear hw) | (go_at_call 17; refine (HW.out _ HBW.out).mono ?_; rintro e w' ⟨rfl, hb⟩; have BW := Lib.hid hb; clear hb))
    go_ret
    exact ⟨rfl, BW.out⟩
  | false =>
  go_wp2_with (go_at_call 16; refine HL.out.mono ?_; rintro e w' ⟨rfl, hw⟩; rw [hw]; clear hw)
  go_at_call 29
  refine (H3.out W HBW.out).mono ?_
  rintro e X1 ⟨⟨fb, rfl⟩, hX1⟩
  have HBX1 := Lib.hid (HBW.out.trans (hX1.mono HBW.out.size))
  have sX1 := HGW.out.below hX1 HGW.out.lt
  have vX1 := HFW.out.below hX1 HFW.out.lt
  have gX10 : X1.cell? ⟨zb, 0, none⟩ = some (.slice R.A1 k.rules.length R.c1) := sX1.cell (j := 0) (by simp)
  have gX11 : X1.cell? ⟨zb, 1, none⟩ = some (.slice R.A2 k.ranks.length R.c2) := sX1.cell (j := 1) (by simp)
  have gX12 : X1.cell? ⟨zb, 2, none⟩ = some (.slice R.A3 k.insured.length R.c3) := sX1.cell (j := 2) (by simp)
  have fX10 : X1.cell? ⟨zq, 0, none⟩ = some (.int .i64 ride) := vX1.cell (j := 0) (by simp)
  have fX11 : X1.cell? ⟨zq, 1, none⟩ = some (.int .i64 day) := vX1.cell (j := 1) (by simp)
  have lX1 := sX1.lt
  have mX1 := vX1.lt
  have HGX1 := Lib.hid sX1
  have HFX1 := Lib.hid vX1
  clear hX1 sX1 vX1 gW0 gW1 gW2 fW0 fW1 lW mW
  clear HL H3
  cases fb with
  | true =>
    go_wp2_with (go_at_call 17; refine (HW.out _ HBX1.out).mono ?_; rintro e w' ⟨rfl, hb⟩; have BW := Lib.hid hb; clear hb)
    go_ret
    exact ⟨rfl, BW.out⟩
  | false =>
  by_cases hrk : k.ranks.length = 0
  · have d1 : decide (k.ranks.length = 0) = true := decide_eq_true hrk
    have d2 : ((k.ranks.length : Int) == 0) = true := by simpa using hrk
    have d3 : decide ((k.ranks.length : Int) = 0) = true := by simpa using hrk
    clear hrk
    go_wp2_with (go_at_call 17; refine (HW.out _ HBX1.out).mono ?_; rintro e w' ⟨rfl, hb⟩; have BW := Lib.hid hb; clear hb)
    go_ret
    exact ⟨rfl, BW.out⟩
  have HRk : Hid (0 < k.ranks.length) := by show 0 < _; omega
  have d1 : decide (k.ranks.length = 0) = false := decide_eq_false hrk
  have d2 : ((k.ranks.length : Int) == 0) = false := by simpa using hrk
  have d3 : decide ((k.ranks.length : Int) = 0) = false := by simpa using hrk
  clear hrk
  go_upto_region 3 with fail
  clear d1 d2 d3
  generalize hun : (untE (rideE k l ride day) (untS k (upL l day) ride.toNat day)) = p at H4
  have HUn := Lib.hid hun
  clear hun
  obtain ⟨p1, p2⟩ := p
  dsimp only at H4
  go_upto_region 4 with (go_at_call 30; refine (H4.out X1 HBX1.out).mono ?_; rintro e X2 ⟨rfl, hX2⟩)
  have HBX2 := Lib.hid (HBX1.out.trans (hX2.mono HBX1.out.size))
  have sX2 := HGX1.out.below hX2 HGX1.out.lt
  have vX2 := HFX1.out.below hX2 HFX1.out.lt
  have gX20 : X2.cell? ⟨zb, 0, none⟩ = some (.slice R.A1 k.rules.length R.c1) := sX2.cell (j := 0) (by simp)
  have gX21 : X2.cell? ⟨zb, 1, none⟩ = some (.slice R.A2 k.ranks.length R.c2) := sX2.cell (j := 1) (by simp)
  have gX22 : X2.cell? ⟨zb, 2, none⟩ = some (.slice R.A3 k.insured.length R.c3) := sX2.cell (j := 2) (by simp)
  have fX20 : X2.cell? ⟨zq, 0, none⟩ = some (.int .i64 ride) := vX2.cell (j := 0) (by simp)
  have fX21 : X2.cell? ⟨zq, 1, none⟩ = some (.int .i64 day) := vX2.cell (j := 1) (by simp)
  have lX2 := sX2.lt
  have mX2 := vX2.lt
  have HGX2 := Lib.hid sX2
  have HFX2 := Lib.hid vX2
  clear hX2 sX2 vX2 gX10 gX11 gX12 fX10 fX11 lX1 mX1
  clear H4
  by_cases h0 : p2 = 0 ∨ p2 = 3
  case neg =>
    have q1 : (p2 != 0) = true := by simpa using fun h => h0 (.inl h)
    have q2 : (p2 != 3) = true := by simpa using fun h => h0 (.inr h)
    have q3 : (p2 == 0) = false := by simpa using fun h => h0 (.inl h)
    have q4 : (p2 == 3) = false := by simpa using fun h => h0 (.inr h)
    have q5 : decide (p2 = 0) = false := by simpa using fun h => h0 (.inl h)
    have q6 : decide (p2 = 3) = false := by simpa using fun h => h0 (.inr h)
    clear h0
    go_wp2_with (go_at_call 17; refine (HW.out _ HBX2.out).mono ?_; rintro e w' ⟨rfl, hb⟩; have BW := Lib.hid hb; clear hb)
    go_ret
    exact ⟨rfl, BW.out⟩
  have hE : rideE k l ride day = 0 := by
    by_cases q : rideE k l ride day = 0
    · exact q
    · have hu := HUn.out
      unfold untE at hu
      rw [if_neg q] at hu
      injection hu with u1 u2
      exfalso
      have : rideE k l ride day = 1 ∨ rideE k l ride day = 2 ∨ rideE k l ride day = 100 ∨ rideE k l ride day = 101 := by
        unfold rideE onE chkR at q ⊢
        repeat' split
        all_goals (first | (exact .inl rfl) | (exact .inr (.inl rfl)) | (exact .inr (.inr (.inl rfl))) | (exact .inr (.inr (.inr rfl))) | (simp_all))
      omega
  have hok := HEo.out hE
  have HOk := Lib.hid hok.1
  obtain ⟨i, hii⟩ : ∃ i, i = ride.toNat := ⟨_, rfl⟩
  have hrn : ride = (i : Int) := by omega
  have hil : i < k.insured.length := by omega
  have HIl := Lib.hid hil
  have HRn := Lib.hid hrn
  have hday := hok.2.1
  have hd0 := hday.1
  have hd1 := hday.2
  have HUk := Lib.hid (hok.1.up day)
  have hlen := HUk.out.len
  have hbd := un_bd HUk.out (ride := i) hday
  have HUr : Hid (∀ d, day ≤ d → ((reaT k (upL l day) i d).length = 0 ↔ d ≤ unL day (untS k (upL l day) i day))) := fun d h => un_rea h
  have hpe : untS k (upL l day) i day = (p1, p2) := by
    have hu := HUn.out
    unfold untE at hu
    rw [if_pos hE, ← hii] at hu
    exact hu
  rw [hpe] at hbd HUr
  have hla : (unL day (p1, p2) = day - 1 ∧ p2 = 3) ∨ (unL day (p1, p2) = p1 ∧ p2 = 0) := by
    unfold unL
    rcases h0 with h | h
    · subst h; exact .inr ⟨if_neg (fun h => by cases h), rfl⟩
    · subst h; exact .inl ⟨if_pos rfl, rfl⟩
  have hb1 := hbd.1
  have hb2 := hbd.2.1
  generalize unL day (p1, p2) = la at HUr hla hb1 hb2
  have HTw : Hid (∀ j : Nat, (upL l day).length + (j + 1) ≤ 100 → day + (j : Int) ≤ 10000 → LogOk k (upL l day ++ tsL i day (j + 1)) ∧ upL (upL l day ++ tsL i day (j + 1)) (day + (j : Int)) = upL l day ++ tsL i day (j + 1) ∧ whyS k (upL l day ++ tsL i day (j + 1)) i (day + (j : Int)) = reaT k (upL l day) i (day + (j : Int))) := fun j h1 h2 => ts_why HUk.out hil HRk.out hd0 HUd.out h1 h2
  clear hok hbd hpe hii hrn hil hE HEo HUn h0 hday hul HUk HUd
  have HUx := Lib.hid (HUp.out X2 HBX2.out)
  have hru := HRu.out X2 HBX2.out
  clear HUp HRu
  generalize upL l day = lu at HUx hru HUr HTw hlen ⊢
  have m1 : 0 + lu.length ≤ maxLen := by unfold maxLen; omega
  have m2 : (0 + lu.length) * 40 ≤ 140737488355328 := by omega
  rcases hla with ⟨hlx, rfl⟩ | ⟨hlx, rfl⟩
  case inl =>
    have HLa := Lib.hid hlx
    clear hlx
    have el : IntKind.i64.wrap ((lu.length : Int) + 60) = (lu.length : Int) + 60 := IntWalk.i64_in _ (by omega)
    have ey : IntKind.i64.wrap (day - 1) = day - 1 := IntWalk.i64_in _ (by omega)
    go_upto_region 6 with fail
    go_upto_region 7 with (first | (go_at_call 40; with_reducible refine HUx.out.mono ?_; rintro e w' ⟨rfl, hw⟩; rw [hw]; clear hw) | (at_builtin; refine wpList_app _ rfl _ _ 26 rfl X2.heap.size 54 i0 (.agg #[.int .i64 0, .int .i64 0, .int .i64 0, .int .i64 0, .int .i64 0]) 5 40 Try.underlying26 hi hz0 hz1 hz2 rfl (by decide) (.slice none 0 0) 0 [] rfl (owns_nil _ _ _ _) w.heap.size A lu.length c (entCells lu) rfl hru (ents_ones lu) m1 m2 (Nat.le_refl _) ?_; intro v' X3 hown' hbel'))
    have hown2 : X3.ownsRow X2.heap.size 54 5 v' lu.length (entCells lu) := by simpa using hown'
    obtain ⟨A2, c2, hv, -, -⟩ : ∃ A c, v' = .slice A lu.length c ∧ True ∧ True := by obtain ⟨A, c, hv, _⟩ := own_readsI hown2; exact ⟨A, c, hv, trivial, trivial⟩
    subst hv
    have HOw := Lib.hid hown2
    clear hown' hown2 hru HUx m1 m2
    have HBX3 := Lib.hid (HBX2.out.trans (hbel'.mono HBX2.out.size))
    have sX3 := HGX2.out.below hbel' HGX2.out.lt
    have vX3 := HFX2.out.below hbel' HFX2.out.lt
    have gX30 : X3.cell? ⟨zb, 0, none⟩ = some (.slice R.A1 k.rules.length R.c1) := sX3.cell (j := 0) (by simp)
    have gX31 : X3.cell? ⟨zb, 1, none⟩ = some (.slice R.A2 k.ranks.length R.c2) := sX3.cell (j := 1) (by simp)
    have gX32 : X3.cell? ⟨zb, 2, none⟩ = some (.slice R.A3 k.insured.length R.c3) := sX3.cell (j := 2) (by simp)
    have fX30 : X3.cell? ⟨zq, 0, none⟩ = some (.int .i64 ride) := vX3.cell (j := 0) (by simp)
    have fX31 : X3.cell? ⟨zq, 1, none⟩ = some (.int .i64 day) := vX3.cell (j := 1) (by simp)
    have lX3 := sX3.lt
    have mX3 := vX3.lt
    have HGX3 := Lib.hid sX3
    have HFX3 := Lib.hid vX3
    have HSz : Hid (X2.heap.size ≤ X3.heap.size) := hbel'.size
    clear hbel' sX3 vX3 gX20 gX21 gX22 fX20 fX21 lX2 mX2
    by_cases hm : 100 < lu.length + 60
    · have q1 : decide ((100 : Int) < (lu.length : Int) + 60) = true := decide_eq_true (by omega)
      have q2 : decide ((40 : Int) < (lu.length : Int)) = true := decide_eq_true (by omega)
      have q3 : decide (40 < lu.length) = true := decide_eq_true (by omega)
      go_wp2_with (go_at_call 17; refine (HW.out _ HBX3.out).mono ?_; rintro e w' ⟨rfl, hb⟩; have BW := Lib.hid hb; clear hb)
      go_ret
      exact ⟨rfl, BW.out⟩
    have q1 : decide ((100 : Int) < (lu.length : Int) + 60) = false := decide_eq_false (by omega)
    have q2 : decide ((40 : Int) < (lu.length : Int)) = false := decide_eq_false (by omega)
    have q3 : decide (40 < lu.length) = false := decide_eq_false (by omega)
    have hlu : lu.length ≤ 40 := by omega
    clear hm
    go_upto_region 12 with fail
    clear el ey q1 q2 q3 gX30 gX31 gX32 fX30 fX31 lX3 mX3
    rw [← HLa.out]
    go_loopw [9, 10] (fun nw q wr => ∃ (j : Nat) (ls : List EntZ), j ≤ 61 ∧ q = .int .i64 (day + (j : Int)) ∧ day + (j : Int) ≤ 10001 ∧ Hid (ls = lu ++ tsL i day j) ∧ (∃ A2 c2, nw = .slice A2 ls.length c2 ∧ wr.ownsRow X2.heap.size 54 5 (.slice A2 ls.length c2) ls.length (entCells ls)) ∧ Below X2.heap.size X3 wr) (fun _ q _ => (10002 - intOf q).toNat)
    case atStart => exact ⟨0, lu, by omega, int_eqI (by omega), by omega, (by simp [tsL] : lu = lu ++ tsL i day 0), ⟨A2, c2, rfl, HOw.out⟩, Below.refl _ _⟩
    case round =>
      clear HOw
      obtain ⟨j, ls, hj, rfl, hjd, hls, ⟨A4, c4, rfl, hown⟩, hbel⟩ := hrel
      have HBL := Lib.hid hbel
      have HBr := Lib.hid (HBX3.out.trans (hbel.mono (Nat.le_trans HBX2.out.size (Nat.le_refl _))))
      have HGr := Lib.hid (HGX3.out.below hbel (by have := HGX2.out.lt; omega))
      have HFr := Lib.hid (HFX3.out.below hbel (by have := HFX2.out.lt; omega))
      have HSr : Hid (X2.heap.size ≤ wr.heap.size) := Nat.le_trans HSz.out hbel.size
      clear hbel
      have sG := HGr.out
      have sF := HFr.out
      have f0 : wr.cell? ⟨zq, 0, none⟩ = some (.int .i64 ride) := sF.cell (j := 0) (by simp)
      have f1 : wr.cell? ⟨zq, 1, none⟩ = some (.int .i64 day) := sF.cell (j := 1) (by simp)
      have g0 : wr.cell? ⟨zb, 0, none⟩ = some (.slice R.A1 k.rules.length R.c1) := sG.cell (j := 0) (by simp)
      have g1 : wr.cell? ⟨zb, 1, none⟩ = some (.slice R.A2 k.ranks.length R.c2) := sG.cell (j := 1) (by simp)
      have g2 : wr.cell? ⟨zb, 2, none⟩ = some (.slice R.A3 k.insured.length R.c3) := sG.cell (j := 2) (by simp)
      have lG := sG.lt
      have lF := sF.lt
      clear sG sF
      have hlsl : ls.length = lu.length + j := by rw [hls.out, List.length_append, tsL_len]
      have HLl := Lib.hid hlsl
      have hl41 : ls.length ≤ 40 + j := by omega
      clear hlsl
      have ea : IntKind.i64.wrap (day + 60) = day + 60 := IntWalk.i64_in _ (by omega)
      have eb : IntKind.i64.wrap (la + 1) = la + 1 := IntWalk.i64_in _ (by omega)
      have ec : IntKind.i64.wrap (day + (j : Int) + 1) = day + (j : Int) + 1 := IntWalk.i64_in _ (by omega)
      have ed : IntKind.i64.wrap (day - 1) = day - 1 := IntWalk.i64_in _ (by omega)
      have w1 : decide (day - 1 ≤ la) = true := decide_eq_true (by omega)
      have w2 : decide (la ≤ 10000) = true := decide_eq_true (by omega)
      by_cases hgo : j ≤ 60 ∧ day + (j : Int) ≤ la + 1 ∧ day + (j : Int) ≤ 10000
      case neg =>
        have HGo := Lib.hid hgo
        clear hgo
        by_cases b1 : j ≤ 60
        · have c1 : decide (day + (j : Int) ≤ day + 60) = true := decide_eq_true (by omega)
          have c1' : decide ((j : Int) ≤ 60) = true := decide_eq_true (by omega)
          have c1'' : decide (j ≤ 60) = true := decide_eq_true (by omega)
          by_cases b2 : day + (j : Int) ≤ la + 1
          · have c2 : decide (day + (j : Int) ≤ la + 1) = true := decide_eq_true b2
            have c3 : decide (day + (j : Int) ≤ 10000) = false := decide_eq_false (fun h => HGo.out ⟨b1, b2, h⟩)
            clear b1 b2
            go_wp2_with (go_at_call 17; refine (HW.out _ HBr.out).mono ?_; rintro e w' ⟨rfl, hb⟩; have BW := Lib.hid hb; clear hb)
            go_ret
            exact ⟨ret_boolI (by simp), BW.out⟩
          · have c2 : decide (day + (j : Int) ≤ la + 1) = false := decide_eq_false b2
            clear b1 b2
            go_wp2_with (go_at_call 17; refine (HW.out _ HBr.out).mono ?_; rintro e w' ⟨rfl, hb⟩; have BW := Lib.hid hb; clear hb)
            go_ret
            exact ⟨ret_boolI (by simp), BW.out⟩
        · have c1 : decide (day + (j : Int) ≤ day + 60) = false := decide_eq_false (by omega)
          have c1' : decide ((j : Int) ≤ 60) = false := decide_eq_false (by omega)
          have c1'' : decide (j ≤ 60) = false := decide_eq_false (by omega)
          clear b1
          go_wp2_with (go_at_call 17; refine (HW.out _ HBr.out).mono ?_; rintro e w' ⟨rfl, hb⟩; have BW := Lib.hid hb; clear hb)
          go_ret
          exact ⟨ret_boolI (by simp), BW.out⟩
      obtain ⟨b1, b2, b3⟩ := hgo
      have c1 : decide (day + (j : Int) ≤ day + 60) = true := decide_eq_true (by omega)
      have c1' : decide ((j : Int) ≤ 60) = true := decide_eq_true (by omega)
      have c1'' : decide (j ≤ 60) = true := decide_eq_true (by omega)
      have c2' : decide (day + (j : Int) ≤ la + 1) = true := decide_eq_true b2
      have c3 : decide (day + (j : Int) ≤ 10000) = true := decide_eq_true b3
      go_upto_region 14 with fail
      clear c1 c1' c1'' c2' c3 ea eb ed w1 w2
      have m3 : ls.length + 1 ≤ maxLen := by unfold maxLen; omega
      have m4 : (ls.length + 1) * 40 ≤ 140737488355328 := by omega
      obtain ⟨Y, hY⟩ : ∃ Y, Y = wr.alloc (.cells #[.int .i64 (day + (j : Int)), .int .i64 4, .int .i64 ride, .int .i64 0, .int .i64 0] 54) := ⟨_, rfl⟩
      have hownY : Y.ownsRow X2.heap.size 54 5 (.slice A4 ls.length c4) ls.length (entCells ls) := by rw [hY]; exact owns_alloc hown _
      have rowY : Row Y wr.heap.size 54 [.int .i64 (day + (j : Int)), .int .i64 4, .int .i64 ride, .int .i64 0, .int .i64 0] := by rw [hY]; exact Row.new wr _ _
      have bY : Below X2.heap.size wr Y := by rw [hY]; exact (Below.refl _ _).alloc HSr.out _
      have hrx := rowY.reads (B := Y.heap.size) (size := 5) (n := 1) rfl rowY.lt
      have szY : X2.heap.size ≤ Y.heap.size := Nat.le_trans HSr.out bY.size
      clear hown
      go_upto_region 15 with (at_builtin; rw [← hY]; refine wpList_app _ rfl _ _ 26 rfl X2.heap.size 54 i0 (.agg #[.int .i64 0, .int .i64 0, .int .i64 0, .int .i64 0, .int .i64 0]) 5 40 Try.underlying26 hi hz0 hz1 hz2 rfl (by decide) (.slice A4 ls.length c4) ls.length (entCells ls) rfl hownY Y.heap.size (some ⟨wr.heap.size, 0, none⟩) 1 1 [.int .i64 (day + (j : Int)), .int .i64 4, .int .i64 ride, .int .i64 0, .int .i64 0] rfl hrx ?q1 m3 m4 szY ?_; (case q1 => intro u hu; simp at hu; rcases hu with rfl | rfl | rfl | rfl | rfl <;> rfl); intro v' V hown' hbel')
      clear hY
      obtain ⟨ls2, hls2⟩ : ∃ ls2, ls2 = lu ++ tsL i day (j + 1) := ⟨_, rfl⟩
      have HL2 := Lib.hid hls2
      have e2 : ls2.length = ls.length + 1 := by rw [hls2, hls.out]; simp [tsL]; omega
      have e3 : entCells ls2 = entCells ls ++ [.int .i64 (day + (j : Int)), .int .i64 4, .int .i64 ride, .int .i64 0, .int .i64 0] := by rw [hls2, hls.out, HRn.out]; simp [entCells, entL, tsL, tstE]
      rw [← e2, ← e3] at hown'
      have HE2 := Lib.hid e2
      clear hls2 e2 e3
      obtain ⟨A3, c3, hv, hrd, hc3⟩ := own_readsC hown' (by have := HE2.out; omega)
      subst hv
      have HOw := Lib.hid hown'
      have HRd := Lib.hid hrd
      have HC3 := Lib.hid hc3
      clear hown' hownY rowY hrx hrd hc3 m3 m4 hls
      have hbV := (bY.trans hbel')
      have HBV := Lib.hid (HBr.out.trans (hbV.mono HBX2.out.size))
      have HVL := Lib.hid (HBL.out.trans hbV)
      have sG := HGr.out.below hbV (by have := HGX2.out.lt; omega)
      have sF := HFr.out.below hbV (by have := HFX2.out.lt; omega)
      have HSV : Hid (X2.heap.size ≤ V.heap.size) := Nat.le_trans HSr.out hbV.size
      clear bY hbel' hbV szY f0 f1 g0 g1 g2 lG lF HBr HGr HFr HSr HBL
      have f0 : V.cell? ⟨zq, 0, none⟩ = some (.int .i64 ride) := sF.cell (j := 0) (by simp)
      have g0 : V.cell? ⟨zb, 0, none⟩ = some (.slice R.A1 k.rules.length R.c1) := sG.cell (j := 0) (by simp)
      have g1 : V.cell? ⟨zb, 1, none⟩ = some (.slice R.A2 k.ranks.length R.c2) := sG.cell (j := 1) (by simp)
      have g2 : V.cell? ⟨zb, 2, none⟩ = some (.slice R.A3 k.insured.length R.c3) := sG.cell (j := 2) (by simp)
      have lG := sG.lt
      have lF := sF.lt
      clear sG sF
      have hl2 : ls2.length = lu.length + j + 1 := by rw [HE2.out, HLl.out]
      by_cases hmx : 100 < ls2.length
      · have q1 : decide (100 < ls2.length) = true := decide_eq_true hmx
        have q2 : decide ((100 : Int) < (ls2.length : Int)) = true := decide_eq_true (by omega)
        have HW1 := Lib.hid (HWa.out ls2 A3 c3 (day + (j : Int)) (by omega) HC3.out V HBV.out HRd.out)
        clear hl2 hmx
        go_upto_region 16 with (go_at_call 27; refine HW1.out.mono ?_; rintro e Z ⟨⟨Aw, cw, nw, ew, rfl⟩, hZ⟩)
        have HBZ := Lib.hid (HBV.out.trans (hZ.mono HBV.out.size))
        clear hZ
        go_wp2_with (go_at_call 17; refine (HW.out _ HBZ.out).mono ?_; rintro e w' ⟨rfl, hb⟩; have BW := Lib.hid hb; clear hb)
        go_ret
        exact ⟨rfl, BW.out⟩
      · have q1 : decide (100 < ls2.length) = false := decide_eq_false hmx
        have q2 : decide ((100 : Int) < (ls2.length : Int)) = false := decide_eq_false (by omega)
        have ht := HTw.out j (by omega) b3
        rw [← HL2.out] at ht
        have HW1 := Lib.hid (HWb.out ls2 A3 c3 i (day + (j : Int)) HRn.out HIl.out ht.1 ⟨by omega, b3⟩ ht.2.1 HC3.out V HBV.out HRd.out)
        rw [ht.2.2] at HW1
        have hur := HUr.out (day + (j : Int)) (by omega)
        generalize (reaT k lu i (day + (j : Int))).length = wl at HW1 hur
        clear ht hl2 hmx
        go_upto_region 16 with (go_at_call 27; refine HW1.out.mono ?_; rintro e Z ⟨⟨Aw, cw, rfl⟩, hZ⟩)
        have HBZ := Lib.hid (HVL.out.trans (hZ.mono HSV.out))
        have HOZ := Lib.hid (own_below HOw.out hZ)
        clear hZ HW1 f0 g0 g1 g2 lG lF
        by_cases hle : day + (j : Int) ≤ la
        · have z1 : decide (day + (j : Int) ≤ la) = true := decide_eq_true hle
          obtain rfl : wl = 0 := hur.2 hle
          clear hur hle
          go_wp2_with fail
          go_roundw
          case rel => exact ⟨j + 1, ls2, by omega, int_eqI (by omega), by omega, HL2, ⟨A3, c3, rfl, HOZ.out⟩, HBZ.out⟩
          case measure => simp [intOf]; omega
        · have z1 : decide (day + (j : Int) ≤ la) = false := decide_eq_false hle
          have hw0 : ¬ wl = 0 := fun h => hle (hur.1 h)
          have z2 : decide (wl = 0) = false := decide_eq_false hw0
          have z3 : ((wl : Int) == 0) = false := by simpa using hw0
          have z4 : decide ((wl : Int) = 0) = false := by simpa using hw0
          clear hur hle hw0
          go_wp2_with fail
          go_roundw
          case rel => exact ⟨j + 1, ls2, by omega, int_eqI (by omega), by omega, HL2, ⟨A3, c3, rfl, HOZ.out⟩, HBZ.out⟩
          case measure => simp [intOf]; omega
  case inr =>
    obtain rfl : la = p1 := hlx
    have el : IntKind.i64.wrap ((lu.length : Int) + 60) = (lu.length : Int) + 60 := IntWalk.i64_in _ (by omega)
    have ey : IntKind.i64.wrap (day - 1) = day - 1 := IntWalk.i64_in _ (by omega)
    go_upto_region 6 with fail
    go_upto_region 7 with (first | (go_at_call 40; with_reducible refine HUx.out.mono ?_; rintro e w' ⟨rfl, hw⟩; rw [hw]; clear hw) | (at_builtin; refine wpList_app _ rfl _ _ 26 rfl X2.heap.size 54 i0 (.agg #[.int .i64 0, .int .i64 0, .int .i64 0, .int .i64 0, .int .i64 0]) 5 40 Try.underlying26 hi hz0 hz1 hz2 rfl (by decide) (.slice none 0 0) 0 [] rfl (owns_nil _ _ _ _) w.heap.size A lu.length c (entCells lu) rfl hru (ents_ones lu) m1 m2 (Nat.le_refl _) ?_; intro v' X3 hown' hbel'))
    have hown2 : X3.ownsRow X2.heap.size 54 5 v' lu.length (entCells lu) := by simpa using hown'
    obtain ⟨A2, c2, hv, -, -⟩ : ∃ A c, v' = .slice A lu.length c ∧ True ∧ True := by obtain ⟨A, c, hv, _⟩ := own_readsI hown2; exact ⟨A, c, hv, trivial, trivial⟩
    subst hv
    have HOw := Lib.hid hown2
    clear hown' hown2 hru HUx m1 m2
    have HBX3 := Lib.hid (HBX2.out.trans (hbel'.mono HBX2.out.size))
    have sX3 := HGX2.out.below hbel' HGX2.out.lt
    have vX3 := HFX2.out.below hbel' HFX2.out.lt
    have gX30 : X3.cell? ⟨zb, 0, none⟩ = some (.slice R.A1 k.rules.length R.c1) := sX3.cell (j := 0) (by simp)
    have gX31 : X3.cell? ⟨zb, 1, none⟩ = some (.slice R.A2 k.ranks.length R.c2) := sX3.cell (j := 1) (by simp)
    have gX32 : X3.cell? ⟨zb, 2, none⟩ = some (.slice R.A3 k.insured.length R.c3) := sX3.cell (j := 2) (by simp)
    have fX30 : X3.cell? ⟨zq, 0, none⟩ = some (.int .i64 ride) := vX3.cell (j := 0) (by simp)
    have fX31 : X3.cell? ⟨zq, 1, none⟩ = some (.int .i64 day) := vX3.cell (j := 1) (by simp)
    have lX3 := sX3.lt
    have mX3 := vX3.lt
    have HGX3 := Lib.hid sX3
    have HFX3 := Lib.hid vX3
    have HSz : Hid (X2.heap.size ≤ X3.heap.size) := hbel'.size
    clear hbel' sX3 vX3 gX20 gX21 gX22 fX20 fX21 lX2 mX2
    by_cases hm : 100 < lu.length + 60
    · have q1 : decide ((100 : Int) < (lu.length : Int) + 60) = true := decide_eq_true (by omega)
      have q2 : decide ((40 : Int) < (lu.length : Int)) = true := decide_eq_true (by omega)
      have q3 : decide (40 < lu.length) = true := decide_eq_true (by omega)
      go_wp2_with (go_at_call 17; refine (HW.out _ HBX3.out).mono ?_; rintro e w' ⟨rfl, hb⟩; have BW := Lib.hid hb; clear hb)
      go_ret
      exact ⟨rfl, BW.out⟩
    have q1 : decide ((100 : Int) < (lu.length : Int) + 60) = false := decide_eq_false (by omega)
    have q2 : decide ((40 : Int) < (lu.length : Int)) = false := decide_eq_false (by omega)
    have q3 : decide (40 < lu.length) = false := decide_eq_false (by omega)
    have hlu : lu.length ≤ 40 := by omega
    clear hm
    go_upto_region 12 with fail
    clear el ey q1 q2 q3 gX30 gX31 gX32 fX30 fX31 lX3 mX3
    
    go_loopw [9, 10] (fun nw q wr => ∃ (j : Nat) (ls : List EntZ), j ≤ 61 ∧ q = .int .i64 (day + (j : Int)) ∧ day + (j : Int) ≤ 10001 ∧ Hid (ls = lu ++ tsL i day j) ∧ (∃ A2 c2, nw = .slice A2 ls.length c2 ∧ wr.ownsRow X2.heap.size 54 5 (.slice A2 ls.length c2) ls.length (entCells ls)) ∧ Below X2.heap.size X3 wr) (fun _ q _ => (10002 - intOf q).toNat)
    case atStart => exact ⟨0, lu, by omega, int_eqI (by omega), by omega, (by simp [tsL] : lu = lu ++ tsL i day 0), ⟨A2, c2, rfl, HOw.out⟩, Below.refl _ _⟩
    case round =>
      clear HOw
      obtain ⟨j, ls, hj, rfl, hjd, hls, ⟨A4, c4, rfl, hown⟩, hbel⟩ := hrel
      have HBL := Lib.hid hbel
      have HBr := Lib.hid (HBX3.out.trans (hbel.mono (Nat.le_trans HBX2.out.size (Nat.le_refl _))))
      have HGr := Lib.hid (HGX3.out.below hbel (by have := HGX2.out.lt; omega))
      have HFr := Lib.hid (HFX3.out.below hbel (by have := HFX2.out.lt; omega))
      have HSr : Hid (X2.heap.size ≤ wr.heap.size) := Nat.le_trans HSz.out hbel.size
      clear hbel
      have sG := HGr.out
      have sF := HFr.out
      have f0 : wr.cell? ⟨zq, 0, none⟩ = some (.int .i64 ride) := sF.cell (j := 0) (by simp)
      have f1 : wr.cell? ⟨zq, 1, none⟩ = some (.int .i64 day) := sF.cell (j := 1) (by simp)
      have g0 : wr.cell? ⟨zb, 0, none⟩ = some (.slice R.A1 k.rules.length R.c1) := sG.cell (j := 0) (by simp)
      have g1 : wr.cell? ⟨zb, 1, none⟩ = some (.slice R.A2 k.ranks.length R.c2) := sG.cell (j := 1) (by simp)
      have g2 : wr.cell? ⟨zb, 2, none⟩ = some (.slice R.A3 k.insured.length R.c3) := sG.cell (j := 2) (by simp)
      have lG := sG.lt
      have lF := sF.lt
      clear sG sF
      have hlsl : ls.length = lu.length + j := by rw [hls.out, List.length_append, tsL_len]
      have HLl := Lib.hid hlsl
      have hl41 : ls.length ≤ 40 + j := by omega
      clear hlsl
      have ea : IntKind.i64.wrap (day + 60) = day + 60 := IntWalk.i64_in _ (by omega)
      have eb : IntKind.i64.wrap (la + 1) = la + 1 := IntWalk.i64_in _ (by omega)
      have ec : IntKind.i64.wrap (day + (j : Int) + 1) = day + (j : Int) + 1 := IntWalk.i64_in _ (by omega)
      have ed : IntKind.i64.wrap (day - 1) = day - 1 := IntWalk.i64_in _ (by omega)
      have w1 : decide (day - 1 ≤ la) = true := decide_eq_true (by omega)
      have w2 : decide (la ≤ 10000) = true := decide_eq_true (by omega)
      by_cases hgo : j ≤ 60 ∧ day + (j : Int) ≤ la + 1 ∧ day + (j : Int) ≤ 10000
      case neg =>
        have HGo := Lib.hid hgo
        clear hgo
        by_cases b1 : j ≤ 60
        · have c1 : decide (day + (j : Int) ≤ day + 60) = true := decide_eq_true (by omega)
          have c1' : decide ((j : Int) ≤ 60) = true := decide_eq_true (by omega)
          have c1'' : decide (j ≤ 60) = true := decide_eq_true (by omega)
          by_cases b2 : day + (j : Int) ≤ la + 1
          · have c2 : decide (day + (j : Int) ≤ la + 1) = true := decide_eq_true b2
            have c3 : decide (day + (j : Int) ≤ 10000) = false := decide_eq_false (fun h => HGo.out ⟨b1, b2, h⟩)
            clear b1 b2
            go_wp2_with (go_at_call 17; refine (HW.out _ HBr.out).mono ?_; rintro e w' ⟨rfl, hb⟩; have BW := Lib.hid hb; clear hb)
            go_ret
            exact ⟨ret_boolI (by simp), BW.out⟩
          · have c2 : decide (day + (j : Int) ≤ la + 1) = false := decide_eq_false b2
            clear b1 b2
            go_wp2_with (go_at_call 17; refine (HW.out _ HBr.out).mono ?_; rintro e w' ⟨rfl, hb⟩; have BW := Lib.hid hb; clear hb)
            go_ret
            exact ⟨ret_boolI (by simp), BW.out⟩
        · have c1 : decide (day + (j : Int) ≤ day + 60) = false := decide_eq_false (by omega)
          have c1' : decide ((j : Int) ≤ 60) = false := decide_eq_false (by omega)
          have c1'' : decide (j ≤ 60) = false := decide_eq_false (by omega)
          clear b1
          go_wp2_with (go_at_call 17; refine (HW.out _ HBr.out).mono ?_; rintro e w' ⟨rfl, hb⟩; have BW := Lib.hid hb; clear hb)
          go_ret
          exact ⟨ret_boolI (by simp), BW.out⟩
      obtain ⟨b1, b2, b3⟩ := hgo
      have c1 : decide (day + (j : Int) ≤ day + 60) = true := decide_eq_true (by omega)
      have c1' : decide ((j : Int) ≤ 60) = true := decide_eq_true (by omega)
      have c1'' : decide (j ≤ 60) = true := decide_eq_true (by omega)
      have c2' : decide (day + (j : Int) ≤ la + 1) = true := decide_eq_true b2
      have c3 : decide (day + (j : Int) ≤ 10000) = true := decide_eq_true b3
      go_upto_region 14 with fail
      clear c1 c1' c1'' c2' c3 ea eb ed w1 w2
      have m3 : ls.length + 1 ≤ maxLen := by unfold maxLen; omega
      have m4 : (ls.length + 1) * 40 ≤ 140737488355328 := by omega
      obtain ⟨Y, hY⟩ : ∃ Y, Y = wr.alloc (.cells #[.int .i64 (day + (j : Int)), .int .i64 4, .int .i64 ride, .int .i64 0, .int .i64 0] 54) := ⟨_, rfl⟩
      have hownY : Y.ownsRow X2.heap.size 54 5 (.slice A4 ls.length c4) ls.length (entCells ls) := by rw [hY]; exact owns_alloc hown _
      have rowY : Row Y wr.heap.size 54 [.int .i64 (day + (j : Int)), .int .i64 4, .int .i64 ride, .int .i64 0, .int .i64 0] := by rw [hY]; exact Row.new wr _ _
      have bY : Below X2.heap.size wr Y := by rw [hY]; exact (Below.refl _ _).alloc HSr.out _
      have hrx := rowY.reads (B := Y.heap.size) (size := 5) (n := 1) rfl rowY.lt
      have szY : X2.heap.size ≤ Y.heap.size := Nat.le_trans HSr.out bY.size
      clear hown
      go_upto_region 15 with (at_builtin; rw [← hY]; refine wpList_app _ rfl _ _ 26 rfl X2.heap.size 54 i0 (.agg #[.int .i64 0, .int .i64 0, .int .i64 0, .int .i64 0, .int .i64 0]) 5 40 Try.underlying26 hi hz0 hz1 hz2 rfl (by decide) (.slice A4 ls.length c4) ls.length (entCells ls) rfl hownY Y.heap.size (some ⟨wr.heap.size, 0, none⟩) 1 1 [.int .i64 (day + (j : Int)), .int .i64 4, .int .i64 ride, .int .i64 0, .int .i64 0] rfl hrx ?q1 m3 m4 szY ?_; (case q1 => intro u hu; simp at hu; rcases hu with rfl | rfl | rfl | rfl | rfl <;> rfl); intro v' V hown' hbel')
      clear hY
      obtain ⟨ls2, hls2⟩ : ∃ ls2, ls2 = lu ++ tsL i day (j + 1) := ⟨_, rfl⟩
      have HL2 := Lib.hid hls2
      have e2 : ls2.length = ls.length + 1 := by rw [hls2, hls.out]; simp [tsL]; omega
      have e3 : entCells ls2 = entCells ls ++ [.int .i64 (day + (j : Int)), .int .i64 4, .int .i64 ride, .int .i64 0, .int .i64 0] := by rw [hls2, hls.out, HRn.out]; simp [entCells, entL, tsL, tstE]
      rw [← e2, ← e3] at hown'
      have HE2 := Lib.hid e2
      clear hls2 e2 e3
      obtain ⟨A3, c3, hv, hrd, hc3⟩ := own_readsC hown' (by have := HE2.out; omega)
      subst hv
      have HOw := Lib.hid hown'
      have HRd := Lib.hid hrd
      have HC3 := Lib.hid hc3
      clear hown' hownY rowY hrx hrd hc3 m3 m4 hls
      have hbV := (bY.trans hbel')
      have HBV := Lib.hid (HBr.out.trans (hbV.mono HBX2.out.size))
      have HVL := Lib.hid (HBL.out.trans hbV)
      have sG := HGr.out.below hbV (by have := HGX2.out.lt; omega)
      have sF := HFr.out.below hbV (by have := HFX2.out.lt; omega)
      have HSV : Hid (X2.heap.size ≤ V.heap.size) := Nat.le_trans HSr.out hbV.size
      clear bY hbel' hbV szY f0 f1 g0 g1 g2 lG lF HBr HGr HFr HSr HBL
      have f0 : V.cell? ⟨zq, 0, none⟩ = some (.int .i64 ride) := sF.cell (j := 0) (by simp)
      have g0 : V.cell? ⟨zb, 0, none⟩ = some (.slice R.A1 k.rules.length R.c1) := sG.cell (j := 0) (by simp)
      have g1 : V.cell? ⟨zb, 1, none⟩ = some (.slice R.A2 k.ranks.length R.c2) := sG.cell (j := 1) (by simp)
      have g2 : V.cell? ⟨zb, 2, none⟩ = some (.slice R.A3 k.insured.length R.c3) := sG.cell (j := 2) (by simp)
      have lG := sG.lt
      have lF := sF.lt
      clear sG sF
      have hl2 : ls2.length = lu.length + j + 1 := by rw [HE2.out, HLl.out]
      by_cases hmx : 100 < ls2.length
      · have q1 : decide (100 < ls2.length) = true := decide_eq_true hmx
        have q2 : decide ((100 : Int) < (ls2.length : Int)) = true := decide_eq_true (by omega)
        have HW1 := Lib.hid (HWa.out ls2 A3 c3 (day + (j : Int)) (by omega) HC3.out V HBV.out HRd.out)
        clear hl2 hmx
        go_upto_region 16 with (go_at_call 27; refine HW1.out.mono ?_; rintro e Z ⟨⟨Aw, cw, nw, ew, rfl⟩, hZ⟩)
        have HBZ := Lib.hid (HBV.out.trans (hZ.mono HBV.out.size))
        clear hZ
        go_wp2_with (go_at_call 17; refine (HW.out _ HBZ.out).mono ?_; rintro e w' ⟨rfl, hb⟩; have BW := Lib.hid hb; clear hb)
        go_ret
        exact ⟨rfl, BW.out⟩
      · have q1 : decide (100 < ls2.length) = false := decide_eq_false hmx
        have q2 : decide ((100 : Int) < (ls2.length : Int)) = false := decide_eq_false (by omega)
        have ht := HTw.out j (by omega) b3
        rw [← HL2.out] at ht
        have HW1 := Lib.hid (HWb.out ls2 A3 c3 i (day + (j : Int)) HRn.out HIl.out ht.1 ⟨by omega, b3⟩ ht.2.1 HC3.out V HBV.out HRd.out)
        rw [ht.2.2] at HW1
        have hur := HUr.out (day + (j : Int)) (by omega)
        generalize (reaT k lu i (day + (j : Int))).length = wl at HW1 hur
        clear ht hl2 hmx
        go_upto_region 16 with (go_at_call 27; refine HW1.out.mono ?_; rintro e Z ⟨⟨Aw, cw, rfl⟩, hZ⟩)
        have HBZ := Lib.hid (HVL.out.trans (hZ.mono HSV.out))
        have HOZ := Lib.hid (own_below HOw.out hZ)
        clear hZ HW1 f0 g0 g1 g2 lG lF
        by_cases hle : day + (j : Int) ≤ la
        · have z1 : decide (day + (j : Int) ≤ la) = true := decide_eq_true hle
          obtain rfl : wl = 0 := hur.2 hle
          clear hur hle
          go_wp2_with fail
          go_roundw
          case rel => exact ⟨j + 1, ls2, by omega, int_eqI (by omega), by omega, HL2, ⟨A3, c3, rfl, HOZ.out⟩, HBZ.out⟩
          case measure => simp [intOf]; omega
        · have z1 : decide (day + (j : Int) ≤ la) = false := decide_eq_false hle
          have hw0 : ¬ wl = 0 := fun h => hle (hur.1 h)
          have z2 : decide (wl = 0) = false := decide_eq_false hw0
          have z3 : ((wl : Int) == 0) = false := by simpa using hw0
          have z4 : decide ((wl : Int) = 0) = false := by simpa using hw0
          clear hur hle hw0
          go_wp2_with fail
          go_roundw
          case rel => exact ⟨j + 1, ls2, by omega, int_eqI (by omega), by omega, HL2, ⟨A3, c3, rfl, HOZ.out⟩, HBZ.out⟩
          case measure => simp [intOf]; omega
end Go.Proofs.Ytaocgkmobfocjaa
