/- The walk of InspectSigns. Conditions: arguments that read as data. -/
import Derived.Test.YtaocgkmobfocjaaIas
import Derived.Laws.StructEq
namespace Go.Proofs.Ytaocgkmobfocjaa
open Go.RowKit

@[go_sem] theorem eq_pair (w : World) (a b c d : Int) : (Op.equalIn 10000 52 (.agg #[.int .i64 a, .int .i64 b]) (.agg #[.int .i64 c, .int .i64 d])).run Try.prog w = .ok (decide (a = c) && decide (b = d)) w := by
  have u3 := Try.underlying3
  have a3 := Try.isAgg3
  have z3 := Try.sizeOf3
  rw [show (10000 : Nat) = 9999 + 1 from rfl, Op.equalIn]
  simp only [Sem.run_bind, run_underlying Try.underlying52, Result.andThen_ok]
  simp only [Std.Legacy.Range.forIn_eq_forIn_range', Std.Legacy.Range.size, Nat.sub_zero, Nat.add_sub_cancel, Nat.div_one, List.range'_succ, List.range'_zero, List.forIn_cons, List.forIn_nil]
  go_simp
  by_cases h1 : a = c <;> by_cases h2 : b = d <;> simp [h1, h2]
theorem sg_split {k : BookZ} {u : RuZ} {t : Nat} : ∀ {n}, t ≤ n → ∃ rest, sgN k u n = sgN k u t ++ rest := by
  intro n
  induction n with
  | zero => intro h; exact ⟨[], by rw [show t = 0 by omega]; simp⟩
  | succ n ih =>
    intro h
    by_cases q : t = n + 1
    · subst q; exact ⟨[], by simp⟩
    · obtain ⟨r, hr⟩ := ih (by omega)
      cases hk : okT k u n with
      | true => exact ⟨r ++ [n], by rw [sg_yes hk, hr, List.append_assoc]⟩
      | false => exact ⟨r, by rw [sg_no hk, hr]⟩
theorem sg_at {k : BookZ} {u : RuZ} {t n : Nat} (h : t < n) (hk : okT k u t = true) : (sgN k u n)[(sgN k u t).length]? = some t := by
  obtain ⟨r, hr⟩ := sg_split (k := k) (u := u) (show t + 1 ≤ n by omega)
  rw [hr, sg_yes hk, List.append_assoc, List.getElem?_append_right (by omega)]
  simp
theorem sg_mem {k : BookZ} {u : RuZ} {n z : Nat} (h : z ∈ sgN k u n) : z < n ∧ okT k u z = true := by
  unfold sgN at h
  rw [List.mem_filter, List.mem_range] at h
  exact h
/-- How many pairs come before a pair of the law's loops (both counted from -1 on). -/
def posT (N n c : Nat) : Nat := if n = 0 then 0 else if n ≤ N then (n - 1) * (N + 1) + min c (N + 1) else N * (N + 1)
theorem pos_row {N n : Nat} (_hn : n ≤ N + 1) : posT N n (N + 2) = posT N (n + 1) 0 := by
  unfold posT
  by_cases h0 : n = 0
  · subst h0
    by_cases h1 : 1 ≤ N
    · simp [h1]
    · simp [show N = 0 by omega]
  · rw [if_neg h0, if_neg (Nat.succ_ne_zero n)]
    by_cases h1 : n ≤ N
    · rw [if_pos h1, show min (N + 2) (N + 1) = N + 1 by omega]
      by_cases h2 : n + 1 ≤ N
      · rw [if_pos h2]
        obtain ⟨m, rfl⟩ : ∃ m, n = m + 1 := ⟨n - 1, by omega⟩
        simp only [Nat.add_sub_cancel, Nat.zero_min, Nat.add_zero]
        rw [Nat.succ_mul]
      · rw [if_neg h2]
        obtain rfl : n = N := by omega
        obtain ⟨m, rfl⟩ : ∃ m, n = m + 1 := ⟨n - 1, by omega⟩
        simp only [Nat.add_sub_cancel]
        rw [Nat.succ_mul]
    · rw [if_neg h1, if_neg (by omega)]
theorem pos_end (N : Nat) : posT N (N + 2) 0 = N * (N + 1) := by
  unfold posT
  rw [if_neg (by omega), if_neg (by omega)]
theorem rank_out {k : BookZ} {n r : Int} (h : n < 0 ∨ (k.ranks.length : Int) ≤ n) : rankB k n r = false := by
  have e : inB n 0 ((k.ranks.length : Int) - 1) = false := by
    rw [Bool.eq_false_iff, Ne, inBI]; omega
  unfold rankB
  rw [e]
  rfl
/-- At a pair that may sign. -/
theorem pos_yes {k : BookZ} {u : RuZ} {n c : Nat} (hn : n ≤ k.ranks.length + 1) (hc : c ≤ k.ranks.length + 1) (h : signB k u ((n : Int) - 1) ((c : Int) - 1) = true) : posT k.ranks.length n c < k.ranks.length * (k.ranks.length + 1) ∧ okT k u (posT k.ranks.length n c) = true ∧ prC (k.ranks.length + 1) (posT k.ranks.length n c) = [.int .i64 ((n : Int) - 1), .int .i64 ((c : Int) - 1)] ∧ posT k.ranks.length n (c + 1) = posT k.ranks.length n c + 1 := by
  have h1 : ¬ ((n : Int) - 1 < 0 ∨ (k.ranks.length : Int) ≤ (n : Int) - 1) := fun q => by
    have e := rank_out (k := k) (r := u.rank) q
    unfold signB at h
    rw [e] at h
    split at h <;> simp at h
  have h2 : c ≠ k.ranks.length + 1 := fun q => by
    subst q
    have e := rank_out (k := k) (r := u.rank) (n := ((k.ranks.length + 1 : Nat) : Int) - 1) (.inr (by omega))
    unfold signB at h
    rw [e] at h
    split at h <;> first | (simp at h; done) | (simp at h; omega)
  have hcM : c < k.ranks.length + 1 := by omega
  have hp : posT k.ranks.length n c = (n - 1) * (k.ranks.length + 1) + c := by
    unfold posT
    rw [if_neg (by omega), if_pos (by omega), show min c (k.ranks.length + 1) = c by omega]
  have hn1 : (((n - 1 : Nat)) : Int) = (n : Int) - 1 := by omega
  have hp2 : posT k.ranks.length n (c + 1) = (n - 1) * (k.ranks.length + 1) + (c + 1) := by
    unfold posT
    rw [if_neg (by omega), if_pos (by omega), show min (c + 1) (k.ranks.length + 1) = c + 1 by omega]
  have hmul : (n - 1) * (k.ranks.length + 1) + (k.ranks.length + 1) ≤ k.ranks.length * (k.ranks.length + 1) := by
    rw [← Nat.succ_mul]
    exact Nat.mul_le_mul_right _ (by omega)
  rw [hp, hp2]
  refine ⟨by omega, ?_, ?_, by omega⟩
  · rw [okT_at hcM, hn1]; exact h
  · rw [prC_at hcM, hn1]
/-- At a pair that may not. -/
theorem pos_no {k : BookZ} {u : RuZ} {n c : Nat} (hn : n ≤ k.ranks.length + 1) (hc : c ≤ k.ranks.length + 1) (h : signB k u ((n : Int) - 1) ((c : Int) - 1) = false) : (sgN k u (posT k.ranks.length n (c + 1))).length = (sgN k u (posT k.ranks.length n c)).length := by
  unfold posT
  by_cases h0 : n = 0
  · rw [if_pos h0, if_pos h0]
  · rw [if_neg h0, if_neg h0]
    by_cases h1 : n ≤ k.ranks.length
    · rw [if_pos h1, if_pos h1]
      by_cases h2 : c < k.ranks.length + 1
      · rw [show min (c + 1) (k.ranks.length + 1) = c + 1 by omega, show min c (k.ranks.length + 1) = c by omega, ← Nat.add_assoc, sg_no]
        rw [okT_at h2, show (((n - 1 : Nat)) : Int) = (n : Int) - 1 by omega]
        exact h
      · rw [show min (c + 1) (k.ranks.length + 1) = k.ranks.length + 1 by omega, show min c (k.ranks.length + 1) = k.ranks.length + 1 by omega]
    · rw [if_neg h1, if_neg h1]
/-- What the list has is not a pair that may not sign. -/
theorem sg_not {k : BookZ} {u : RuZ} {N z : Nat} {f s : Int} (h : z ∈ sgN k u N) (hs : signB k u f s = false) : ¬ (((z / (k.ranks.length + 1) : Nat) : Int) = f ∧ ((z % (k.ranks.length + 1) : Nat) : Int) - 1 = s) := by
  rintro ⟨h1, h2⟩
  have := (sg_mem h).2
  unfold okT at this
  rw [h1, h2, hs] at this
  cases this
theorem chk_single {k : BookZ} (hb : bookB k = true) {i : Nat} (hi : i < k.rules.length) (f s : Int) : (chkR k [⟨0, 1, (i : Int), f, s⟩]).2 = 0 ↔ signB k (k.rules.getD i default) f s = true := by
  rw [chkR_ok, show ([⟨0, 1, (i : Int), f, s⟩] : List EntZ) = [] ++ [⟨0, 1, (i : Int), f, s⟩] from rfl, logOk_snoc, canB_iff, lastDay_nil]
  have hk : kindB k [] ⟨0, 1, (i : Int), f, s⟩ = signB k (k.rules.getD i default) f s := by
    unfold kindB
    rw [if_pos rfl]
    have e : inB (i : Int) 0 ((k.rules.length : Int) - 1) = true := by rw [inBI]; omega
    simp only [e, Bool.true_and, Int.toNat_natCast]
  rw [hk]
  constructor
  · rintro ⟨-, ⟨-, -, h⟩, -⟩; exact h
  · intro h; exact ⟨LogOk.nil hb, ⟨⟨by simp, by simp⟩, by simp, h⟩, by simp⟩
theorem prCells_at {M : Nat} {L : List Nat} {i z j : Nat} (h : L[i]? = some z) (hj : j < 2) : (prCells M L)[i * 2 + j]? = (prC M z)[j]? := by
  induction L generalizing i with
  | nil => simp at h
  | cons x L ih =>
    have e : prCells M (x :: L) = prC M x ++ prCells M L := by simp [prCells]
    have e2 : (prC M x).length = 2 := rfl
    rw [e]
    cases i with
    | zero =>
      simp at h
      subst h
      rw [List.getElem?_append_left (by omega), Nat.zero_mul, Nat.zero_add]
    | succ i =>
      rw [List.getElem?_append_right (by omega), show (i + 1) * 2 + j - (prC M x).length = i * 2 + j by omega]
      exact ih (by simpa using h)
/-- The two numbers of a pair in a slice. -/
theorem pr_at {w : World} {B M : Nat} {A : Option Addr} {L : List Nat} (h : Reads w B 2 A L.length (prCells M L)) {i z : Nat} (hz : L[i]? = some z) : ∃ b o, A = some ⟨b, o, none⟩ ∧ b < B ∧ w.cell? ⟨b, o + i * 2, none⟩ = some (.int .i64 ((z / M : Nat) : Int)) ∧ w.cell? ⟨b, o + i * 2 + 1, none⟩ = some (.int .i64 (((z % M : Nat) : Int) - 1)) := by
  have hi : i < L.length := (List.getElem?_eq_some_iff.1 hz).1
  obtain ⟨b, o, h1, h2, h3⟩ := h.2 (by omega)
  refine ⟨b, o, h1, h2, ?_, ?_⟩
  · have := h3 (i * 2 + 0) _ (prCells_at (M := M) hz (show 0 < 2 by decide))
    exact this
  · have := h3 (i * 2 + 1) _ (prCells_at (M := M) hz (show 1 < 2 by decide))
    rwa [← Nat.add_assoc] at this
set_option maxRecDepth 100000 in
set_option maxHeartbeats 4000000 in
theorem signs_walk {w : World} (k : BookZ) (R : BkR) (hk : BkIn w w.heap.size k R) (rule : Int) :
    Calls Try.prog 8 #[bookV k R, .int .i64 rule] w (TrueI w) := by
  obtain ⟨W, hW⟩ : ∃ W, W = w.alloc (.cells #[.slice R.A1 k.rules.length R.c1, .slice R.A2 k.ranks.length R.c2, .slice R.A3 k.insured.length R.c3] 25) := ⟨_, rfl⟩
  have bW : Below w.heap.size w W := by subst hW; exact (Below.refl _ _).alloc (Nat.le_refl _) _
  have r0 : Row W w.heap.size 25 [.slice R.A1 k.rules.length R.c1, .slice R.A2 k.ranks.length R.c2, .slice R.A3 k.insured.length R.c3] := by subst hW; exact Row.new w _ _
  obtain ⟨zb, hzb⟩ : ∃ z, z = w.heap.size := ⟨_, rfl⟩
  rw [← hzb] at r0
  have gW0 : W.cell? ⟨zb, 0, none⟩ = some (.slice R.A1 k.rules.length R.c1) := r0.cell (j := 0) (by simp)
  have gW1 : W.cell? ⟨zb, 1, none⟩ = some (.slice R.A2 k.ranks.length R.c2) := r0.cell (j := 1) (by simp)
  have gW2 : W.cell? ⟨zb, 2, none⟩ = some (.slice R.A3 k.insured.length R.c3) := r0.cell (j := 2) (by simp)
  have lW := r0.lt
  have HBW := Lib.hid bW
  have HGW := Lib.hid r0
  have HW : Hid (∀ X, Below w.heap.size w X → Calls Try.prog 17 #[] X fun e w' => e = .returned (.bool true) ∧ Below w.heap.size w w') := fun X hX => (works_any X).mono fun e w' h => ⟨h.1, hX.trans (h.2.mono hX.size)⟩
  have H1 : Hid (∀ X, Below w.heap.size w X → Calls Try.prog 38 #[bookV k R, .int .i64 rule] X (PsTo X (k.ranks.length + 1) (sgE k rule) (sgL k rule))) := fun X hX => Signs_any k R rule w.heap.size X hX.size (hk.below hX)
  have H2 : Hid (∀ X, Below w.heap.size w X → Calls Try.prog 39 #[bookV k R, .int .i64 rule] X (PsTo X (k.ranks.length + 1) (sgE k rule) (sgL k rule))) := fun X hX => rSigns_any k R rule w.heap.size X hX.size (hk.below hX)
  have HCk : Hid (∀ (f s : Int) (X : World), Below w.heap.size w X → Calls Try.prog 18 #[bookV k R, .slice (some ⟨X.heap.size, 0, none⟩) 1 1] (X.alloc (.cells #[.int .i64 0, .int .i64 1, .int .i64 rule, .int .i64 f, .int .i64 s] 54)) fun e w' => e = .returned (.tuple #[.int .i64 (chkR k [⟨0, 1, rule, f, s⟩]).1, .int .i64 (chkR k [⟨0, 1, rule, f, s⟩]).2]) ∧ Below X.heap.size X w') := fun f s X hX => by
    have hY := (Below.refl _ X).alloc (Nat.le_refl _) (.cells #[.int .i64 0, .int .i64 1, .int .i64 rule, .int .i64 f, .int .i64 s] 54)
    have hr := Row.new X 54 #[.int .i64 0, .int .i64 1, .int .i64 rule, .int .i64 f, .int .i64 s]
    have q := Check_any k R [⟨0, 1, rule, f, s⟩] (some ⟨X.heap.size, 0, none⟩) 1 _ _ (Nat.le_refl _) (show 1 ≤ maxLen by decide) (Nat.le_refl _) (hr.reads (size := 5) (n := 1) rfl hr.lt) ((hk.below (hX.trans (hY.mono hX.size))).more (Nat.le_trans hX.size hY.size))
    exact q.mono fun e w' h => ⟨h.1, hY.trans (h.2.mono hY.size)⟩
  have HBl := Lib.hid (fun h => book_lens (k := k) h)
  have hl1 := hk.l1
  have hl2 := hk.l2
  unfold maxLen at hl1 hl2
  obtain ⟨LL, hLL⟩ : ∃ LL, LL = sgL k rule := ⟨_, rfl⟩
  obtain ⟨EE, hEE⟩ : ∃ EE, EE = sgE k rule := ⟨_, rfl⟩
  rw [← hLL, ← hEE] at H1 H2
  have HLL := Lib.hid hLL
  have HEE := Lib.hid hEE
  have hLb : LL.length ≤ 1000 := by
    rw [hLL]
    unfold sgL
    split
    · rename_i h
      have hb : bookB k = true := by
        cases hb : bookB k with
        | true => rfl
        | false => unfold sgE at h; rw [hb] at h; cases h
      obtain ⟨-, h8, -⟩ := book_lens hb
      refine Nat.le_trans (sg_len _ _ _) ?_
      have : k.ranks.length * (k.ranks.length + 1) ≤ 8 * 9 := Nat.mul_le_mul h8 (by omega)
      omega
    · simp
  unfold bookV at *
  clear bW r0 hk hLL hEE
  go_enter Try.func8, Try.ntmps8
  go_upto_region 1 with fail
  rw [← hW, ← hzb]
  clear hW hzb
  go_upto_region 2 with (go_at_call 38; refine (H1.out W HBW.out).mono ?_; rintro e X1 ⟨hX1, Aa, ca, rfl, hra⟩)
  have HBX1 := Lib.hid (HBW.out.trans (hX1.mono HBW.out.size))
  have sX1 := HGW.out.below hX1 HGW.out.lt
  have gX10 : X1.cell? ⟨zb, 0, none⟩ = some (.slice R.A1 k.rules.length R.c1) := sX1.cell (j := 0) (by simp)
  have gX11 : X1.cell? ⟨zb, 1, none⟩ = some (.slice R.A2 k.ranks.length R.c2) := sX1.cell (j := 1) (by simp)
  have gX12 : X1.cell? ⟨zb, 2, none⟩ = some (.slice R.A3 k.insured.length R.c3) := sX1.cell (j := 2) (by simp)
  have lX1 := sX1.lt
  have HGX1 := Lib.hid sX1
  have HRa := Lib.hid hra
  clear hX1 hra sX1 gW0 gW1 gW2 lW H1
  go_upto_region 3 with (go_at_call 39; refine (H2.out X1 HBX1.out).mono ?_; rintro e X2 ⟨hX2, Ab, cb, rfl, hrb⟩)
  have HBX2 := Lib.hid (HBX1.out.trans (hX2.mono HBX1.out.size))
  have sX2 := HGX1.out.below hX2 HGX1.out.lt
  have gX20 : X2.cell? ⟨zb, 0, none⟩ = some (.slice R.A1 k.rules.length R.c1) := sX2.cell (j := 0) (by simp)
  have gX21 : X2.cell? ⟨zb, 1, none⟩ = some (.slice R.A2 k.ranks.length R.c2) := sX2.cell (j := 1) (by simp)
  have gX22 : X2.cell? ⟨zb, 2, none⟩ = some (.slice R.A3 k.insured.length R.c3) := sX2.cell (j := 2) (by simp)
  have lX2 := sX2.lt
  have HGX2 := Lib.hid sX2
  have HRb := Lib.hid hrb
  have HRa2 := Lib.hid ((HRa.out.below hX2).more hX2.size)
  clear HRa
  have HRa := HRa2
  clear HRa2 hX2 hrb sX2 gX10 gX11 gX12 lX1 H2
  go_upto_region 6 with fail
  clear gX20 gX21 gX22 lX2
  go_loopw [9] (fun q wr => ∃ i : Nat, i ≤ LL.length ∧ q = .int .i64 (i : Int) ∧ Below X2.heap.size X2 wr) (fun q _ => LL.length - (intOf q).toNat)
  case atStart => exact ⟨0, Nat.zero_le _, rfl, Below.refl _ _⟩
  case round =>
    obtain ⟨i, hi, rfl, hbel⟩ := hrel
    have HBL := Lib.hid hbel
    have HBr := Lib.hid (HBX2.out.trans (hbel.mono HBX2.out.size))
    have HRa1 := Lib.hid ((HRa.out.below hbel).more hbel.size)
    have HRb1 := Lib.hid ((HRb.out.below hbel).more hbel.size)
    have HGr := Lib.hid (HGX2.out.below hbel HGX2.out.lt)
    clear hbel
    by_cases hil : i < LL.length
    · have i1 : (i : Int) < (LL.length : Int) := by omega
      have i0 : ¬ (i : Int) < 0 := by omega
      have ei : IntKind.i64.wrap ((i : Int) + 1) = (i : Int) + 1 := IntWalk.i64_in _ (by omega)
      obtain ⟨ba, oa, hAa, lba, x0, x1⟩ := pr_at HRa1.out (List.getElem?_eq_getElem hil)
      obtain ⟨bb, ob, hAb, lbb, y0, y1⟩ := pr_at HRb1.out (List.getElem?_eq_getElem hil)
      generalize ((LL[i] / (k.ranks.length + 1) : Nat) : Int) = z0 at x0 y0
      generalize ((LL[i] % (k.ranks.length + 1) : Nat) : Int) - 1 = z1 at x1 y1
      subst hAa
      subst hAb
      clear hil HRa1 HRb1 HGr
      go_upto_region 8 with fail
      go_quiet (fail)
      go_wp2_with fail
      go_roundw
      case rel => exact ⟨i + 1, by omega, by go_num, below_drewN HBL.out _⟩
      case measure => simp [intOf]; omega
    · have i1 : ¬ (i : Int) < (LL.length : Int) := by omega
      clear hi
      by_cases h0 : EE = 0
      case neg =>
        have q1 : (EE != 0) = true := by simpa using h0
        have q2 : (EE == 0) = false := by simpa using h0
        have q3 : decide (EE = 0) = false := decide_eq_false h0
        clear h0
        go_wp2_with (go_at_call 17; refine (HW.out _ HBr.out).mono ?_; rintro e w' ⟨rfl, hb⟩; have BW := Lib.hid hb; clear hb)
        go_ret
        exact ⟨rfl, BW.out⟩
      have he := HEE.out
      rw [h0] at he
      have hbk : bookB k = true := by
        cases hb : bookB k with
        | true => rfl
        | false => unfold sgE at he; rw [hb] at he; cases he
      have hin : inB rule 0 ((k.rules.length : Int) - 1) = true := by
        cases hb : inB rule 0 ((k.rules.length : Int) - 1) with
        | true => rfl
        | false => unfold sgE at he; rw [hbk, hb] at he; cases he
      have hin2 := inI_le hin
      obtain ⟨ri, hri⟩ : ∃ i, i = rule.toNat := ⟨_, rfl⟩
      have hrule : rule = (ri : Int) := by omega
      have hril : ri < k.rules.length := by omega
      have hl8 := (HBl.out hbk).2.1
      have hLs : LL = sgN k (k.rules.getD ri default) (k.ranks.length * (k.ranks.length + 1)) := by
        rw [HLL.out]; unfold sgL; rw [← he, if_pos rfl, hri]
      subst h0
      subst hrule
      have HSi := Lib.hid (fun f s => chk_single hbk hril f s)
      generalize k.rules.getD ri default = u at HSi hLs
      have HLs := Lib.hid hLs
      clear he hbk hin hin2 hri hril hLs HLL HEE HBl HRa HRb
      obtain ⟨X3, hX3⟩ : ∃ X : World, X = wr := ⟨_, rfl⟩
      have HB1 : Hid (Below w.heap.size w X3) := by rw [hX3]; exact HBr.out
      have HG1 : Hid (Row X3 zb 25 [.slice R.A1 k.rules.length R.c1, .slice R.A2 k.ranks.length R.c2, .slice R.A3 k.insured.length R.c3]) := by rw [hX3]; exact HGr.out
      have HRa3 : Hid (Reads X3 X3.heap.size 2 Aa LL.length (prCells (k.ranks.length + 1) LL)) := by rw [hX3]; exact HRa1.out
      rw [← hX3]
      clear hX3 HBr HGr HRa1 HRb1 HBL
      go_upto_region 14 with fail
      go_loopw [10, 11] (fun a q wz => ∃ (n : Nat) (f : Int), n ≤ k.ranks.length + 2 ∧ q = .int .i64 f ∧ Hid (f = (n : Int) - 1) ∧ -1 ≤ f ∧ f ≤ (k.ranks.length : Int) + 1 ∧ (∃ t : Nat, a = .int .i64 (t : Int) ∧ Hid (t = (sgN k u (posT k.ranks.length n 0)).length)) ∧ Below X3.heap.size X3 wz) (fun _ q _ => ((k.ranks.length : Int) + 1 - intOf q).toNat)
      case atStart => exact ⟨0, -1, Nat.zero_le _, rfl, rfl, by omega, by omega, ⟨0, rfl, rfl⟩, Below.refl _ _⟩
      case round =>
        obtain ⟨n, f, hn, rfl, hf, hf1, hf2, ⟨t, rfl, ht⟩, hbel⟩ := hrel
        have HBL := Lib.hid hbel
        clear hbel
        by_cases hnl : f ≤ (k.ranks.length : Int)
        · have ef : IntKind.i64.wrap (f + 1) = f + 1 := IntWalk.i64_in _ (by omega)
          have hnN : n ≤ k.ranks.length + 1 := by have := hf.out; omega
          have HnN := Lib.hid hnN
          clear hnN hn
          have rG := HG1.out.below HBL.out HG1.out.lt
          have g1 : wr.cell? ⟨zb, 1, none⟩ = some (.slice R.A2 k.ranks.length R.c2) := rG.cell (j := 1) (by simp)
          have lG := rG.lt
          clear rG
          go_upto_region 17 with fail
          clear g1 lG
          go_loopw [10, 12] (fun a q wz => ∃ (c : Nat) (s : Int), c ≤ k.ranks.length + 2 ∧ q = .int .i64 s ∧ Hid (s = (c : Int) - 1) ∧ -1 ≤ s ∧ s ≤ (k.ranks.length : Int) + 1 ∧ (∃ t : Nat, a = .int .i64 (t : Int) ∧ Hid (t = (sgN k u (posT k.ranks.length n c)).length)) ∧ Below X3.heap.size X3 wz) (fun _ q _ => ((k.ranks.length : Int) + 1 - intOf q).toNat)
          case atStart => exact ⟨0, -1, Nat.zero_le _, rfl, rfl, by omega, by omega, ⟨t, rfl, ht⟩, HBL.out⟩
          case round =>
            clear HBL ht
            obtain ⟨c, s, hc, rfl, hs, hs1, hs2, ⟨t2, rfl, ht⟩, hbel⟩ := hrel
            have HBL := Lib.hid hbel
            have HBw := Lib.hid (HB1.out.trans (hbel.mono HB1.out.size))
            have rG := HG1.out.below hbel HG1.out.lt
            have g0 : wr.cell? ⟨zb, 0, none⟩ = some (.slice R.A1 k.rules.length R.c1) := rG.cell (j := 0) (by simp)
            have g1 : wr.cell? ⟨zb, 1, none⟩ = some (.slice R.A2 k.ranks.length R.c2) := rG.cell (j := 1) (by simp)
            have g2 : wr.cell? ⟨zb, 2, none⟩ = some (.slice R.A3 k.insured.length R.c3) := rG.cell (j := 2) (by simp)
            have lG := rG.lt
            have HRw := Lib.hid ((HRa3.out.below hbel).more hbel.size)
            clear hbel rG
            by_cases hsl : s ≤ (k.ranks.length : Int)
            · have es : IntKind.i64.wrap (s + 1) = s + 1 := IntWalk.i64_in _ (by omega)
              have hcM : c ≤ k.ranks.length + 1 := by have := hs.out; omega
              have HcM := Lib.hid hcM
              have hck := HCk.out f s wr HBw.out
              have hsi := HSi.out f s
              have HNm : Hid (∀ z, z ∈ LL → signB k u f s = false → ¬ (((z / (k.ranks.length + 1) : Nat) : Int) = f ∧ ((z % (k.ranks.length + 1) : Nat) : Int) - 1 = s)) := fun z hz h => sg_not (by rw [HLs.out] at hz; exact hz) h
              have HYes : Hid (signB k u f s = true → LL[t2]? = some (posT k.ranks.length n c) ∧ prC (k.ranks.length + 1) (posT k.ranks.length n c) = [.int .i64 f, .int .i64 s] ∧ t2 + 1 = (sgN k u (posT k.ranks.length n (c + 1))).length) := fun h => by
                rw [hf.out, hs.out] at h
                obtain ⟨y1, y2, y3, y4⟩ := pos_yes HnN.out hcM h
                refine ⟨?_, ?_, ?_⟩
                · rw [HLs.out, ht.out]; exact sg_at y1 y2
                · rw [y3, hf.out, hs.out]
                · rw [y4, sg_yes y2, List.length_append, ← ht.out]; rfl
              have HNo : Hid (signB k u f s = false → t2 = (sgN k u (posT k.ranks.length n (c + 1))).length) := fun h => by
                rw [hf.out, hs.out] at h
                rw [pos_no HnN.out hcM h]; exact ht.out
              generalize (chkR k [⟨0, 1, (ri : Int), f, s⟩]).1 = ca1 at hck
              generalize (chkR k [⟨0, 1, (ri : Int), f, s⟩]).2 = ce at hck hsi
              have HC := Lib.hid hck
              clear hck hcM
              cases hsv : signB k u f s with
              | true =>
                obtain ⟨y1, y2, y3⟩ := HYes.out hsv
                have HY3 := Lib.hid y3
                obtain rfl : ce = 0 := hsi.2 hsv
                have tl : t2 < LL.length := (List.getElem?_eq_some_iff.1 y1).1
                have tl1 : (t2 : Int) < (LL.length : Int) := by omega
                have tl0 : ¬ (t2 : Int) < 0 := by omega
                have et : IntKind.i64.wrap ((t2 : Int) + 1) = (t2 : Int) + 1 := IntWalk.i64_in _ (by omega)
                obtain ⟨ba, oa, hAa, lba, x0, x1⟩ := pr_at HRw.out y1
                unfold prC at y2
                injection y2 with y2 y2b
                injection y2 with _ y2a
                injection y2b with y2b _
                injection y2b with _ y2c
                rw [y2a] at x0
                rw [y2c] at x1
                rw [hAa]
                clear hAa y1 y2a y2c y3 hsv hsi tl HNm HYes HNo
                go_upto_region 23 with (go_at_call 18; refine HC.out.mono ?_; rintro e Y ⟨rfl, hY⟩)
                have HBY := Lib.hid (HBL.out.trans (hY.mono HBL.out.size))
                clear hY HC g0 g1 g2 lG
                go_wp2_with fail
                go_roundw
                case rel => exact ⟨c + 1, s + 1, by have := HcM.out; omega, rfl, (show s + 1 = ((c + 1 : Nat) : Int) - 1 by have := hs.out; omega), by omega, by omega, ⟨t2 + 1, by go_num, HY3.out⟩, HBY.out⟩
                case measure => simp [intOf]; omega
              | false =>
                have HN := Lib.hid (HNo.out hsv)
                have hce : ¬ ce = 0 := fun h => by rw [hsi.1 h] at hsv; cases hsv
                have c1 : (ce == 0) = false := by simpa using hce
                have c2 : decide (ce = 0) = false := decide_eq_false hce
                by_cases tl : t2 < LL.length
                · have hz := HNm.out LL[t2] (List.getElem_mem tl) hsv
                  have tl1 : (t2 : Int) < (LL.length : Int) := by omega
                  have tl0 : ¬ (t2 : Int) < 0 := by omega
                  obtain ⟨ba, oa, hAa, lba, x0, x1⟩ := pr_at HRw.out (List.getElem?_eq_getElem tl)
                  generalize ((LL[t2] / (k.ranks.length + 1) : Nat) : Int) = z0 at x0 hz
                  generalize ((LL[t2] % (k.ranks.length + 1) : Nat) : Int) - 1 = z1 at x1 hz
                  rw [hAa]
                  clear hAa hsv hsi hce tl HNm HYes HNo
                  by_cases hzf : z0 = f
                  · have d1 : decide (z1 = s) = false := decide_eq_false (fun h => hz ⟨hzf, h⟩)
                    rw [hzf] at x0
                    clear hz hzf
                    go_upto_region 23 with (go_at_call 18; refine HC.out.mono ?_; rintro e Y ⟨rfl, hY⟩)
                    have HBY := Lib.hid (HBL.out.trans (hY.mono HBL.out.size))
                    clear hY HC g0 g1 g2 lG
                    go_wp2_with fail
                    go_roundw
                    case rel => exact ⟨c + 1, s + 1, by have := HcM.out; omega, rfl, (show s + 1 = ((c + 1 : Nat) : Int) - 1 by have := hs.out; omega), by omega, by omega, ⟨t2, rfl, HN.out⟩, HBY.out⟩
                    case measure => simp [intOf]; omega
                  · have d1 : decide (z0 = f) = false := decide_eq_false hzf
                    clear hz hzf
                    go_upto_region 23 with (go_at_call 18; refine HC.out.mono ?_; rintro e Y ⟨rfl, hY⟩)
                    have HBY := Lib.hid (HBL.out.trans (hY.mono HBL.out.size))
                    clear hY HC g0 g1 g2 lG
                    go_wp2_with fail
                    go_roundw
                    case rel => exact ⟨c + 1, s + 1, by have := HcM.out; omega, rfl, (show s + 1 = ((c + 1 : Nat) : Int) - 1 by have := hs.out; omega), by omega, by omega, ⟨t2, rfl, HN.out⟩, HBY.out⟩
                    case measure => simp [intOf]; omega
                · have tl1 : ¬ (t2 : Int) < (LL.length : Int) := by omega
                  clear tl hsv hsi hce HNm HYes HNo
                  go_upto_region 23 with (go_at_call 18; refine HC.out.mono ?_; rintro e Y ⟨rfl, hY⟩)
                  have HBY := Lib.hid (HBL.out.trans (hY.mono HBL.out.size))
                  clear hY HC g0 g1 g2 lG
                  go_wp2_with fail
                  go_roundw
                  case rel => exact ⟨c + 1, s + 1, by have := HcM.out; omega, rfl, (show s + 1 = ((c + 1 : Nat) : Int) - 1 by have := hs.out; omega), by omega, by omega, ⟨t2, rfl, HN.out⟩, HBY.out⟩
                  case measure => simp [intOf]; omega
            · have hsl2 : ¬ s ≤ (k.ranks.length : Int) := hsl
              have HE2 : Hid (t2 = (sgN k u (posT k.ranks.length (n + 1) 0)).length) := by
                have h := ht.out
                rw [show c = k.ranks.length + 2 by have := hs.out; omega, pos_row HnN.out] at h
                exact h
              clear hsl
              go_wp2_with fail
              go_roundw
              case rel => exact ⟨n + 1, f + 1, by have := HnN.out; omega, rfl, (show f + 1 = ((n + 1 : Nat) : Int) - 1 by have := hf.out; omega), by omega, by omega, ⟨t2, rfl, HE2.out⟩, HBL.out⟩
              case measure => simp [intOf]; omega
        · have hnl2 : ¬ f ≤ (k.ranks.length : Int) := hnl
          have htl : t = LL.length := by
            have h := ht.out
            rw [show n = k.ranks.length + 2 by have := hf.out; omega, pos_end, ← HLs.out] at h
            exact h
          subst htl
          have HBw := Lib.hid (HB1.out.trans (HBL.out.mono HB1.out.size))
          have rG := HG1.out.below HBL.out HG1.out.lt
          have g1 : wr.cell? ⟨zb, 1, none⟩ = some (.slice R.A2 k.ranks.length R.c2) := rG.cell (j := 1) (by simp)
          have lG := rG.lt
          clear hnl rG ht hn
          go_wp2_with (go_at_call 17; refine (HW.out _ HBw.out).mono ?_; rintro e w' ⟨rfl, hb⟩; have BW := Lib.hid hb; clear hb)
          go_ret
          exact ⟨rfl, BW.out⟩
  
end Go.Proofs.Ytaocgkmobfocjaa
