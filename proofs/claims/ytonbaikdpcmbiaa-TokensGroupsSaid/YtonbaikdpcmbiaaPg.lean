/- Contracts of Worth, of the specification's sum, Worth and Share. Conditions: the arguments read as data. -/
import Derived.Test.YtonbaikdpcmbiaaPe
import Derived.Test.YtonbaikdpcmbiaaRd
namespace Go.Proofs.Ytonbaikdpcmbiaa
open Go.RowKit

/-- What Worth answers. -/
def worthS (F : Fair) (ns : List Int) : Bool × Int × Int :=
  if validB F = false then (false, 0, 10) else if (decide (ns.length ≤ 100) && buyB ns) = false then (false, 0, 1) else
  if (buyS F (sumW ns)).2.2 = 0 then (decide (F.band < (buyS F (sumW ns)).2.1), max (wrap64 (F.band - (buyS F (sumW ns)).2.1)) (wrap64 ((buyS F (sumW ns)).2.1 - F.band)), 0) else (false, 0, (buyS F (sumW ns)).2.2)
/-- What the specification's Worth answers. -/
def rworthS (F : Fair) (ns : List Int) : Bool × Int × Int :=
  if validB F = false then (false, 0, 10) else if (decide (ns.length ≤ 100) && allB ns 0 1000) = false then (false, 0, 1) else
  if (buyS F (sumW ns)).2.2 = 0 then (decide (F.band < (buyS F (sumW ns)).2.1), max (wrap64 (F.band - (buyS F (sumW ns)).2.1)) (wrap64 ((buyS F (sumW ns)).2.1 - F.band)), 0) else (false, 0, (buyS F (sumW ns)).2.2)
theorem buy_big {F : Fair} (hv : validB F = true) {n : Int} (h : 1000 < n) : (buyS F n).2.2 = 1 := by
  have : inB n 0 1000 = false := by
    rw [← Bool.not_eq_true]; intro h1
    have := (inB_iff.1 h1).2; omega
  simp [buyS, hv, this]
theorem worth_eq (F : Fair) (ns : List Int) : rworthS F ns = worthS F ns := by
  unfold rworthS worthS
  by_cases hv : validB F = false
  · rw [if_pos hv, if_pos hv]
  rw [if_neg hv, if_neg hv]
  have hv : validB F = true := by simpa using hv
  cases hl : decide (ns.length ≤ 100) with
  | false => rfl
  | true =>
    cases ha : allB ns 0 1000 with
    | false => simp [buyB, ha]
    | true =>
      by_cases hs : sumW ns ≤ 1000
      · simp [buyB, ha, hs]
      · have h1 := buy_big hv (n := sumW ns) (by omega)
        simp [buyB, ha, hs, h1]
def raloneS (F : Fair) (ns : List Int) : Int := ns.foldl (fun s n => wrap64 (s + (buyS F n).2.1)) 0
theorem raloneS_snoc (F : Fair) (ns : List Int) (k : Nat) (h : k < ns.length) : raloneS F (ns.take (k + 1)) = wrap64 (raloneS F (ns.take k) + (buyS F (geti ns k)).2.1) := by
  unfold raloneS
  rw [List.take_succ_eq_append_getElem h, List.foldl_append]
  simp [geti, List.getElem?_eq_getElem h]
/-- What the specification's Share answers. -/
def rshareS (F : Fair) (ns : List Int) : Int × Int × Int :=
  if validB F = false then (0, 0, 10) else if (inB ns.length 1 20 && allB ns 0 1000) = false then (0, 0, 1) else
  if (buyS F (sumW ns)).2.2 = 0 then ((buyS F (sumW ns)).2.1, wrap64 (raloneS F ns - (buyS F (sumW ns)).2.1), 0) else (0, 0, (buyS F (sumW ns)).2.2)
theorem buy_fine {F : Fair} (hv : validB F = true) {n : Int} (h0 : 0 ≤ n) (h1 : n ≤ 1000) (hz : n.toNat = 0 ∨ F.bundles.length ≠ 0) : (buyS F n).2.2 = 0 ∧ (buyS F n).2.1 = (cheapS F.bundles n.toNat).2 := by
  have hi : inB n 0 1000 = true := inB_iff.2 ⟨h0, h1⟩
  have hz' : ¬ (0 < n ∧ F.bundles.length = 0) := by omega
  unfold buyS
  rw [if_neg (by simp [hv]), if_neg (by simp [hi]), if_neg hz']
  exact ⟨rfl, rfl⟩
theorem share_eq (F : Fair) (ns : List Int) : rshareS F ns = shareS F ns := by
  unfold rshareS shareS
  by_cases hv : validB F = false
  · rw [if_pos hv, if_pos hv]
  rw [if_neg hv, if_neg hv]
  have hv : validB F = true := by simpa using hv
  cases hl : inB ns.length 1 20 with
  | false => rfl
  | true =>
    cases ha : allB ns 0 1000 with
    | false => simp [buyB, ha]
    | true =>
      by_cases hs : sumW ns ≤ 1000
      · have hb : buyB ns = true := by simp [buyB, ha, hs]
        rw [hb]
        simp only [Bool.and_self, Bool.true_eq_false, if_false]
        by_cases he : (buyS F (sumW ns)).2.2 = 0
        · rw [if_pos he, if_pos he]
          have : raloneS F ns = aloneS F.bundles ns := by
            have : ∀ k, k ≤ ns.length → raloneS F (ns.take k) = aloneS F.bundles (ns.take k) := by
              intro k
              induction k with
              | zero => intro _; rfl
              | succ k ih =>
                intro hk
                obtain ⟨n0, n1, n2⟩ := need_ok (F := F) (ns := ns) (by rw [hl, hb]; rfl) he k (by omega)
                rw [raloneS_snoc _ _ _ (by omega), aloneS_snoc _ _ _ (by omega), ih (by omega), (buy_fine hv n0 n1 n2).2]
            have := this ns.length (Nat.le_refl _)
            rwa [List.take_length] at this
          rw [this]
        · rw [if_neg he, if_neg he]
      · have h1 := buy_big hv (n := sumW ns) (by omega)
        simp [buyB, ha, hs, h1]

set_option maxHeartbeats 400000 in
theorem rsum2_any (zs : List Int) (A : Option Addr) (n c B : Nat) (w : World) (hr : Reads w B 1 A n (intCells zs)) (hn : n ≤ maxLen) :
    Calls Try.prog 53 #[.slice A n c] w fun e w' => e = .returned (.int .i64 (sumW zs)) ∧ w = w' := by
  unfold maxLen at hn
  go_enter Try.func53, Try.ntmps53
  go_wp2_with fail
  go_loop [3, 4] (fun s i => ∃ k : Nat, k ≤ n ∧ i = .int .i64 k ∧ s = .int .i64 (sumW (zs.take k))) (fun _ i => n - (intOf i).toNat)
  case atStart => exact ⟨0, Nat.zero_le _, rfl, rfl⟩
  case round =>
    obtain ⟨k, hk, rfl, rfl⟩ := hrel
    have hz : zs.length = n := by simpa [intCells] using hr.1
    by_cases hlt : k < n
    · obtain ⟨b, o, rfl, hb, hc⟩ := hr.at1 hlt
      have hck := hc k hlt
      clear hc
      have Hsn := Lib.hid (sumW_snoc zs k (by omega))
      clear hz
      go_wp2
      go_round
      case rel => exact ⟨k + 1, by omega, by go_num, by rw [Hsn.out]⟩
      case measure => simp [intOf]; omega
    · have : k = n := by omega
      subst this
      clear hz
      go_wp2
      go_ret
      exact ⟨ret_int (by rw [List.take_of_length_le (by have := hr.1; simp [intCells] at this; omega)]), rfl⟩

def WorthPost (w : World) (r : Bool × Int × Int) (e : Ending) (w' : World) : Prop :=
  e = .returned (.tuple #[.bool r.1, .int .i64 r.2.1, .int .i64 r.2.2]) ∧ Below w.heap.size w w'

set_option maxHeartbeats 2000000 in
set_option maxRecDepth 100000 in
theorem Worth_any (F : Fair) (R : Refs) (ns : List Int) (A : Option Addr) (c B : Nat) (w : World) (hB : B ≤ w.heap.size) (hF : FairIn w B F R) (hc : Reads w B 1 A ns.length (intCells ns)) (hn : ns.length ≤ maxLen) :
    Calls Try.prog 35 #[fairV F R, .slice A ns.length c] w (WorthPost w (worthS F ns)) := by
  have hF0 := hF.alloc hB (.cells (fairCells F R) 25)
  have ba := (Below.refl w.heap.size w).alloc (Nat.le_refl _) (.cells (fairCells F R) 25)
  have r0 := Row.new w 25 (fairCells F R)
  have hn' := hn
  unfold maxLen at hn'
  unfold fairV
  go_enter Try.func35, Try.ntmps35
  go_wp2_with fail
  refine (valid_any F R _ B (by simp; omega) hF0).mono ?_
  rintro e w1 ⟨rfl, hb1⟩
  have b1 := below_step ba hb1
  have F1 := hF.below (b1.mono hB)
  have C1 := hc.below (b1.mono hB)
  have s1 := b1.size
  have r1 := r0.below hb1 r0.lt
  have z1 := r1.lt
  obtain ⟨_, q0, q1, q2, q3, q4, q5, q6, q7⟩ := Row.at_8 r1
  cases hv : validB F with
  | false =>
    have hq : Hid (worthS F ns = (false, 0, 10)) := by show _ = _; simp [worthS, hv]
    go_wp2_with fail
    go_ret3
    exact ⟨by rw [hq.out]; rfl, b1⟩
  | true =>
    by_cases hlen : ns.length ≤ 100
    case neg =>
      have hq : Hid (worthS F ns = (false, 0, 1)) := by show _ = _; simp [worthS, hv, hlen]
      have h100 : (100 : Int) < (ns.length : Int) := by omega
      clear hlen
      go_wp2_with fail
      go_ret3
      exact ⟨by rw [hq.out]; rfl, b1⟩
    have h100 : ¬ (100 : Int) < (ns.length : Int) := by omega
    cases hbu : buyB ns with
    | false =>
      have hq : Hid (worthS F ns = (false, 0, 1)) := by show _ = _; simp [worthS, hv, hbu]
      go_wp2_with (go_at_call 62; refine (buyable_any ns _ _ B _ C1 hn).mono ?_; rintro e w' ⟨rfl, rfl⟩)
      go_ret3
      exact ⟨by rw [hq.out]; rfl, b1⟩
    | true =>
      have hq : Hid (worthS F ns = if (buyS F (sumW ns)).2.2 = 0 then (decide (F.band < (buyS F (sumW ns)).2.1), max (wrap64 (F.band - (buyS F (sumW ns)).2.1)) (wrap64 ((buyS F (sumW ns)).2.1 - F.band)), 0) else (false, 0, (buyS F (sumW ns)).2.2)) := by show _ = _; simp [worthS, hv, hlen, hbu]
      have Hlen := Lib.hid hlen
      clear hlen
      go_wp2_with (go_at_call 62; refine (buyable_any ns _ _ B _ C1 hn).mono ?_; rintro e w' ⟨rfl, rfl⟩)
      go_region_held3 (fun x => x.cell? ⟨w.heap.size, 0, none⟩ = some (.int .i64 F.purses) ∧ x.cell? ⟨w.heap.size, 1, none⟩ = some (.int .i64 F.boxes) ∧ x.cell? ⟨w.heap.size, 2, none⟩ = some (.slice R.A1 F.stock.length R.c1) ∧ x.cell? ⟨w.heap.size, 3, none⟩ = some (.slice R.A2 F.cash.length R.c2) ∧ x.cell? ⟨w.heap.size, 4, none⟩ = some (.slice R.A3 F.bundles.length R.c3) ∧ x.cell? ⟨w.heap.size, 5, none⟩ = some (.int .i64 F.refund) ∧ x.cell? ⟨w.heap.size, 6, none⟩ = some (.int .i64 F.band) ∧ x.cell? ⟨w.heap.size, 7, none⟩ = some (.int .i64 F.hours)) (go_keep) (first
        | (go_at_call 52; go_must (refine (sum_any ns _ _ _ B _ (by first | exact C1 | exact C1.drewN _) hn).mono ?_; rintro e w' ⟨rfl, rfl⟩))
        | (go_at_call 33; go_must (refine (buy_box F R (sumW ns) w _ B hB hF ?_ ?_).mono ?_; (repeat first | assumption | (with_reducible refine below_drewN ?_ _) | (with_reducible refine Below.drew ?_)); (repeat first | assumption | (with_reducible refine Row.drewN ?_ _) | (with_reducible refine Row.drew ?_)); rintro e w2 ⟨A', m', c', rfl, b2, r2⟩; obtain ⟨_, c0, c1, c2, c3, c4, c5, c6, c7⟩ := Row.cells8 r2)))
      have z2 : w.heap.size < w2.heap.size := r2.lt
      have u6 : w2.cell? ⟨w.heap.size, 6, none⟩ = some (.int .i64 F.band) := r2.cell (j := 6) (by simp)
      clear q0 q1 q2 q3 q4 q5 q6 q7 c0 c1 c2 c3 c4 c5 c6 c7
      generalize buyS F (sumW ns) = bs at *
      obtain ⟨bl, bp, be⟩ := bs
      dsimp only at *
      by_cases he : be = 0
      · subst he
        have hq' : Hid (worthS F ns = (decide (F.band < bp), max (wrap64 (F.band - bp)) (wrap64 (bp - F.band)), 0)) := by
          show _ = _
          rw [hq.out, if_pos rfl]
        clear hq
        go_wp2_with fail
        have w1 : IntKind.i64.wrap (F.band - bp) = wrap64 (F.band - bp) := i64w _
        have w2' : IntKind.i64.wrap (bp - F.band) = wrap64 (bp - F.band) := i64w _
        generalize wrap64 (F.band - bp) = x1 at *
        generalize wrap64 (bp - F.band) = x2 at *
        by_cases hm : x1 < x2
        · have Hm : Hid (max x1 x2 = x2) := by show _ = _; omega
          go_quiet (fail)
          go_wp2_with fail
          clear w1 w2'
          go_ret3
          exact ⟨by rw [hq'.out]; simp only [Hm.out]; rfl, below_drewN b2 _⟩
        · have Hm : Hid (max x1 x2 = x1) := by show _ = _; omega
          go_quiet (fail)
          go_wp2_with fail
          clear w1 w2'
          go_ret3
          exact ⟨by rw [hq'.out]; simp only [Hm.out]; rfl, below_drewN b2 _⟩
      · have hq' : Hid (worthS F ns = (false, 0, be)) := by
          show _ = _
          rw [hq.out, if_neg he]
        have he' : (be != 0) = true := by simpa using he
        clear he
        go_wp2_with fail
        go_ret3
        exact ⟨by rw [hq'.out]; rfl, b2⟩

def RBuyBox (w : World) (F : Fair) (R : Refs) (n : Int) (e : Ending) (w' : World) : Prop :=
  ∃ A m c, e = .returned (.tuple #[.slice A m c, .int .i64 (buyS F n).2.1, .int .i64 (buyS F n).2.2]) ∧ Below w.heap.size w w' ∧ Row w' w.heap.size 25 (fairCells F R).toList
theorem rbuy_box (F : Fair) (R : Refs) (n : Int) (w X : World) (B : Nat) (hB : B ≤ w.heap.size) (hF : FairIn w B F R) (hX : Below w.heap.size w X) (hr : Row X w.heap.size 25 (fairCells F R).toList) :
    Calls Try.prog 34 #[fairV F R, .int .i64 n] X (RBuyBox w F R n) :=
  (rBuy_any F R n X B (by have := hX.size; omega) (hF.below (hX.mono hB))).mono fun _ _ ⟨hb, A, m, c, he, _⟩ => ⟨A, m, c, by rw [he, rbuy_eq], below_step hX hb, hr.below hb hr.lt⟩
theorem all_no {ns : List Int} {k : Nat} (hk : k < ns.length) (h : inB (geti ns k) 0 1000 = false) : allB ns 0 1000 = false := by
  have := allB_no ns k 0 1000 (by simp only [geti, Int.toNat_natCast] at h; rw [h]; rfl)
  rw [this]; simp; omega
theorem all_more {ns : List Int} {k : Nat} (hk : k < ns.length) (h0 : allB (ns.take k) 0 1000 = true) (h : inB (geti ns k) 0 1000 = true) : allB (ns.take (k + 1)) 0 1000 = true := by
  rw [allB_snoc _ _ _ _ hk, h0]
  simp only [geti, Int.toNat_natCast] at h
  rw [h]; rfl

set_option maxHeartbeats 2000000 in
set_option maxRecDepth 100000 in
theorem rWorth_any (F : Fair) (R : Refs) (ns : List Int) (A : Option Addr) (c B : Nat) (w : World) (hB : B ≤ w.heap.size) (hF : FairIn w B F R) (hc : Reads w B 1 A ns.length (intCells ns)) (hn : ns.length ≤ maxLen) :
    Calls Try.prog 36 #[fairV F R, .slice A ns.length c] w (WorthPost w (rworthS F ns)) := by
  have hF0 := hF.alloc hB (.cells (fairCells F R) 25)
  have ba := (Below.refl w.heap.size w).alloc (Nat.le_refl _) (.cells (fairCells F R) 25)
  have r0 := Row.new w 25 (fairCells F R)
  have hn' := hn
  unfold maxLen at hn'
  unfold fairV
  go_enter Try.func36, Try.ntmps36
  go_wp2_with fail
  refine (rCheck_any F R _ B (by simp; omega) hF0).mono ?_
  rintro e w1 ⟨rfl, hb1⟩
  have b1 := below_step ba hb1
  have F1 := hF.below (b1.mono hB)
  have C1 := hc.below (b1.mono hB)
  have s1 := b1.size
  have r1 := r0.below hb1 r0.lt
  have z1 := r1.lt
  cases hv : validB F with
  | false =>
    have hq : Hid (rworthS F ns = (false, 0, 10)) := by show _ = _; simp [rworthS, hv]
    have he : chkE F = 10 := by simp [chkE, hv]
    rw [he]
    go_wp2_with fail
    go_ret3
    exact ⟨by rw [hq.out]; rfl, b1⟩
  | true =>
    have he : chkE F = 0 := by simp [chkE, hv]
    rw [he]
    clear he
    by_cases hlen : ns.length ≤ 100
    case neg =>
      have hq : Hid (rworthS F ns = (false, 0, 1)) := by show _ = _; simp [rworthS, hv, hlen]
      have h100 : (100 : Int) < (ns.length : Int) := by omega
      clear hlen
      go_wp2_with fail
      go_ret3
      exact ⟨by rw [hq.out]; rfl, b1⟩
    have h100 : ¬ (100 : Int) < (ns.length : Int) := by omega
    have Hlen := Lib.hid hlen
    clear hlen
    go_wp2_with fail
    go_loop [8] (fun i => ∃ k : Nat, k ≤ ns.length ∧ i = .int .i64 k ∧ allB (ns.take k) 0 1000 = true) (fun i => ns.length - (intOf i).toNat)
    case atStart => exact ⟨0, Nat.zero_le _, rfl, rfl⟩
    case round =>
      obtain ⟨k, hk, rfl, hall⟩ := hrel
      have Hall := Lib.hid hall
      clear hall
      by_cases hlt : k < ns.length
      · obtain ⟨b, o, rfl, hb, hcc⟩ := C1.at1 hlt
        have hck : w1.cell? ⟨b, o + k, none⟩ = some (.int .i64 (geti ns k)) := hcc k hlt
        have hlt' : (k : Int) < (ns.length : Int) := by omega
        clear hcc
        cases hi : inB (geti ns k) 0 1000 with
        | false =>
          have hq : Hid (rworthS F ns = (false, 0, 1)) := by show _ = _; simp [rworthS, hv, all_no hlt hi]
          go_wp2_with (go_at_call 44; refine (rwithin_any _ _ _ _).mono ?_; rintro e w' ⟨rfl, rfl⟩)
          go_ret3
          exact ⟨by rw [hq.out]; rfl, b1⟩
        | true =>
          have Hn := Lib.hid (all_more hlt Hall.out hi)
          go_wp2_with (go_at_call 44; refine (rwithin_any _ _ _ _).mono ?_; rintro e w' ⟨rfl, rfl⟩)
          go_round
          case rel => exact ⟨k + 1, by omega, by go_num, Hn.out⟩
          case measure => simp [intOf]; omega
      · have hge : ¬ (k : Int) < (ns.length : Int) := by omega
        have ha : allB ns 0 1000 = true := by have := Hall.out; rwa [List.take_of_length_le (by omega)] at this
        have hq : Hid (rworthS F ns = if (buyS F (sumW ns)).2.2 = 0 then (decide (F.band < (buyS F (sumW ns)).2.1), max (wrap64 (F.band - (buyS F (sumW ns)).2.1)) (wrap64 ((buyS F (sumW ns)).2.1 - F.band)), 0) else (false, 0, (buyS F (sumW ns)).2.2)) := by show _ = _; have := Hlen.out; simp [rworthS, hv, this, ha]
        clear ha
        obtain ⟨_, q0, q1, q2, q3, q4, q5, q6, q7⟩ := Row.at_8 r1
        go_wp2_with fail
        go_region_held3 (fun x => x.cell? ⟨w.heap.size, 0, none⟩ = some (.int .i64 F.purses) ∧ x.cell? ⟨w.heap.size, 1, none⟩ = some (.int .i64 F.boxes) ∧ x.cell? ⟨w.heap.size, 2, none⟩ = some (.slice R.A1 F.stock.length R.c1) ∧ x.cell? ⟨w.heap.size, 3, none⟩ = some (.slice R.A2 F.cash.length R.c2) ∧ x.cell? ⟨w.heap.size, 4, none⟩ = some (.slice R.A3 F.bundles.length R.c3) ∧ x.cell? ⟨w.heap.size, 5, none⟩ = some (.int .i64 F.refund) ∧ x.cell? ⟨w.heap.size, 6, none⟩ = some (.int .i64 F.band) ∧ x.cell? ⟨w.heap.size, 7, none⟩ = some (.int .i64 F.hours)) (go_keep) (first
        | (go_at_call 53; go_must (refine (rsum2_any ns _ _ _ B _ (by first | exact C1 | exact C1.drewN _) hn).mono ?_; rintro e w' ⟨rfl, rfl⟩))
        | (go_at_call 34; go_must (refine (rbuy_box F R (sumW ns) w _ B hB hF ?_ ?_).mono ?_; (repeat first | assumption | (with_reducible refine below_drewN ?_ _) | (with_reducible refine Below.drew ?_)); (repeat first | assumption | (with_reducible refine Row.drewN ?_ _) | (with_reducible refine Row.drew ?_)); rintro e w2 ⟨A', m', c', rfl, b2, r2⟩; obtain ⟨_, c0, c1, c2, c3, c4, c5, c6, c7⟩ := Row.cells8 r2)))
        have z2 : w.heap.size < w2.heap.size := r2.lt
        have u6 : w2.cell? ⟨w.heap.size, 6, none⟩ = some (.int .i64 F.band) := r2.cell (j := 6) (by simp)
        clear q0 q1 q2 q3 q4 q5 q6 q7 c0 c1 c2 c3 c4 c5 c6 c7
        generalize buyS F (sumW ns) = bs at *
        obtain ⟨bl, bp, be⟩ := bs
        dsimp only at *
        by_cases he : be = 0
        · subst he
          have hq' : Hid (rworthS F ns = (decide (F.band < bp), max (wrap64 (F.band - bp)) (wrap64 (bp - F.band)), 0)) := by
            show _ = _
            rw [hq.out, if_pos rfl]
          clear hq
          go_wp2_with fail
          have w1' : IntKind.i64.wrap (F.band - bp) = wrap64 (F.band - bp) := i64w _
          have w2' : IntKind.i64.wrap (bp - F.band) = wrap64 (bp - F.band) := i64w _
          generalize wrap64 (F.band - bp) = x1 at *
          generalize wrap64 (bp - F.band) = x2 at *
          by_cases hm : x2 < x1
          · have Hm : Hid (max x1 x2 = x1) := by show _ = _; omega
            go_quiet (fail)
            go_wp2_with fail
            clear w1' w2'
            go_ret3
            exact ⟨by rw [hq'.out]; simp only [Hm.out]; rfl, below_drewN b2 _⟩
          · have Hm : Hid (max x1 x2 = x2) := by show _ = _; omega
            go_quiet (fail)
            go_wp2_with fail
            clear w1' w2'
            go_ret3
            exact ⟨by rw [hq'.out]; simp only [Hm.out]; rfl, below_drewN b2 _⟩
        · have hq' : Hid (rworthS F ns = (false, 0, be)) := by
            show _ = _
            rw [hq.out, if_neg he]
          have he' : (be != 0) = true := by simpa using he
          clear he
          go_wp2_with fail
          go_ret3
          exact ⟨by rw [hq'.out]; rfl, b2⟩
end Go.Proofs.Ytonbaikdpcmbiaa
