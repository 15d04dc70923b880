/- Contracts of buyable and Share. Conditions: the arguments read as data. -/
import Derived.Test.YtonbaikdpcmbiaaGd
import Derived.Deep.RegionHeld3
namespace Go.Proofs.Ytonbaikdpcmbiaa
open Go.RowKit

set_option maxHeartbeats 400000 in
theorem buyable_any (ns : List Int) (A : Option Addr) (c B : Nat) (w : World) (hr : Reads w B 1 A ns.length (intCells ns)) (hn : ns.length ≤ maxLen) :
    Calls Try.prog 62 #[.slice A ns.length c] w fun e w' => e = .returned (.bool (buyB ns)) ∧ w = w' := by
  cases ha : allB ns 0 1000 with
  | false =>
    have Hv : Hid (buyB ns = false) := by show _ = _; simp [buyB, ha]
    go_enter Try.func62, Try.ntmps62
    go_wp2_with (go_at_call 70; refine (allWithin_any ns _ _ _ B _ _ _ hr hn).mono ?_; rintro e w' ⟨rfl, rfl⟩)
    go_ret
    exact ⟨ret_bool (by rw [Hv.out]), rfl⟩
  | true =>
    have Hv : Hid (buyB ns = decide (sumW ns ≤ 1000)) := by show _ = _; simp [buyB, ha]
    go_enter Try.func62, Try.ntmps62
    go_wp2_with (first | (go_at_call 70; refine (allWithin_any ns _ _ _ B _ _ _ hr hn).mono ?_; rintro e w' ⟨rfl, rfl⟩) | (go_at_call 52; refine (sum_any ns _ _ _ B _ hr hn).mono ?_; rintro e w' ⟨rfl, rfl⟩))
    go_ret
    exact ⟨ret_bool (by rw [Hv.out]), rfl⟩

/-- cheapest, where the fair is valid. -/
theorem cheap_any {F : Fair} (hv : validB F = true) (A : Option Addr) (c B : Nat) (n : Nat) (w : World) (hB : B ≤ w.heap.size) (hr : Reads w B 2 A F.bundles.length (bundleCells F.bundles)) (hm : n ≤ 1000) (h0 : n = 0 ∨ F.bundles.length ≠ 0) :
    Calls Try.prog 60 #[.slice A F.bundles.length c, .int .i64 n] w (CRet w F.bundles n) := by
  have hbd := bounds_of hv
  have hpos : ∀ i, i < F.bundles.length → 1 ≤ (getb F.bundles i).tokens ∧ (getb F.bundles i).tokens ≤ 1000 := fun i hi => by
    have := hbd.bu _ (getb_mem _ i hi); omega
  exact cheapest_any F.bundles A c B n w hB hr hm hbd.b (fun i hi => (hpos i hi).1)
    ⟨waysK_length _ _ _, fun t h0 h1 h2 => by
      obtain ⟨i, tok, a1, a2, a3, a4, a5, a6, _⟩ := (ways_link F.bundles (fun i hi => (hpos i hi).1) _ t h0 h1).1 h2
      exact ⟨i, tok, a1, a2, a3, a4, a5, a6⟩⟩ (best_can F.bundles hpos n h0)
theorem sum_le (l : List Int) : ∀ s : Int, 0 ≤ s → (∀ x ∈ l, 0 ≤ x ∧ x ≤ 1000) → s + 1000 * l.length ≤ 1000000000 → s ≤ l.foldl (fun s z => wrap64 (s + z)) s ∧ ∀ x ∈ l, s + x ≤ l.foldl (fun s z => wrap64 (s + z)) s := by
  induction l with
  | nil => intro s _ _ _; exact ⟨Int.le_refl _, fun x hx => by cases hx⟩
  | cons y l ih =>
    intro s h0 hx hb
    have hy := hx y List.mem_cons_self
    simp only [List.length_cons] at hb
    obtain ⟨i1, i2⟩ := ih (s + y) (by omega) (fun x h => hx x (List.mem_cons_of_mem _ h)) (by omega)
    simp only [List.foldl_cons]
    rw [wrap64_id (by omega) (by omega)]
    refine ⟨by omega, fun x h => ?_⟩
    rcases List.mem_cons.1 h with rfl | h
    · exact i1
    · have := i2 x h; omega
theorem need_ok {F : Fair} {ns : List Int} (h1 : (inB ns.length 1 20 && buyB ns) = true) (h2 : (buyS F (sumW ns)).2.2 = 0) (k : Nat) (hk : k < ns.length) : 0 ≤ geti ns k ∧ geti ns k ≤ 1000 ∧ ((geti ns k).toNat = 0 ∨ F.bundles.length ≠ 0) := by
  simp only [Bool.and_eq_true, buyB, decide_eq_true_eq] at h1
  obtain ⟨h1, h3, h4⟩ := h1
  obtain ⟨c0, c1⟩ := allB_at h3 k hk
  refine ⟨c0, c1, ?_⟩
  have hl := (inB_iff.1 h1).2
  have hs := (sum_le ns 0 (Int.le_refl _) (allB_get h3) (by omega)).2 (geti ns k) (by
    simp only [geti, Int.toNat_natCast, List.getElem?_eq_getElem hk, Option.getD_some]; exact List.getElem_mem hk)
  have hs' : geti ns k ≤ sumW ns := by unfold sumW; omega
  by_cases hb : F.bundles.length = 0
  · left
    have : ¬ 0 < sumW ns := fun hp => by
      unfold buyS at h2
      by_cases hv : validB F = false
      · rw [if_pos hv] at h2; cases h2
      rw [if_neg hv] at h2
      by_cases hn : inB (sumW ns) 0 1000 = false
      · rw [if_pos hn] at h2; cases h2
      rw [if_neg hn, if_pos ⟨hp, hb⟩] at h2
      cases h2
    omega
  · exact .inr hb
def SharePost (w : World) (F : Fair) (ns : List Int) (e : Ending) (w' : World) : Prop :=
  e = .returned (.tuple #[.int .i64 (shareS F ns).1, .int .i64 (shareS F ns).2.1, .int .i64 (shareS F ns).2.2]) ∧ Below w.heap.size w w'

theorem Row.cells8 {w : World} {g : Nat} {t : TypeId} {v0 v1 v2 v3 v4 v5 v6 v7 : Value} (h : Row w g t [v0, v1, v2, v3, v4, v5, v6, v7]) : (∀ o, w.frozen? ⟨g, o, none⟩ = false) ∧ w.cell? ⟨g, 0, none⟩ = some v0 ∧ w.cell? ⟨g, 1, none⟩ = some v1 ∧ w.cell? ⟨g, 2, none⟩ = some v2 ∧ w.cell? ⟨g, 3, none⟩ = some v3 ∧ w.cell? ⟨g, 4, none⟩ = some v4 ∧ w.cell? ⟨g, 5, none⟩ = some v5 ∧ w.cell? ⟨g, 6, none⟩ = some v6 ∧ w.cell? ⟨g, 7, none⟩ = some v7 :=
  ⟨fun o => h.frozen o, h.cell (j := 0) (by simp), h.cell (j := 1) (by simp), h.cell (j := 2) (by simp), h.cell (j := 3) (by simp), h.cell (j := 4) (by simp), h.cell (j := 5) (by simp), h.cell (j := 6) (by simp), h.cell (j := 7) (by simp)⟩
def BuyBox (w : World) (F : Fair) (R : Refs) (n : Int) (e : Ending) (w' : World) : Prop :=
  ∃ A m c, e = .returned (.tuple #[.slice A m c, .int .i64 (buyS F n).2.1, .int .i64 (buyS F n).2.2]) ∧ Below w.heap.size w w' ∧ Row w' w.heap.size 25 (fairCells F R).toList
theorem buy_box (F : Fair) (R : Refs) (n : Int) (w X : World) (B : Nat) (hB : B ≤ w.heap.size) (hF : FairIn w B F R) (hX : Below w.heap.size w X) (hr : Row X w.heap.size 25 (fairCells F R).toList) :
    Calls Try.prog 33 #[fairV F R, .int .i64 n] X (BuyBox w F R n) :=
  (Buy_any F R n X B (by have := hX.size; omega) (hF.below (hX.mono hB))).mono fun _ _ ⟨hb, A, m, c, he, _⟩ => ⟨A, m, c, he, below_step hX hb, hr.below hb hr.lt⟩

set_option maxHeartbeats 2000000 in
set_option maxRecDepth 100000 in
theorem Share_any (F : Fair) (R : Refs) (ns : List Int) (A : Option Addr) (c B : Nat) (w : World) (hB : B ≤ w.heap.size) (hF : FairIn w B F R) (hc : Reads w B 1 A ns.length (intCells ns)) (hn : ns.length ≤ maxLen) :
    Calls Try.prog 37 #[fairV F R, .slice A ns.length c] w (SharePost w F ns) := by
  have hF0 := hF.alloc hB (.cells (fairCells F R) 25)
  have hc0 := hc.alloc hB (.cells (fairCells F R) 25)
  have ba := (Below.refl w.heap.size w).alloc (Nat.le_refl _) (.cells (fairCells F R) 25)
  have r0 := Row.new w 25 (fairCells F R)
  have hn' := hn
  unfold maxLen at hn'
  unfold fairV
  go_enter Try.func37, Try.ntmps37
  go_wp2_with fail
  refine (valid_any F R _ B (by simp; omega) hF0).mono ?_
  rintro e w1 ⟨rfl, hb1⟩
  have b1 := below_step ba hb1
  have F1 := hF.below (b1.mono hB)
  have C1 := hc.below (b1.mono hB)
  have s1 := b1.size
  have z1 : w.heap.size < w1.heap.size := by have := hb1.size; simp at this; omega
  have r1 := r0.below hb1 r0.lt
  have q0 : w1.cell? ⟨w.heap.size, 0, none⟩ = some (.int .i64 F.purses) := r1.cell (j := 0) (by simp)
  have q1 : w1.cell? ⟨w.heap.size, 1, none⟩ = some (.int .i64 F.boxes) := r1.cell (j := 1) (by simp)
  have q2 : w1.cell? ⟨w.heap.size, 2, none⟩ = some (.slice R.A1 F.stock.length R.c1) := r1.cell (j := 2) (by simp)
  have q3 : w1.cell? ⟨w.heap.size, 3, none⟩ = some (.slice R.A2 F.cash.length R.c2) := r1.cell (j := 3) (by simp)
  have q4 : w1.cell? ⟨w.heap.size, 4, none⟩ = some (.slice R.A3 F.bundles.length R.c3) := r1.cell (j := 4) (by simp)
  have q5 : w1.cell? ⟨w.heap.size, 5, none⟩ = some (.int .i64 F.refund) := r1.cell (j := 5) (by simp)
  have q6 : w1.cell? ⟨w.heap.size, 6, none⟩ = some (.int .i64 F.band) := r1.cell (j := 6) (by simp)
  have q7 : w1.cell? ⟨w.heap.size, 7, none⟩ = some (.int .i64 F.hours) := r1.cell (j := 7) (by simp)
  cases hv : validB F with
  | false =>
    have hq : Hid (shareS F ns = (0, 0, 10)) := by show _ = _; simp [shareS, hv]
    go_wp2_with fail
    go_ret3
    exact ⟨by rw [hq.out]; rfl, b1⟩
  | true =>
    cases hin : inB ns.length 1 20 with
    | false =>
      have hq : Hid (shareS F ns = (0, 0, 1)) := by show _ = _; simp [shareS, hv, hin]
      go_wp2_with (go_at_call 59; refine (within_any _ _ _ _).mono ?_; rintro e w' ⟨rfl, rfl⟩)
      go_ret3
      exact ⟨by rw [hq.out]; rfl, b1⟩
    | true =>
      cases hbu : buyB ns with
      | false =>
        have hq : Hid (shareS F ns = (0, 0, 1)) := by show _ = _; simp [shareS, hv, hbu]
        go_wp2_with (first | (go_at_call 59; refine (within_any _ _ _ _).mono ?_; rintro e w' ⟨rfl, rfl⟩) | (go_at_call 62; refine (buyable_any ns _ _ B _ C1 hn).mono ?_; rintro e w' ⟨rfl, rfl⟩))
        go_ret3
        exact ⟨by rw [hq.out]; rfl, b1⟩
      | true =>
        have hboth : Hid ((inB ns.length 1 20 && buyB ns) = true) := by show _ = _; rw [hin, hbu]; rfl
        have hq : Hid (shareS F ns = if (buyS F (sumW ns)).2.2 = 0 then ((buyS F (sumW ns)).2.1, wrap64 (aloneS F.bundles ns - (buyS F (sumW ns)).2.1), 0) else (0, 0, (buyS F (sumW ns)).2.2)) := by show _ = _; simp [shareS, hv, hin, hbu]
        go_wp2_with (first | (go_at_call 59; refine (within_any _ _ _ _).mono ?_; rintro e w' ⟨rfl, rfl⟩) | (go_at_call 62; refine (buyable_any ns _ _ B _ C1 hn).mono ?_; rintro e w' ⟨rfl, rfl⟩))
        go_region_held3 (fun x => x.cell? ⟨w.heap.size, 0, none⟩ = some (.int .i64 F.purses) ∧ x.cell? ⟨w.heap.size, 1, none⟩ = some (.int .i64 F.boxes) ∧ x.cell? ⟨w.heap.size, 2, none⟩ = some (.slice R.A1 F.stock.length R.c1) ∧ x.cell? ⟨w.heap.size, 3, none⟩ = some (.slice R.A2 F.cash.length R.c2) ∧ x.cell? ⟨w.heap.size, 4, none⟩ = some (.slice R.A3 F.bundles.length R.c3) ∧ x.cell? ⟨w.heap.size, 5, none⟩ = some (.int .i64 F.refund) ∧ x.cell? ⟨w.heap.size, 6, none⟩ = some (.int .i64 F.band) ∧ x.cell? ⟨w.heap.size, 7, none⟩ = some (.int .i64 F.hours)) (go_keep) (first
          | (go_at_call 52; go_must (refine (sum_any ns _ _ _ B _ (by first | exact C1 | exact C1.drewN _) hn).mono ?_; rintro e w' ⟨rfl, rfl⟩))
          | (go_at_call 33; go_must (refine (buy_box F R (sumW ns) w _ B hB hF ?_ ?_).mono ?_; (repeat first | assumption | (with_reducible refine below_drewN ?_ _) | (with_reducible refine Below.drew ?_)); (repeat first | assumption | (with_reducible refine Row.drewN ?_ _) | (with_reducible refine Row.drew ?_)); rintro e w2 ⟨A', m', c', rfl, b2, r2⟩; obtain ⟨_, c0, c1, c2, c3, c4, c5, c6, c7⟩ := Row.cells8 r2)))
        have s2 := b2.size
        have z2 : w.heap.size < w2.heap.size := r2.lt
        have C2 := hc.below (b2.mono hB)
        have F2 := hF.below (b2.mono hB)
        have u4 : w2.cell? ⟨w.heap.size, 4, none⟩ = some (.slice R.A3 F.bundles.length R.c3) := r2.cell (j := 4) (by simp)
        clear q0 q1 q2 q3 q4 q5 q6 q7 c0 c1 c2 c3 c4 c5 c6 c7
        by_cases he : (buyS F (sumW ns)).2.2 = 0
        · have hq' : Hid (shareS F ns = ((buyS F (sumW ns)).2.1, wrap64 (aloneS F.bundles ns - (buyS F (sumW ns)).2.1), 0)) := by
            show _ = _
            rw [hq.out, if_pos he]
          have He := Lib.hid he
          obtain ⟨pr, hpr⟩ : ∃ pr, pr = (buyS F (sumW ns)).2.1 := ⟨_, rfl⟩
          have Hpr := Lib.hid hpr
          rw [he, ← hpr]
          clear he hpr
          go_wp2_with fail
          go_loopw [7, 37] (fun s i wr => ∃ k : Nat, k ≤ ns.length ∧ i = .int .i64 k ∧ s = .int .i64 (aloneS F.bundles (ns.take k)) ∧ Below w.heap.size w wr ∧ Below w2.heap.size w2 wr) (fun _ i _ => ns.length - (intOf i).toNat)
          case atStart => exact ⟨0, Nat.zero_le _, rfl, rfl, b2, Below.refl _ _⟩
          case round =>
            obtain ⟨k, hk, rfl, rfl, hbel, hb2⟩ := hrel
            have hs := hbel.size
            have v4 : wr.cell? ⟨w.heap.size, 4, none⟩ = some (.slice R.A3 F.bundles.length R.c3) := (hb2.cell (p := ⟨w.heap.size, 4, none⟩) z2).trans u4
            clear u4
            by_cases hlt : k < ns.length
            · obtain ⟨n0, n1, n2⟩ := need_ok hboth.out He.out k hlt
              obtain ⟨b, o, rfl, hb, hcc⟩ := (hc.below (hbel.mono hB)).at1 hlt
              have hck : wr.cell? ⟨b, o + k, none⟩ = some (.int .i64 (geti ns k)) := hcc k hlt
              have Hsn := Lib.hid (aloneS_snoc F.bundles ns k hlt)
              obtain ⟨j, hj⟩ := Int.eq_ofNat_of_zero_le n0
              rw [hj] at hck n1 n2 Hsn
              rw [Int.toNat_natCast] at n2 Hsn
              clear hcc hj n0
              have hlt' : (k : Int) < (ns.length : Int) := by omega
              go_wp2_with fail
              refine (cheap_any hv R.A3 R.c3 B j _ (by omega) (hF.below (hbel.mono hB)).s3 (by omega) n2).mono ?_
              rintro e w3 ⟨gc, hb3, hgc, hrow, rfl⟩
              go_wp2_with fail
              go_roundw
              case rel => exact ⟨k + 1, by omega, by go_num, by rw [Hsn.out], below_step hbel hb3, hb2.trans (hb3.mono hb2.size)⟩
              case measure => simp [intOf]; omega
            · have hge : ¬ (k : Int) < (ns.length : Int) := by omega
              have e1 : Hid (aloneS F.bundles (ns.take k) = aloneS F.bundles ns) := by show _ = _; rw [List.take_of_length_le (by omega)]
              go_wp2_with fail
              go_ret3
              exact ⟨by rw [hq'.out, ← e1.out, ← Hpr.out]; rfl, hbel⟩
        · have hq' : Hid (shareS F ns = (0, 0, (buyS F (sumW ns)).2.2)) := by
            show _ = _
            rw [hq.out, if_neg he]
          have he' : ((buyS F (sumW ns)).2.2 != 0) = true := by simpa using he
          clear he
          go_wp2_with fail
          go_ret3
          exact ⟨by rw [hq'.out]; rfl, b2⟩
end Go.Proofs.Ytonbaikdpcmbiaa
