/- The walk of TakingsMore. Conditions: numbers that read as data. -/
import Derived.Test.YtdechfjlbdbbnaaTks
import Derived.Test.YtdechfjlbdbbnaaTkn
import Derived.Test.YtdechfjlbdbbnaaTkp
namespace Go.Proofs.Ytdechfjlbdbbnaa
open Go.RowKit Go.Shelf

theorem rentZ_bd {t p least : Int} (ht : 0 ≤ t) (hp : 0 ≤ p) (hl : 0 ≤ least) : 0 ≤ rentZ t p least ∧ rentZ t p least ≤ t ∧ (rentZ t p least < least → rentZ t p least = t) := by
  have h : 0 ≤ t * p / 100 := Int.ediv_nonneg (Int.mul_nonneg ht hp) (by decide)
  unfold rentZ
  generalize t * p / 100 = q at h
  omega
theorem rentZ_mono {t p p' least : Int} (ht : 0 ≤ t) (h : p ≤ p') : rentZ t p least ≤ rentZ t p' least := by
  have h1 : t * p ≤ t * p' := Int.mul_le_mul_of_nonneg_left h ht
  have h2 : t * p / 100 ≤ t * p' / 100 := Int.ediv_le_ediv (by decide) h1
  unfold rentZ
  generalize t * p / 100 = q at h2 ⊢
  generalize t * p' / 100 = q' at h2 ⊢
  omega
theorem rents_len (l : List Int) (p least : Int) : (rentsL l p least).length = l.length := by simp [rentsL]
theorem rents_at (l : List Int) (p least : Int) (i : Nat) (hi : i < l.length) : wAt (rentsL l p least) i = rentZ (wAt l i) p least := by
  unfold wAt rentsL
  rw [List.getElem?_map, List.getElem?_eq_getElem hi]; rfl
theorem sumN_mono {f g : Nat → Int} : ∀ n, (∀ i, i < n → f i ≤ g i) → sumN f n ≤ sumN g n := by
  intro n
  induction n with
  | zero => intro _; exact Int.le_refl _
  | succ n ih =>
    intro h
    have h1 := ih fun i hi => h i (by omega)
    have h2 := h n (by omega)
    simp only [sumN]; omega
/-- What is known of the numbers. -/
structure RentOk (l : List Int) (p least : Int) : Prop where
  len : l.length ≤ 60
  at_ : ∀ i, i < l.length → 0 ≤ wAt l i ∧ wAt l i ≤ 1000000000
  pct : 0 ≤ p
  low : 0 ≤ least
theorem RentOk.sum {l : List Int} {p least : Int} (h : RentOk l p least) : sumW (rentsL l p least) ≤ sumW l := by
  have h60 := h.len
  have hb : sumN (wAt l) l.length ≤ l.length * 1000000000 := sumN_le _ fun i hi => (h.at_ i hi).2
  have hr : ∀ i, i < l.length → wAt (rentsL l p least) i = rentZ (wAt l i) p least := fun i hi => rents_at l p least i hi
  have hm : sumN (wAt (rentsL l p least)) l.length ≤ sumN (wAt l) l.length := sumN_mono _ fun i hi => by rw [hr i hi]; exact (rentZ_bd (h.at_ i hi).1 h.pct h.low).2.1
  have e1 : sumW l = sumN (wAt l) l.length := sumW_eq (fun i hi => (h.at_ i hi).1) (by omega)
  have e2 : sumW (rentsL l p least) = sumN (wAt (rentsL l p least)) (rentsL l p least).length := sumW_eq (fun i hi => by rw [rents_len] at hi; rw [hr i hi]; exact (rentZ_bd (h.at_ i hi).1 h.pct h.low).1) (by rw [rents_len]; omega)
  rw [rents_len] at e2
  omega
theorem rentsR_cases (l : List Int) (p least : Int) : ((rentsR l p least).1 = [] ∧ (rentsR l p least).2.2 ≠ 0) ∨ (rentsR l p least = (rentsL l p least, sumW (rentsL l p least), 0) ∧ RentOk l p least) := by
  unfold rentsR
  by_cases h1 : 60 < l.length
  · rw [if_pos h1]; exact .inl ⟨rfl, by decide⟩
  rw [if_neg h1]
  by_cases h2 : rentsB l p least = false
  · rw [if_pos h2]; exact .inl ⟨rfl, by decide⟩
  rw [if_neg h2]
  have h3 : rentsB l p least = true := by simpa using h2
  unfold rentsB at h3
  simp only [Bool.and_eq_true] at h3
  exact .inr ⟨rfl, by omega, fun i hi => allB_at h3.1.1 hi, (inB_le h3.2).1, (inB_le h3.1.2).1⟩
set_option maxHeartbeats 4000000 in
set_option maxRecDepth 100000 in
theorem more_walk {w : World} (l : List Int) (A : Option Addr) (ca : Nat) (hr : Reads w w.heap.size 1 A l.length (l.map (Value.int .i64))) (hm : l.length ≤ maxLen) (R : Int × Int × Int) :
    Calls Try.prog 11 #[.slice A l.length ca, rentV R] w (TrueT w) := by
  obtain ⟨p, m, least⟩ := R
  obtain ⟨W, hW⟩ : ∃ W, W = w.alloc (.cells #[.int .i64 p, .int .i64 m, .int .i64 least] 51) := ⟨_, rfl⟩
  have bW : Below w.heap.size w W := by subst hW; exact (Below.refl _ _).alloc (Nat.le_refl _) _
  have rW : Row W w.heap.size 51 [.int .i64 p, .int .i64 m, .int .i64 least] := by subst hW; exact Row.new w _ _
  have HS : Hid (∀ q X, Below w.heap.size w X → Calls Try.prog 21 #[.slice A l.length ca, .int .i64 q, .int .i64 least] X (TkTo3 X (rentsR l q least).1 (rentsR l q least).2.1 (rentsR l q least).2.2)) := fun q X hX => Rents_any l q least A ca w.heap.size X hX.size (hr.below hX) hm
  have HW : Hid (∀ X, Below w.heap.size w X → Calls Try.prog 20 #[] X fun e w' => e = .returned (.bool true) ∧ Below w.heap.size w w') := fun X hX => (works_any X).mono fun e w' h => ⟨h.1, hX.trans (h.2.mono hX.size)⟩
  have q0 : W.cell? ⟨w.heap.size, 0, none⟩ = some (.int .i64 p) := rW.cell (j := 0) (by simp)
  have q2 : W.cell? ⟨w.heap.size, 2, none⟩ = some (.int .i64 least) := rW.cell (j := 2) (by simp)
  have lW := rW.lt
  have HB := Lib.hid bW
  have HR := Lib.hid rW
  have hrd := Lib.hid hr
  clear hr bW rW
  unfold rentV
  rcases rentsR_cases l p least with ⟨h1, h2⟩ | ⟨h1, hok⟩
  · have H1 : Hid (∃ k, k ≠ 0 ∧ ∃ n, Calls Try.prog 21 #[.slice A l.length ca, .int .i64 p, .int .i64 least] W (TkTo3 W [] n k)) := ⟨(rentsR l p least).2.2, h2, (rentsR l p least).2.1, by have := HS.out p W HB.out; rw [h1] at this; exact this⟩
    obtain ⟨k, hk, n, hc⟩ := H1.out
    have HC := Lib.hid hc
    clear H1 h1 h2 hc HS
    go_enter Try.func11, Try.ntmps11
    go_upto_region 1 with fail
    rw [← hW]
    clear hW
    go_upto_region 2 with (go_at_call 21; refine HC.out.mono ?_; rintro e X ⟨A', c', rfl, hrd', hX⟩; have BX := Lib.hid (HB.out.trans (hX.mono HB.out.size)); clear hX hrd' HC)
    go_wp2_with (go_at_call 20; refine (HW.out _ BX.out).mono ?_; rintro e w' ⟨rfl, hb⟩; have BW := Lib.hid hb; clear hb)
    go_ret
    exact ⟨rfl, BW.out⟩
  have H1 : Hid (Calls Try.prog 21 #[.slice A l.length ca, .int .i64 p, .int .i64 least] W (TkTo3 W (rentsL l p least) (sumW (rentsL l p least)) 0)) := by have := HS.out p W HB.out; rw [h1] at this; exact this
  have hln := rents_len l p least
  have hsum := hok.sum
  have h60 := hok.len
  have HOk := Lib.hid hok
  clear h1 hok
  go_enter Try.func11, Try.ntmps11
  go_upto_region 1 with fail
  rw [← hW]
  clear hW
  go_upto_region 2 with (go_at_call 21; refine H1.out.mono ?_; rintro e X ⟨A1, c1, rfl, hrd1, hX⟩)
  have hrX := HR.out.below hX lW
  have hbX := HB.out.trans (hX.mono HB.out.size)
  rw [hln] at hrd1
  have HS1 := Lib.hid (rSum_any (rentsL l p least) A1 l.length c1 X.heap.size X hrd1 hm)
  have HS2 := Lib.hid (rSum_any l A l.length ca w.heap.size X (hrd.out.below hbX) hm)
  have HLn := Lib.hid hln
  have HD1 := Lib.hid hrd1
  have HRX := Lib.hid hrX
  have HBX := Lib.hid hbX
  generalize hs1 : sumW (rentsL l p least) = s1 at hsum HS1 ⊢
  generalize hs2 : sumW l = s2 at hsum HS2
  have hsum2 : ¬ s2 < s1 := by omega
  clear q0 q2 hln hrd1 hrX hbX hX H1 hs1 hs2
  go_upto_region 6 with (first | (go_at_call 27; with_reducible refine HS1.out.mono ?_; rintro e w' ⟨rfl, rfl⟩) | (go_at_call 27; with_reducible refine HS2.out.mono ?_; rintro e w' ⟨rfl, rfl⟩))
  clear HS1 HS2 hsum hsum2
  go_wp2_with fail
  go_loopw [8] (fun i wr => ∃ k : Nat, k ≤ l.length ∧ i = .int .i64 k ∧ Below X.heap.size X wr) (fun i _ => l.length - (intOf i).toNat)
  case atStart => exact ⟨0, Nat.zero_le _, rfl, Below.refl _ _⟩
  case round =>
    obtain ⟨k, hk, rfl, hbel⟩ := hrel
    have Hbe := Lib.hid hbel
    by_cases hlt : k < l.length
    · have hlt' : (k : Int) < (l.length : Int) := by omega
      have i0 : ¬ (k : Int) < 0 := by omega
      have ew : IntKind.i64.wrap ((k : Int) + 1) = (k : Int) + 1 := IntWalk.i64_in _ (by omega)
      obtain ⟨b, o, rfl, hbB, hc⟩ := hrd.out.2 (by omega)
      obtain ⟨b1, o1, rfl, hbB1, hc1⟩ := HD1.out.2 (by omega)
      have hx : (l.map (Value.int .i64))[k]? = some (.int .i64 (wAt l k)) := by rw [List.getElem?_map, List.getElem?_eq_getElem hlt]; unfold wAt; rw [List.getElem?_eq_getElem hlt]; rfl
      have hy : ((rentsL l p least).map (Value.int .i64))[k]? = some (.int .i64 (rentZ (wAt l k) p least)) := by
        have h5 := rents_at l p least k hlt
        have h6 : k < (rentsL l p least).length := by rw [rents_len]; exact hlt
        rw [List.getElem?_map, List.getElem?_eq_getElem h6]
        unfold wAt at h5
        rw [List.getElem?_eq_getElem h6] at h5
        simp only [Option.getD_some] at h5
        rw [h5]
        unfold wAt
        rfl
      have lb : b < X.heap.size := Nat.lt_of_lt_of_le hbB HBX.out.size
      have v0 : wr.cell? ⟨b, o + k, none⟩ = some (.int .i64 (wAt l k)) := by rw [hbel.cell (p := ⟨b, o + k, none⟩) lb, HBX.out.cell (p := ⟨b, o + k, none⟩) hbB]; exact hc k _ hx
      have v1 : wr.cell? ⟨b1, o1 + k, none⟩ = some (.int .i64 (rentZ (wAt l k) p least)) := by rw [hbel.cell (p := ⟨b1, o1 + k, none⟩) hbB1]; exact hc1 k _ hy
      have hrX := HRX.out.below hbel HRX.out.lt
      have v2 : wr.cell? ⟨w.heap.size, 2, none⟩ = some (.int .i64 least) := hrX.cell (j := 2) (by simp)
      have l0 := hrX.lt
      have lb' : b < wr.heap.size := Nat.lt_of_lt_of_le lb hbel.size
      have lb1' : b1 < wr.heap.size := Nat.lt_of_lt_of_le hbB1 hbel.size
      obtain ⟨z1, z2, z3⟩ := rentZ_bd (least := least) (HOk.out.at_ k hlt).1 HOk.out.pct HOk.out.low
      generalize rentZ (wAt l k) p least = r at v1 z1 z2 z3
      generalize wAt l k = t at v0 z2 z3
      have d1 : decide (r < 0) = false := decide_eq_false (by omega)
      have d2 : decide (t < r) = false := decide_eq_false (by omega)
      have d1' : ¬ r < 0 := by omega
      have d2' : ¬ t < r := by omega
      clear hc hc1 hx hy hbel hrX
      by_cases hrl : r < least
      · have e5 := z3 hrl
        subst e5
        have d3 : decide (r < least) = true := decide_eq_true hrl
        clear z1 z2 z3 hrl
        go_upto_region 9 with fail
        go_quiet (fail)
        go_wp2_with fail
        go_roundw
        case rel => exact ⟨k + 1, by omega, by go_num, below_drewN Hbe.out _⟩
        case measure => simp [intOf]; omega
      · have d3 : decide (r < least) = false := decide_eq_false hrl
        clear z1 z2 z3
        go_upto_region 9 with fail
        go_quiet (fail)
        go_wp2_with fail
        go_roundw
        case rel => exact ⟨k + 1, by omega, by go_num, below_drewN Hbe.out _⟩
        case measure => simp [intOf]; omega
    · have hge : ¬ (k : Int) < (l.length : Int) := by omega
      have bX := HBX.out.trans (hbel.mono HBX.out.size)
      have hrX := HRX.out.below hbel HRX.out.lt
      have v1 : wr.cell? ⟨w.heap.size, 1, none⟩ = some (.int .i64 m) := hrX.cell (j := 1) (by simp)
      have v2 : wr.cell? ⟨w.heap.size, 2, none⟩ = some (.int .i64 least) := hrX.cell (j := 2) (by simp)
      have l0 := hrX.lt
      have H2 := Lib.hid (HS.out m wr bX)
      have HRX2 := Lib.hid hrX
      have HD2 := Lib.hid ((HD1.out.below hbel).more hbel.size)
      have HBX2 := Lib.hid bX
      clear hrX bX hbel
      rcases rentsR_cases l m least with ⟨g1, g2⟩ | ⟨g1, hok2⟩
      · obtain ⟨e2, he2⟩ : ∃ e2, e2 = (rentsR l m least).2.2 := ⟨_, rfl⟩
        rw [g1, ← he2] at H2
        rw [← he2] at g2
        clear g1 he2
        go_upto_region 12 with (go_at_call 21; refine H2.out.mono ?_; rintro e Y ⟨A2, c2, rfl, hrd2, hY⟩; have BY := Lib.hid (HBX2.out.trans (hY.mono HBX2.out.size)); clear hY hrd2 H2)
        go_wp2_with fail
        go_loopw [11] (fun i wr => i = .int .i64 0 ∧ Below w.heap.size w wr) (fun _ _ => 0)
        case atStart => exact ⟨rfl, BY.out⟩
        case round =>
          obtain ⟨rfl, hb⟩ := hrel
          have BY := Lib.hid hb
          clear hb
          go_wp2_with (go_at_call 20; refine (HW.out _ BY.out).mono ?_; rintro e w' ⟨rfl, hb⟩; have BW := Lib.hid hb; clear hb)
          go_ret
          exact ⟨rfl, BW.out⟩
      · rw [g1] at H2
        have hln2 := rents_len l m least
        clear g1
        go_upto_region 12 with (go_at_call 21; refine H2.out.mono ?_; rintro e Y ⟨A2, c2, rfl, hrd2, hY⟩; have BY := Lib.hid (HBX2.out.trans (hY.mono HBX2.out.size)))
        have hrY := HRX2.out.below hY HRX2.out.lt
        have HRY := Lib.hid hrY
        have HD3 := Lib.hid ((HD2.out.below hY).more hY.size)
        simp only [hln2] at hrd2 ⊢
        have HD4 := Lib.hid hrd2
        clear hrY hY hrd2 H2 hln2
        go_wp2_with fail
        go_loopw [11] (fun i wr => ∃ k : Nat, k ≤ l.length ∧ i = .int .i64 k ∧ Below Y.heap.size Y wr) (fun i _ => l.length - (intOf i).toNat)
        case atStart => exact ⟨0, Nat.zero_le _, rfl, Below.refl _ _⟩
        case round =>
          obtain ⟨k, hk, rfl, hbel⟩ := hrel
          have Hbe2 := Lib.hid hbel
          have hrZ := HRY.out.below hbel HRY.out.lt
          have v0 : wr.cell? ⟨w.heap.size, 0, none⟩ = some (.int .i64 p) := hrZ.cell (j := 0) (by simp)
          have v1 : wr.cell? ⟨w.heap.size, 1, none⟩ = some (.int .i64 m) := hrZ.cell (j := 1) (by simp)
          have l0 := hrZ.lt
          have BZ := Lib.hid (BY.out.trans (hbel.mono BY.out.size))
          clear hrZ
          by_cases hlt : k < l.length
          · have hlt' : (k : Int) < (l.length : Int) := by omega
            have i0 : ¬ (k : Int) < 0 := by omega
            have ew : IntKind.i64.wrap ((k : Int) + 1) = (k : Int) + 1 := IntWalk.i64_in _ (by omega)
            by_cases hpm : p ≤ m
            · obtain ⟨b1, o1, rfl, hbB1, hc1⟩ := HD3.out.2 (by omega)
              obtain ⟨b2, o2, rfl, hbB2, hc2⟩ := HD4.out.2 (by omega)
              have hy : ∀ q, ((rentsL l q least).map (Value.int .i64))[k]? = some (.int .i64 (rentZ (wAt l k) q least)) := fun q => by
                have h5 := rents_at l q least k hlt
                have h6 : k < (rentsL l q least).length := by rw [rents_len]; exact hlt
                rw [List.getElem?_map, List.getElem?_eq_getElem h6]
                unfold wAt at h5
                rw [List.getElem?_eq_getElem h6] at h5
                simp only [Option.getD_some] at h5
                rw [h5]
                unfold wAt
                rfl
              have u1 : wr.cell? ⟨b1, o1 + k, none⟩ = some (.int .i64 (rentZ (wAt l k) p least)) := by rw [hbel.cell (p := ⟨b1, o1 + k, none⟩) hbB1]; exact hc1 k _ (hy p)
              have u2 : wr.cell? ⟨b2, o2 + k, none⟩ = some (.int .i64 (rentZ (wAt l k) m least)) := by rw [hbel.cell (p := ⟨b2, o2 + k, none⟩) hbB2]; exact hc2 k _ (hy m)
              have lb1' : b1 < wr.heap.size := Nat.lt_of_lt_of_le hbB1 hbel.size
              have lb2' : b2 < wr.heap.size := Nat.lt_of_lt_of_le hbB2 hbel.size
              have hmo := rentZ_mono (least := least) (HOk.out.at_ k hlt).1 hpm
              have hd : ¬ rentZ (wAt l k) m least < rentZ (wAt l k) p least := by omega
              generalize rentZ (wAt l k) p least = r1 at u1 hd
              generalize rentZ (wAt l k) m least = r2 at u2 hd
              clear hc1 hc2 hy hbel hmo
              go_upto_region 15 with fail
              go_quiet (fail)
              go_wp2_with fail
              go_roundw
              case rel => exact ⟨k + 1, by omega, by go_num, below_drewN Hbe2.out _⟩
              case measure => simp [intOf]; omega
            · have BY := Lib.hid BZ.out
              clear hbel
              go_wp2_with (go_at_call 20; refine (HW.out _ BY.out).mono ?_; rintro e w' ⟨rfl, hb⟩; have BW := Lib.hid hb; clear hb)
              go_ret
              exact ⟨rfl, BW.out⟩
          · have hge : ¬ (k : Int) < (l.length : Int) := by omega
            have BY := Lib.hid BZ.out
            clear hbel
            go_wp2_with (go_at_call 20; refine (HW.out _ BY.out).mono ?_; rintro e w' ⟨rfl, hb⟩; have BW := Lib.hid hb; clear hb)
            go_ret
            exact ⟨rfl, BW.out⟩
end Go.Proofs.Ytdechfjlbdbbnaa
