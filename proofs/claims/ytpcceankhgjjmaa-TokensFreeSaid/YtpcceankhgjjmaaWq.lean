/- Contract of purchases. Conditions: the bundles read as data, each with a size of at least 1; at most 2000 tokens. -/
import Derived.Test.YtpcceankhgjjmaaWo
import Derived.Test.YtpcceankhgjjmaaWp
namespace Go.Proofs.Ytpcceankhgjjmaa
open Go.RowKit

def wayCells (l : List Way) : List Value := l.flatMap fun x => [.bool x.can, .int .i64 x.price, .int .i64 x.bundle]
theorem wayCells_length (l : List Way) : (wayCells l).length = l.length * 3 := by
  induction l with
  | nil => rfl
  | cons x t ih => simp only [wayCells, List.flatMap_cons, List.length_append, List.length_cons, List.length_nil] at *; omega
theorem wayCells_at (l : List Way) : ∀ k, k < l.length → (wayCells l)[k * 3]? = some (.bool (getw l k).can) ∧ (wayCells l)[k * 3 + 1]? = some (.int .i64 (getw l k).price) ∧ (wayCells l)[k * 3 + 2]? = some (.int .i64 (getw l k).bundle) := by
  induction l with
  | nil => intro k h; simp at h
  | cons x t ih =>
    intro k h
    cases k with
    | zero => simp [wayCells, getw]
    | succ k =>
      have h' := ih k (by simpa using h)
      have e0 : (k + 1) * 3 = k * 3 + 3 := by omega
      rw [e0]
      simp only [wayCells, List.flatMap_cons, getw, List.getElem?_cons_succ] at *
      refine ⟨?_, ?_, ?_⟩
      all_goals rw [List.getElem?_append_right (by simp)]
      · simpa using h'.1
      · simpa [show k * 3 + 3 + 1 - 3 = k * 3 + 1 from by omega] using h'.2.1
      · simpa [show k * 3 + 3 + 2 - 3 = k * 3 + 2 from by omega] using h'.2.2
theorem wayCells_set (l : List Way) : ∀ k, k < l.length → ∀ x : Way, (((wayCells l).set (k * 3) (.bool x.can)).set (k * 3 + 1) (.int .i64 x.price)).set (k * 3 + 2) (.int .i64 x.bundle) = wayCells (l.set k x) := by
  induction l with
  | nil => intro k h; simp at h
  | cons y t ih =>
    intro k h x
    cases k with
    | zero => simp [wayCells]
    | succ k =>
      have h' := ih k (by simpa using h) x
      have e0 : (k + 1) * 3 = k * 3 + 1 + 1 + 1 := by omega
      have e1 : (k + 1) * 3 + 1 = k * 3 + 1 + 1 + 1 + 1 := by omega
      have e2 : (k + 1) * 3 + 2 = k * 3 + 2 + 1 + 1 + 1 := by omega
      rw [e1, e2, e0]
      simp only [wayCells, List.flatMap_cons, List.cons_append, List.set_cons_succ, List.nil_append] at *
      rw [h']
theorem getw_of {w : World} {g : Nat} {t : TypeId} {l : List Way} (h : Row w g t (wayCells l)) {k : Nat} (hk : k < l.length) :
    w.cell? ⟨g, k * 3, none⟩ = some (.bool (getw l k).can) ∧ w.cell? ⟨g, k * 3 + 1, none⟩ = some (.int .i64 (getw l k).price) ∧ w.cell? ⟨g, k * 3 + 2, none⟩ = some (.int .i64 (getw l k).bundle) := by
  have hl := wayCells_length l
  obtain ⟨a, b, c⟩ := wayCells_at l k hk
  exact ⟨(h.cell (by omega)).trans a, (h.cell (by omega)).trans b, (h.cell (by omega)).trans c⟩
theorem Try.info_way : (Try.prog.info? 102).map (fun i => (i.zero, i.size, i.bytes)) = some (some (.agg #[.bool false, .int .i64 0, .int .i64 0]), 3, 24) := by kernel_rfl
theorem new_ways (w : World) (n : Nat) : Row (w.alloc (.cells (madeCells #[.bool false, .int .i64 0, .int .i64 0] (n * 3)) 102)) w.heap.size 102 (wayCells (List.replicate n ⟨false, 0, 0⟩)) := by
  have h := Row.new w 102 (madeCells #[.bool false, .int .i64 0, .int .i64 0] (n * 3))
  have e : (madeCells #[Value.bool false, Value.int .i64 0, Value.int .i64 0] (n * 3)).toList = wayCells (List.replicate n ⟨false, 0, 0⟩) := by
    apply List.ext_getElem?
    intro j
    have hl := wayCells_length (List.replicate n (⟨false, 0, 0⟩ : Way))
    by_cases hj : j < n * 3
    · obtain ⟨q1, q2, q3⟩ := wayCells_at (List.replicate n (⟨false, 0, 0⟩ : Way)) (j / 3) (by simp; omega)
      have gz : getw (List.replicate n (⟨false, 0, 0⟩ : Way)) (j / 3) = ⟨false, 0, 0⟩ := by
        simp only [getw, List.getElem?_replicate]; split <;> rfl
      rw [gz] at q1 q2 q3
      have hm : j % 3 = 0 ∨ j % 3 = 1 ∨ j % 3 = 2 := by omega
      rcases hm with h | h | h
      · rw [show j / 3 * 3 = j from by omega] at q1; rw [q1]; simp [madeCells, hj, h]
      · rw [show j / 3 * 3 + 1 = j from by omega] at q2; rw [q2]; simp [madeCells, hj, h]
      · rw [show j / 3 * 3 + 2 = j from by omega] at q3; rw [q3]; simp [madeCells, hj, h]
    · rw [List.getElem?_eq_none (by simp [madeCells]; omega), List.getElem?_eq_none (by rw [hl]; simp; omega)]
  rw [e] at h
  exact h

def PRet (w : World) (l : List Bundle) (most : Nat) (e : Ending) (w' : World) : Prop :=
  ∃ g, Below w.heap.size w w' ∧ w.heap.size ≤ g ∧ Row w' g 102 (wayCells (waysK l most most)) ∧ e = .returned (.slice (some ⟨g, 0, none⟩) (most + 1) (most + 1))

set_option maxHeartbeats 2000000 in
set_option maxRecDepth 100000 in
theorem purchases_any (l : List Bundle) (A : Option Addr) (c B : Nat) (most : Nat) (w : World) (hB : B ≤ w.heap.size) (hr : Reads w B 2 A l.length (bundleCells l)) (hm : most ≤ 2000) (hn : l.length ≤ 6) (hpos : ∀ k, k < l.length → 1 ≤ (getb l k).tokens) :
    Calls Try.prog 69 #[.slice A l.length c, .int .i64 most] w (PRet w l most) := by
  obtain ⟨i0, hi, hz0, hz1, hz2⟩ := info_parts Try.info_way
  have hmk := fun W => run_make_rowN (P := Try.prog) 99 102 i0 _ Try.underlying99 hi hz0 .i64 .i64 (most + 1) (most + 1) (Nat.le_refl _) (by rw [hz2]; omega) (by omega) W
  rw [hz1] at hmk
  have ec : ((most + 1 : Nat) : Int) = (most : Int) + 1 := by omega
  rw [ec] at hmk
  clear ec
  have hm0 : (madeCells #[Value.bool false, Value.int .i64 0, Value.int .i64 0] ((most + 1) * 3))[0]? = some (.bool false) := by simp [madeCells]
  have hst : Row ((w.alloc (.cells (madeCells #[.bool false, .int .i64 0, .int .i64 0] ((most + 1) * 3)) 102)).setCell ⟨w.heap.size, 0, none⟩ (.bool true)) w.heap.size 102 (wayCells (waysK l most 0)) := by
    have h := (new_ways w (most + 1)).set 0 (.bool true)
    have e : (wayCells (List.replicate (most + 1) ⟨false, 0, 0⟩)).set 0 (.bool true) = wayCells (waysK l most 0) := by
      simp [waysK, startW, List.replicate_succ, wayCells]
    rw [e] at h
    exact h
  go_enter Try.func69, Try.ntmps69
  go_wp2_with fail
  have Hst := Lib.hid hst
  clear hst hmk hm0
  go_loopw [6] (fun t wr => ∃ k : Nat, k ≤ most ∧ t = .int .i64 (k + 1 : Nat) ∧ Below w.heap.size w wr ∧ Row wr w.heap.size 102 (wayCells (waysK l most k))) (fun t _ => most + 1 - (intOf t).toNat)
  case atStart =>
    refine ⟨0, Nat.zero_le _, rfl, (Below.refl _ _).alloc (Nat.le_refl _) _, ?_⟩
    have := Hst.out
    rwa [World.setCell_alloc_new] at this
  case round =>
    obtain ⟨k, hk, rfl, hbel, hrow⟩ := hrel
    obtain ⟨wo, rfl⟩ : ∃ wo : World, wo = wr := ⟨_, rfl⟩
    by_cases hlt : k < most
    · have hle : ((k + 1 : Nat) : Int) ≤ (most : Int) := by omega
      have hno : ¬ (most : Int) < ((k + 1 : Nat) : Int) := by omega
      go_wp2_with fail
      have Hrow := Lib.hid hrow
      clear hrow
      go_loopw [7, 8, 9, 23] (fun _ _ _ i wr => ∃ j : Nat, j ≤ l.length ∧ i = .int .i64 j ∧ Below w.heap.size w wr ∧ Row wr w.heap.size 102 (wayCells (rowB (k + 1) (l.take j) 0 (waysK l most k)))) (fun _ _ _ i _ => l.length - (intOf i).toNat)
      case atStart => exact ⟨0, Nat.zero_le _, rfl, hbel, by simpa [rowB] using Hrow.out⟩
      case round =>
        obtain ⟨j, hj, rfl, hbel', hrow⟩ := hrel
        by_cases hjl : j < l.length
        · have hjl' : (j : Int) < (l.length : Int) := by omega
          obtain ⟨bb, bo, rfl, hbb, hbt, hbp⟩ := (hr.below (hbel'.mono hB)).at2 hjl
          have hp1 := hpos j hjl
          have Hsucc := Lib.hid (rowB_succ (k + 1) l j hjl (waysK l most k))
          have hlen : (rowB (k + 1) (l.take j) 0 (waysK l most k)).length = most + 1 := by rw [rowB_length, waysK_length]
          generalize hws : rowB (k + 1) (l.take j) 0 (waysK l most k) = ws at *
          generalize hb : getb l j = b at *
          clear hb hws
          have hlw := hrow.lt
          have hfz := hrow.frozen
          have hbw : bb < wr.heap.size := by have := hbel'.size; omega
          obtain ⟨bt, bp⟩ := b
          dsimp only at *
          obtain ⟨tk, rfl⟩ := Int.eq_ofNat_of_zero_le (show 0 ≤ bt by omega)
          by_cases hbig : k + 1 < tk
          · have hbig' : ((k + 1 : Nat) : Int) < (tk : Int) := by omega
            have ht : Hid (tryB ws (k + 1) j ⟨tk, bp⟩ = ws) := by show _ = _; simp [tryB]; intro h1; omega
            have hbig2 : (k : Int) + 1 < (tk : Int) := by omega
            go_wp2_with fail
            go_roundw
            case rel => exact ⟨j + 1, by omega, by go_num, hbel'.alloc hbel'.size _, by rw [Hsucc.out, ht.out]; exact hrow.alloc _⟩
            case measure => simp [intOf]; omega
          · have hn1 : ¬ (k : Int) + 1 < (tk : Int) := by omega
            obtain ⟨c0, c1, c2⟩ := getw_of hrow (k := k + 1 - tk) (by rw [hlen]; omega)
            obtain ⟨d0, d1, d2⟩ := getw_of hrow (k := k + 1) (by rw [hlen]; omega)
            have hx1 : 0 ≤ (k : Int) + 1 - tk := by omega
            have hx2 : (k : Int) + 1 - tk < (most : Int) + 1 := by omega
            have HL := Lib.hid hlen
            clear hlen
            cases hcan : (getw ws (k + 1 - tk)).can with
            | false =>
              rw [hcan] at c0
              have ht : Hid (tryB ws (k + 1) j ⟨tk, bp⟩ = ws) := by show _ = _; simp [tryB, hcan]
              clear hcan
              go_wp2_with fail
              go_roundw
              case rel => exact ⟨j + 1, by omega, by go_num, by repeat (first | (with_reducible exact hbel') | (with_reducible refine below_drewN ?_ _) | (with_reducible refine Below.alloc ?_ (by first | exact hbel'.size | (simp; have := hbel'.size; omega)) _) | (with_reducible refine Below.setCell ?_ (by simp) _)), by rw [Hsucc.out, ht.out]; repeat (first | (with_reducible exact hrow) | (with_reducible refine Row.drewN ?_ _) | (with_reducible refine Row.alloc ?_ _))⟩
              case measure => simp [intOf]; omega
            | true =>
              rw [hcan] at c0
              have hpr : Hid (tryB ws (k + 1) j ⟨tk, bp⟩ = if !(getw ws (k + 1)).can || decide (wrap64 ((getw ws (k + 1 - tk)).price + bp) < (getw ws (k + 1)).price) then ws.set (k + 1) ⟨true, wrap64 ((getw ws (k + 1 - tk)).price + bp), j⟩ else ws) := by
                show _ = _
                simp only [tryB, Int.toNat_natCast, hcan, Bool.not_true, Bool.or_false, decide_eq_true_eq]
                rw [if_neg (by omega)]
              clear hcan
              cases hT : (getw ws (k + 1)).can with
              | false =>
                rw [hT] at d0
                have ht : Hid (tryB ws (k + 1) j ⟨tk, bp⟩ = ws.set (k + 1) ⟨true, wrap64 ((getw ws (k + 1 - tk)).price + bp), j⟩) := by show _ = _; rw [hpr.out, hT]; simp
                clear hT
                go_wp2_with fail
                go_quiet (fail)
                go_wp2_with fail
                go_roundw
                case rel => exact ⟨j + 1, by omega, by go_num, by repeat (first | (with_reducible exact hbel') | (with_reducible refine below_drewN ?_ _) | (with_reducible refine Below.alloc ?_ (by first | exact hbel'.size | (simp; have := hbel'.size; omega)) _) | (with_reducible refine Below.setCell ?_ (by simp) _)), by rw [Hsucc.out, ht.out, ← wayCells_set ws (k + 1) (by rw [HL.out]; omega)]; exact ((((hrow.alloc _).drewN _).set _ _).set _ _).set _ _⟩
                case measure => simp [intOf]; omega
              | true =>
                rw [hT] at d0
                by_cases hless : wrap64 ((getw ws (k + 1 - tk)).price + bp) < (getw ws (k + 1)).price
                · have ht : Hid (tryB ws (k + 1) j ⟨tk, bp⟩ = ws.set (k + 1) ⟨true, wrap64 ((getw ws (k + 1 - tk)).price + bp), j⟩) := by show _ = _; rw [hpr.out, hT]; simp [hless]
                  clear hT
                  go_wp2_with fail
                  go_quiet (fail)
                  go_wp2_with fail
                  go_roundw
                  case rel => exact ⟨j + 1, by omega, by go_num, by repeat (first | (with_reducible exact hbel') | (with_reducible refine below_drewN ?_ _) | (with_reducible refine Below.alloc ?_ (by first | exact hbel'.size | (simp; have := hbel'.size; omega)) _) | (with_reducible refine Below.setCell ?_ (by simp) _)), by rw [Hsucc.out, ht.out, ← wayCells_set ws (k + 1) (by rw [HL.out]; omega)]; exact ((((hrow.alloc _).drewN _).set _ _).set _ _).set _ _⟩
                  case measure => simp [intOf]; omega
                · have ht : Hid (tryB ws (k + 1) j ⟨tk, bp⟩ = ws) := by show _ = _; rw [hpr.out, hT]; simp [hless]
                  clear hT
                  go_wp2_with fail
                  go_quiet (fail)
                  go_wp2_with fail
                  go_roundw
                  case rel => exact ⟨j + 1, by omega, by go_num, by repeat (first | (with_reducible exact hbel') | (with_reducible refine below_drewN ?_ _) | (with_reducible refine Below.alloc ?_ (by first | exact hbel'.size | (simp; have := hbel'.size; omega)) _) | (with_reducible refine Below.setCell ?_ (by simp) _)), by rw [Hsucc.out, ht.out]; exact (hrow.alloc _).drewN _⟩
                  case measure => simp [intOf]; omega
        · have hjl' : ¬ (j : Int) < (l.length : Int) := by omega
          have ej : j = l.length := by omega
          have Hj := Lib.hid ej
          clear ej
          go_wp2_with fail
          go_roundw
          case rel => exact ⟨k + 1, by omega, by go_num, hbel', by have := hrow; rw [Hj.out, List.take_length] at this; exact this⟩
          case measure => simp [intOf]; omega
    · have hle : ¬ ((k + 1 : Nat) : Int) ≤ (most : Int) := by omega
      have hno : (most : Int) < ((k + 1 : Nat) : Int) := by omega
      have ek : k = most := by omega
      subst ek
      go_wp2_with fail
      go_ret
      exact ⟨w.heap.size, hbel, Nat.le_refl _, hrow, rfl⟩
end Go.Proofs.Ytpcceankhgjjmaa
