/- Contract of cheapest. Conditions: the bundles read as data; the ways that purchases finds are as the plain lemmas say. -/
import Derived.Test.YtpcceankhgjjmaaWq
namespace Go.Proofs.Ytpcceankhgjjmaa
open Go.RowKit

structure WaysOk (l : List Bundle) (ws : List Way) (top : Nat) : Prop where
  len : ws.length = top + 1
  step : ∀ t, 0 < t → t ≤ top → (getw ws t).can = true → ∃ i tok : Nat, i < l.length ∧ (getw ws t).bundle = i ∧ (getb l i).tokens = tok ∧ 1 ≤ tok ∧ tok ≤ t ∧ (getw ws (t - tok)).can = true

def CRet (w : World) (l : List Bundle) (n : Nat) (e : Ending) (w' : World) : Prop :=
  ∃ gc, Below w.heap.size w w' ∧ w.heap.size ≤ gc ∧ Row w' gc 3 (intCells (cheapS l n).1) ∧ e = .returned (.tuple #[.slice (some ⟨gc, 0, none⟩) l.length l.length, .int .i64 (cheapS l n).2])

theorem bestK_le (ws : List Way) (n : Nat) : ∀ k, bestK ws n k ≤ n + k ∧ (k ≠ 0 → bestK ws n k < n + k) := by
  intro k
  induction k with
  | zero => exact ⟨Nat.le_refl _, fun h => absurd rfl h⟩
  | succ k ih =>
    simp only [bestK]
    split
    · exact ⟨by omega, fun _ => by omega⟩
    · exact ⟨by omega, fun _ => by omega⟩
theorem traceB_length (l : List Bundle) (ws : List Way) : ∀ f t cs, (traceB l ws f t cs).length = cs.length := by
  intro f
  induction f with
  | zero => intro t cs; rfl
  | succ f ih =>
    intro t cs
    simp only [traceB]
    split
    · rw [ih]; simp [addi]
    · rfl

set_option maxHeartbeats 2000000 in
set_option maxRecDepth 100000 in
theorem cheapest_any (l : List Bundle) (A : Option Addr) (c B : Nat) (n : Nat) (w : World) (hB : B ≤ w.heap.size) (hr : Reads w B 2 A l.length (bundleCells l)) (hm : n ≤ 1000) (hn : l.length ≤ 6) (hpos : ∀ k, k < l.length → 1 ≤ (getb l k).tokens)
    (hok : WaysOk l (waysK l (n + 999) (n + 999)) (n + 999)) (hbest : (getw (waysK l (n + 999) (n + 999)) (bestK (waysK l (n + 999) (n + 999)) n 1000)).can = true) :
    Calls Try.prog 60 #[.slice A l.length c, .int .i64 n] w (CRet w l n) := by
  have Hch : Hid (cheapS l n = (traceB l (waysK l (n + 999) (n + 999)) (bestK (waysK l (n + 999) (n + 999)) n 1000 + 1) (bestK (waysK l (n + 999) (n + 999)) n 1000) (List.replicate l.length 0), (getw (waysK l (n + 999) (n + 999)) (bestK (waysK l (n + 999) (n + 999)) n 1000)).price)) := by show _ = _; rfl
  have hpu := purchases_any l A c B (n + 999) w hB hr (by omega) hn hpos
  have e1 : ((n + 999 : Nat) : Int) = (n : Int) + 1000 - 1 := by omega
  rw [e1] at hpu
  clear e1
  have Hpu := Lib.hid hpu
  clear hpu
  generalize hws : waysK l (n + 999) (n + 999) = ws at *
  have Hws := Lib.hid hws
  clear hws
  obtain ⟨i0, hi, hz0, hz1, hz2⟩ := info_parts Try.info_int
  have hmk := fun W => run_make_rowN (P := Try.prog) 22 3 i0 _ Try.underlying22 hi hz0 .i64 .i64 l.length l.length (Nat.le_refl _) (by rw [hz2]; omega) (by omega) W
  rw [hz1] at hmk
  simp only [Nat.mul_one] at hmk
  go_enter Try.func60, Try.ntmps60
  go_wp2_with fail
  refine Hpu.out.mono ?_
  rintro e w1 ⟨g, hb1, hg, hrow, rfl⟩
  rw [Hws.out] at hrow
  have Hmk := Lib.hid hmk
  clear hmk
  go_wp2_with fail
  go_loopw [7, 8] (fun be t wr => ∃ k : Nat, k ≤ 1000 ∧ be = .int .i64 (bestK ws n k : Nat) ∧ t = .int .i64 (n + k : Nat) ∧ Below w.heap.size w wr ∧ Row wr g 102 (wayCells ws)) (fun _ t _ => n + 1000 - (intOf t).toNat)
  case atStart => exact ⟨0, Nat.zero_le _, rfl, rfl, hb1, hrow⟩
  case round =>
    obtain ⟨k, hk, rfl, rfl, hbel, hrw⟩ := hrel
    have hlw := hrw.lt
    have hlen := hok.len
    have hbl := bestK_le ws n k
    by_cases hlt : k < 1000
    · obtain ⟨c0, c1, c2⟩ := getw_of hrw (k := n + k) (by rw [hlen]; omega)
      obtain ⟨d0, d1, d2⟩ := getw_of hrw (k := bestK ws n k) (by rw [hlen]; omega)
      have hbk : bestK ws n (k + 1) = if (getw ws (n + k)).can && (!(getw ws (bestK ws n k)).can || decide ((getw ws (n + k)).price < (getw ws (bestK ws n k)).price)) then n + k else bestK ws n k := rfl
      have hbl1 : bestK ws n k ≤ n + k := hbl.1
      generalize bestK ws n k = b at *
      have x1 : (b : Int) < (n : Int) + 1000 := by omega
      have x2 : (n : Int) + k < (n : Int) + 1000 := by omega
      have x3 : 0 ≤ (n : Int) + k := by omega
      have HL := Lib.hid hlen
      clear hlen hbl
      cases hc : (getw ws (n + k)).can with
      | false =>
        rw [hc] at c0 hbk
        clear hc
        have hb' : Hid (bestK ws n (k + 1) = b) := by show _ = _; rw [hbk]; simp
        clear hbk
        go_wp2_with fail
        go_quiet (fail)
        go_wp2_with fail
        go_roundw
        case rel => exact ⟨k + 1, by omega, by rw [hb'.out], by go_num, below_drewN hbel _, hrw.drewN _⟩
        case measure => simp [intOf]; omega
      | true =>
        rw [hc] at c0 hbk
        clear hc
        cases hd : (getw ws b).can with
        | false =>
          rw [hd] at d0 hbk
          clear hd
          have hb' : Hid (bestK ws n (k + 1) = n + k) := by show _ = _; rw [hbk]; simp
          clear hbk
          go_wp2_with fail
          go_quiet (fail)
          go_wp2_with fail
          go_roundw
          case rel => exact ⟨k + 1, by omega, by rw [hb'.out], by go_num, below_drewN hbel _, hrw.drewN _⟩
          case measure => simp [intOf]; omega
        | true =>
          rw [hd] at d0 hbk
          clear hd
          by_cases hless : (getw ws (n + k)).price < (getw ws b).price
          · have hl1 : decide ((getw ws (n + k)).price < (getw ws b).price) = true := by simpa using hless
            have hb' : Hid (bestK ws n (k + 1) = n + k) := by show _ = _; rw [hbk]; simp [hless]
            clear hbk
            go_wp2_with fail
            go_quiet (fail)
            go_wp2_with fail
            go_roundw
            case rel => exact ⟨k + 1, by omega, by rw [hb'.out], by go_num, below_drewN hbel _, hrw.drewN _⟩
            case measure => simp [intOf]; omega
          · have hl1 : decide ((getw ws (n + k)).price < (getw ws b).price) = false := by simpa using hless
            have hb' : Hid (bestK ws n (k + 1) = b) := by show _ = _; rw [hbk]; simp [hless]
            clear hbk
            go_wp2_with fail
            go_quiet (fail)
            go_wp2_with fail
            go_roundw
            case rel => exact ⟨k + 1, by omega, by rw [hb'.out], by go_num, below_drewN hbel _, hrw.drewN _⟩
            case measure => simp [intOf]; omega
    · have ek : k = 1000 := by omega
      subst ek
      have hbl1 : bestK ws n 1000 ≤ n + 999 := by have := hbl.2 (by omega); omega
      clear hbl hlen
      generalize bestK ws n 1000 = b at *
      have hmk := Hmk.out
      go_wp2_with (fail)
      clear hmk
      have Hbe := Lib.hid hbest
      have Hrw := Lib.hid hrw
      have zs : wr.heap.size + 1 = (wr.alloc (.cells (madeCells #[.int .i64 0] l.length) 3)).heap.size := by simp
      have hz := new_ints wr wr.heap.size l.length rfl
      have hgr := hrw.alloc (.cells (madeCells #[.int .i64 0] l.length) 3)
      have hb2 : Below w.heap.size w (wr.alloc (.cells (madeCells #[.int .i64 0] l.length) 3)) := hbel.alloc hbel.size _
      obtain ⟨gc, hgc⟩ : ∃ gc, gc = wr.heap.size := ⟨_, rfl⟩
      rw [← hgc] at hz ⊢
      have Hne : ¬ g = gc := by omega
      have Hne' : ¬ gc = g := by omega
      have hgcw : w.heap.size ≤ gc := by have := hbel.size; omega
      generalize (wr.alloc (.cells (madeCells #[.int .i64 0] l.length) 3)) = W2 at *
      clear hgc hrw hbest zs hlw hbel
      go_loopw [9, 10] (fun t _ wr => ∃ (m f : Nat) (cs : List Int), t = .int .i64 m ∧ m ≤ b ∧ m < f ∧ (getw ws m).can = true ∧ cs.length = l.length ∧ traceB l ws f m cs = (cheapS l n).1 ∧ Below w.heap.size w wr ∧ Row wr g 102 (wayCells ws) ∧ Row wr gc 3 (intCells cs)) (fun t _ _ => (intOf t).toNat)
      case atStart => exact ⟨b, b + 1, List.replicate l.length 0, rfl, Nat.le_refl _, Nat.lt_succ_self _, Hbe.out, by simp, by rw [Hch.out], hb2, hgr, hz⟩
      case round =>
        obtain ⟨m, f, cs, rfl, hmb, hmf, hcan, hcl, htr, hbz, hgz, hcz⟩ := hrel
        have Htr := Lib.hid htr
        have Hcl := Lib.hid hcl
        clear htr
        by_cases hm0 : 0 < m
        · obtain ⟨i, tok, hi, hbi, htok, ht1, ht2, hcan'⟩ := hok.step m hm0 (by omega) hcan
          obtain ⟨c0, c1, c2⟩ := getw_of hgz (k := m) (by rw [hok.len]; omega)
          obtain ⟨bb, bo, rfl, hbb, hbt, hbp⟩ := (hr.below (hbz.mono hB)).at2 hi
          rw [hbi] at c2
          rw [htok] at hbt
          have hbw : bb < wr.heap.size := by have := hbz.size; omega
          have qc : wr.cell? ⟨gc, i, none⟩ = some (.int .i64 (geti cs i)) := (hcz.cell (by rw [intCells_length, hcl]; exact hi)).trans (intCells_at _ _ (by rw [hcl]; exact hi))
          have fc := hcz.frozen i
          have hgl := hcz.lt
          have hi' : (i : Int) < (l.length : Int) := by omega
          have hm0' : (0 : Int) < (m : Int) := by omega
          have hmn : (m : Int) < (n : Int) + 1000 := by omega
          have hbne : ¬ bb = gc := by omega
          have hbne' : ¬ gc = bb := by omega
          have Hst : Hid (traceB l ws f m cs = traceB l ws (f - 1) ((m - tok : Nat) : Int) (addi cs i 1)) := by
            show _ = _
            obtain ⟨f', rfl⟩ : ∃ f', f = f' + 1 := ⟨f - 1, by omega⟩
            simp only [traceB, if_pos hm0', Int.toNat_natCast, hbi, htok, Nat.add_sub_cancel]
            congr 1
            omega
          have Hbi := Lib.hid hbi
          have Htk := Lib.hid htok
          have Hcan' := Lib.hid hcan'
          clear hbi htok hcl hcan hcan' c0 c1
          go_wp2_with (fail)
          go_roundw
          case rel => exact ⟨m - tok, f - 1, addi cs i 1, by go_num, by omega, by omega, Hcan'.out, by simp [addi]; exact Hcl.out, by rw [← Hst.out]; exact Htr.out, Below.setCell hbz (by dsimp only; omega) _, hgz.far (by simpa using Hne) _, by have := hcz.set i (.int .i64 (wrap64 (geti cs i + 1))); rw [intCells_set] at this; exact this⟩
          case measure => simp [intOf]; omega
        · have em : m = 0 := by omega
          subst em
          obtain ⟨d0, d1, d2⟩ := getw_of hgz (k := b) (by rw [hok.len]; omega)
          have x1 : (b : Int) < (n : Int) + 1000 := by omega
          have hfin : Hid ((cheapS l n).1 = cs) := by
            show _ = _
            rw [← Htr.out]
            obtain ⟨f', rfl⟩ : ∃ f', f = f' + 1 := ⟨f - 1, by omega⟩
            simp [traceB]
          clear hcan hcl
          go_wp2_with (fail)
          go_quiet (fail)
          go_wp2_with (fail)
          go_ret2
          exact ⟨gc, below_drewN hbz _, hgcw, by rw [hfin.out]; exact hcz.drewN _, by rw [Hch.out]; rfl⟩
end Go.Proofs.Ytpcceankhgjjmaa
