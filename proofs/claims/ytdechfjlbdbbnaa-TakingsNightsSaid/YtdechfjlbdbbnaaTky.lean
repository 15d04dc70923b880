/- Contracts of the specification's weighted, Split and Claims. Conditions: numbers that read as data. -/
import Derived.Test.YtdechfjlbdbbnaaTkx
namespace Go.Proofs.Ytdechfjlbdbbnaa
open Go.RowKit Go.Shelf

set_option maxHeartbeats 1000000 in
set_option maxRecDepth 100000 in
theorem weighted_any (ws : List Int) (A : Option Addr) (ca B : Nat) (w : World) (hB : B ≤ w.heap.size) (hr : Reads w B 1 A ws.length (ws.map (Value.int .i64))) (hm : ws.length ≤ maxLen) :
    Calls Try.prog 42 #[.slice A ws.length ca] w fun e w' => e = .returned (.bool (wOk ws)) ∧ w = w' := by
  have HV : Hid (wOk ws = (inB ws.length 1 10 && allB ws 0 1000 && decide (0 < sumW ws))) := rfl
  have HL : Hid (∀ X, Calls Try.prog 48 #[.int .i64 (ws.length : Int), .int .i64 1, .int .i64 10] X fun e w' => e = .returned (.bool (inB ws.length 1 10)) ∧ X = w') := fun X => (rwithin_any _ _ _ X).mono fun e w' h => ⟨h.1, h.2.symm⟩
  have hrd := Lib.hid hr
  unfold maxLen at hm
  clear hr
  go_enter Try.func42, Try.ntmps42
  go_wp2_with fail
  go_loop [3, 4] (fun s i => ∃ k : Nat, k ≤ ws.length ∧ i = .int .i64 k ∧ s = .int .i64 (sumW (ws.take k)) ∧ Hid (allB (ws.take k) 0 1000 = true)) (fun _ i => ws.length - (intOf i).toNat)
  case atStart => exact ⟨0, Nat.zero_le _, rfl, rfl, rfl⟩
  case round =>
    obtain ⟨k, hk, rfl, rfl, Hall⟩ := hrel
    by_cases hlt : k < ws.length
    · have i1 : (k : Int) < (ws.length : Int) := by omega
      have i0 : ¬ (k : Int) < 0 := by omega
      have ew : IntKind.i64.wrap ((k : Int) + 1) = (k : Int) + 1 := IntWalk.i64_in _ (by omega)
      obtain ⟨b, o, rfl, hb, hc⟩ := hrd.out.at1 hlt
      have cw := hc k hlt
      have lb : b < w.heap.size := by omega
      have Hsn := Lib.hid (sumW_snocT ws k hlt)
      have Han : Hid (allB (ws.take (k + 1)) 0 1000 = (allB (ws.take k) 0 1000 && inB (ws[k]?.getD 0) 0 1000)) := allT_snoc ws k 0 1000 hlt
      have Hno := Lib.hid (allT_out ws k 0 1000 hlt)
      have HW : Hid (∀ X, Calls Try.prog 48 #[.int .i64 (ws[k]?.getD 0), .int .i64 0, .int .i64 1000] X fun e w' => e = .returned (.bool (inB (ws[k]?.getD 0) 0 1000)) ∧ X = w') := fun X => (rwithin_any _ _ _ X).mono fun e w' h => ⟨h.1, h.2.symm⟩
      generalize ws[k]?.getD 0 = x at cw Hsn Han Hno HW
      clear hc
      cases hin : inB x 0 1000 with
      | false =>
        have HN := Lib.hid (Hno.out hin)
        rw [hin] at HW
        clear hin Hno Han
        go_wp2_with (go_at_call 48; refine (HW.out _).mono ?_; rintro e w' ⟨rfl, rfl⟩)
        go_ret
        exact ⟨ret_boolT (by rw [HV.out, HN.out]; simp), rfl⟩
      | true =>
        rw [hin] at HW Han
        clear hin Hno
        go_wp2_with (go_at_call 48; refine (HW.out _).mono ?_; rintro e w' ⟨rfl, rfl⟩)
        refine ⟨⟨k + 1, by omega, by go_num, by rw [Hsn.out], by show _ = _; rw [Han.out, Hall.out]; rfl⟩, by simp [intOf]; omega⟩
    · have ek : k = ws.length := by omega
      have hge : ¬ (k : Int) < (ws.length : Int) := by omega
      have HS : Hid (sumW (ws.take k) = sumW ws) := by show _ = _; rw [ek, List.take_length]
      have HA : Hid (allB ws 0 1000 = true) := by have := Hall.out; rw [ek, List.take_length] at this; exact this
      clear ek
      cases hin : inB (ws.length : Int) 1 10 with
      | false =>
        rw [hin] at HL HV
        clear hin
        go_wp2_with (go_at_call 48; refine (HL.out _).mono ?_; rintro e w' ⟨rfl, rfl⟩)
        go_ret
        exact ⟨ret_boolT (by rw [HV.out]; rfl), rfl⟩
      | true =>
        rw [hin] at HL HV
        clear hin
        go_wp2_with (go_at_call 48; refine (HL.out _).mono ?_; rintro e w' ⟨rfl, rfl⟩)
        go_ret
        exact ⟨ret_boolT (by rw [HV.out, HA.out, ← HS.out]; simp), rfl⟩
set_option maxHeartbeats 1000000 in
set_option maxRecDepth 100000 in
theorem rSplit_any (c : Int) (ws : List Int) (A : Option Addr) (ca B : Nat) (w : World) (hB : B ≤ w.heap.size) (hr : Reads w B 1 A ws.length (ws.map (Value.int .i64))) (hm : ws.length ≤ maxLen) :
    Calls Try.prog 16 #[.int .i64 c, .slice A ws.length ca] w (TkTo w (splR c ws).1 (splR c ws).2) := by
  have HA : Hid (∀ X, Calls Try.prog 41 #[.int .i64 c] X fun e w' => e = .returned (.bool (inB c 0 1000000000)) ∧ X = w') := fun X => (ramount_any _ X).mono fun e w' h => ⟨h.1, h.2.symm⟩
  have H2 := Lib.hid (weighted_any ws A ca B w hB hr hm)
  have H3 : Hid (WOk ws → 0 ≤ c → c ≤ 1000000000 → Calls Try.prog 43 #[.int .i64 c, .slice A ws.length ca] w fun e w' => ∃ g ca', e = .returned (.slice (some ⟨g, 0, none⟩) ws.length ca') ∧ w.heap.size ≤ g ∧ Row w' g 3 ((splitZ c ws).map (Value.int .i64)) ∧ Below w.heap.size w w') :=
    fun h h0 h1 => rsplit_any c ws h h0 h1 A ca B w hB hr
  have HV : Hid (splR c ws = if inB c 0 1000000000 = false then ([], 1) else if wOk ws = false then ([], 110) else (splitZ c ws, 0)) := rfl
  clear hr hm
  cases h1 : inB c 0 1000000000 with
  | false =>
    rw [h1] at HA HV
    rw [show splR c ws = ([], 1) from HV.out]
    go_enter Try.func16, Try.ntmps16
    go_wp2_with (go_at_call 41; refine (HA.out _).mono ?_; rintro e w' ⟨rfl, rfl⟩)
    go_ret2
    exact ⟨none, 0, rfl, Reads.none_, Below.refl _ _⟩
  | true =>
    have hc := inB_le h1
    rw [h1] at HA HV
    cases h2 : wOk ws with
    | false =>
      rw [h2] at H2 HV
      rw [show splR c ws = ([], 110) from HV.out]
      go_enter Try.func16, Try.ntmps16
      go_wp2_with (first | (go_at_call 41; refine (HA.out _).mono ?_; rintro e w' ⟨rfl, rfl⟩) | (go_at_call 42; refine H2.out.mono ?_; rintro e w' ⟨rfl, rfl⟩))
      go_ret2
      exact ⟨none, 0, rfl, Reads.none_, Below.refl _ _⟩
    | true =>
      have H4 := Lib.hid (H3.out (wOk_of h2) hc.1 hc.2)
      rw [h2] at H2 HV
      rw [show splR c ws = (splitZ c ws, 0) from HV.out]
      clear H3 h1 h2 hc HV
      go_enter Try.func16, Try.ntmps16
      go_wp2_with (first | (go_at_call 41; refine (HA.out _).mono ?_; rintro e w' ⟨rfl, rfl⟩) | (go_at_call 42; refine H2.out.mono ?_; rintro e w' ⟨rfl, rfl⟩) | (go_at_call 43; refine H4.out.mono ?_; rintro e Y ⟨g, ca', rfl, hg, hrow, hY⟩; have HY := Lib.hid hY; have HRW := Lib.hid hrow; clear hY H4 hrow))
      go_ret2
      exact ⟨some ⟨g, 0, none⟩, ca', by simp only [splitZ_len]; rfl, HRW.out.reads (by simp) HRW.out.lt, HY.out⟩
set_option maxHeartbeats 4000000 in
set_option maxRecDepth 100000 in
theorem rClaims_any (c : Int) (cl ws : List Int) (A A2 : Option Addr) (ca c2 B : Nat) (w : World) (hB : B ≤ w.heap.size) (hr : Reads w B 1 A cl.length (cl.map (Value.int .i64))) (hm : cl.length ≤ maxLen) (hr2 : Reads w B 1 A2 ws.length (ws.map (Value.int .i64))) (hm2 : ws.length ≤ maxLen) :
    Calls Try.prog 19 #[.int .i64 c, .slice A cl.length ca, .slice A2 ws.length c2] w (TkTo2 w (clmR c cl ws).1 (clmR c cl ws).2.1 (clmR c cl ws).2.2) := by
  obtain ⟨i0, hi, hz0, hz1, hz2⟩ := info_parts Try.info_intT
  have HV : Hid (clmR c cl ws = if clmB c cl = false then ([], [], 1) else if wOk ws = false then ([], [], 110) else (paidL c cl, splitZ (remZ c cl cl.length) ws, 0)) := rfl
  have HVB : Hid (clmB c cl = (inB c 0 1000000000 && decide (cl.length ≤ 10) && allB cl 0 1000000000)) := rfl
  have HA : Hid (∀ x X, Calls Try.prog 41 #[.int .i64 x] X fun e w' => e = .returned (.bool (inB x 0 1000000000)) ∧ X = w') := fun x X => (ramount_any _ X).mono fun e w' h => ⟨h.1, h.2.symm⟩
  have H2 := Lib.hid (weighted_any ws A2 c2 B w hB hr2 hm2)
  have hrd := Lib.hid hr
  have hrd2 := Lib.hid hr2
  unfold maxLen at hm
  clear hr hr2
  have HAc := Lib.hid (HA.out c)
  by_cases h1 : inB c 0 1000000000 = false
  · rw [show clmR c cl ws = ([], [], 1) by rw [HV.out, if_pos (by rw [HVB.out, h1]; rfl)]]
    rw [h1] at HAc
    go_enter Try.func19, Try.ntmps19
    go_wp2_with (go_at_call 41; refine (HAc.out _).mono ?_; rintro e w' ⟨rfl, rfl⟩)
    go_ret3
    exact ⟨none, 0, none, 0, rfl, Reads.none_, Reads.none_, Below.refl _ _⟩
  have h1t : inB c 0 1000000000 = true := by simpa using h1
  have hc := inB_le h1t
  rw [h1t] at HAc HVB
  by_cases h11 : 10 < cl.length
  · rw [show clmR c cl ws = ([], [], 1) by rw [HV.out, if_pos (by rw [HVB.out]; simp; omega)]]
    have hz : (10 : Int) < (cl.length : Int) := by omega
    go_enter Try.func19, Try.ntmps19
    go_wp2_with (go_at_call 41; refine (HAc.out _).mono ?_; rintro e w' ⟨rfl, rfl⟩)
    go_ret3
    exact ⟨none, 0, none, 0, rfl, Reads.none_, Reads.none_, Below.refl _ _⟩
  have h10 : cl.length ≤ 10 := by omega
  have hz : ¬ (10 : Int) < (cl.length : Int) := by omega
  rw [decide_eq_true h10] at HVB
  generalize clmR c cl ws = R at HV ⊢
  go_enter Try.func19, Try.ntmps19
  go_upto_region 3 with (go_at_call 41; refine (HAc.out _).mono ?_; rintro e w' ⟨rfl, rfl⟩)
  clear h1 h1t HAc
  go_wp2_with fail
  go_loop [9] (fun i => ∃ k : Nat, k ≤ cl.length ∧ i = .int .i64 k ∧ Hid (allB (cl.take k) 0 1000000000 = true)) (fun i => cl.length - (intOf i).toNat)
  case atStart => exact ⟨0, Nat.zero_le _, rfl, rfl⟩
  case round =>
    obtain ⟨k, hk, rfl, Hall⟩ := hrel
    by_cases hlt : k < cl.length
    · have i1 : (k : Int) < (cl.length : Int) := by omega
      have i0' : ¬ (k : Int) < 0 := by omega
      have ew : IntKind.i64.wrap ((k : Int) + 1) = (k : Int) + 1 := IntWalk.i64_in _ (by omega)
      obtain ⟨b, o, rfl, hb, hcc⟩ := hrd.out.at1 hlt
      have cw := hcc k hlt
      have lb : b < w.heap.size := by omega
      have Han : Hid (allB (cl.take (k + 1)) 0 1000000000 = (allB (cl.take k) 0 1000000000 && inB (cl[k]?.getD 0) 0 1000000000)) := allT_snoc cl k 0 1000000000 hlt
      have Hno := Lib.hid (allT_out cl k 0 1000000000 hlt)
      have HAx := Lib.hid (HA.out (cl[k]?.getD 0))
      generalize cl[k]?.getD 0 = x at cw Han Hno HAx
      clear hcc
      cases hin : inB x 0 1000000000 with
      | false =>
        have HN := Lib.hid (Hno.out hin)
        rw [hin] at HAx
        clear hin Hno Han
        have HR : Hid (R = ([], [], 1)) := by show _ = _; rw [HV.out, if_pos (by rw [HVB.out, HN.out]; rfl)]
        go_wp2_with (go_at_call 41; refine (HAx.out _).mono ?_; rintro e w' ⟨rfl, rfl⟩)
        go_ret3
        rw [HR.out]
        exact ⟨none, 0, none, 0, rfl, Reads.none_, Reads.none_, Below.refl _ _⟩
      | true =>
        rw [hin] at HAx Han
        clear hin Hno
        go_wp2_with (go_at_call 41; refine (HAx.out _).mono ?_; rintro e w' ⟨rfl, rfl⟩)
        refine ⟨⟨k + 1, by omega, by go_num, by show _ = _; rw [Han.out, Hall.out]; rfl⟩, by simp [intOf]; omega⟩
    · have ek : k = cl.length := by omega
      have hge : ¬ (k : Int) < (cl.length : Int) := by omega
      have hall : allB cl 0 1000000000 = true := by have := Hall.out; rw [ek, List.take_length] at this; exact this
      rw [hall] at HVB
      clear ek
      have hb : ¬ clmB c cl = false := by rw [HVB.out]; simp
      rw [if_neg hb] at HV
      have HL := Lib.hid (fun i hi => allB_at (i := i) hall hi)
      by_cases hw : wOk ws = false
      · rw [if_pos hw] at HV
        rw [hw] at H2
        clear hw
        go_wp2_with (go_at_call 42; refine H2.out.mono ?_; rintro e w' ⟨rfl, rfl⟩)
        go_ret3
        rw [HV.out]
        exact ⟨none, 0, none, 0, rfl, Reads.none_, Reads.none_, Below.refl _ _⟩
      rw [if_neg hw] at HV
      have hwt : wOk ws = true := by simpa using hw
      have hok := wOk_of hwt
      rw [hwt] at H2
      have HRb := Lib.hid (rem_bd hc.1 (fun i hi => (HL.out i hi).1))
      have hrb := HRb.out cl.length (Nat.le_refl _)
      have HSp : Hid (∀ X, Below w.heap.size w X → Calls Try.prog 43 #[.int .i64 (remZ c cl cl.length), .slice A2 ws.length c2] X fun e w' => ∃ g ca', e = .returned (.slice (some ⟨g, 0, none⟩) ws.length ca') ∧ X.heap.size ≤ g ∧ Row w' g 3 ((splitZ (remZ c cl cl.length) ws).map (Value.int .i64)) ∧ Below X.heap.size X w') := fun X hX => rsplit_any _ ws hok hrb.1 (by omega) A2 c2 B X (Nat.le_trans hB hX.size) (hrd2.out.below (hX.mono hB))
      have HL1 := Lib.hid (paidL_len c cl)
      have HL2 := Lib.hid (splitZ_ln (remZ c cl cl.length) ws)
      have HCb := Lib.hid hc
      clear hw hwt hok hrb hb hall Hall HVB
      go_upto_region 11 with (go_at_call 42; refine H2.out.mono ?_; rintro e w' ⟨rfl, rfl⟩)
      go_wp2_with fail
      go_loopw [0, 10, 11] (fun cv v i wr => ∃ k : Nat, k ≤ cl.length ∧ i = .int .i64 k ∧ cv = .int .i64 (remZ c cl k) ∧ wr.ownsRow w.heap.size 3 1 v k ((paidK c cl k).map (Value.int .i64)) ∧ Below w.heap.size w wr) (fun _ _ i _ => cl.length - (intOf i).toNat)
      case atStart => exact ⟨0, Nat.zero_le _, rfl, rfl, owns_nil _ _ _ _, Below.refl _ _⟩
      case round =>
        obtain ⟨k, hk, rfl, rfl, hown, hbel⟩ := hrel
        by_cases hlt : k < cl.length
        · have hlt' : (k : Int) < (cl.length : Int) := by omega
          have i0' : ¬ (k : Int) < 0 := by omega
          obtain ⟨b, o, rfl, hbB, hc2⟩ := hrd.out.at1 hlt
          have hck := hc2 k hlt
          have lb : b < w.heap.size := by omega
          have cw : wr.cell? ⟨b, o + k, none⟩ = some (.int .i64 (wAt cl k)) := by rw [hbel.cell (p := ⟨b, o + k, none⟩) lb]; exact hck
          have lbr : b < wr.heap.size := Nat.lt_of_lt_of_le lb hbel.size
          have ew : IntKind.i64.wrap ((k : Int) + 1) = (k : Int) + 1 := IntWalk.i64_in _ (by omega)
          have Hsn := Lib.hid (paidK_snoc c cl k)
          have hs := hbel.size
          have Hbe := Lib.hid hbel
          have hrb := HRb.out k (by omega)
          have HR1 : Hid (remZ c cl (k + 1) = remZ c cl k - min (wAt cl k) (remZ c cl k)) := rfl
          have hx0 := (HL.out k hlt).1
          have hcb := HCb.out
          have m1 : k + 1 ≤ maxLen := by unfold maxLen; omega
          have m2 : (k + 1) * 8 ≤ 140737488355328 := by omega
          clear hc2 hck hbel
          generalize remZ c cl k = r at hrb HR1 Hsn
          generalize wAt cl k = x at cw Hsn HR1 hx0
          have ews : IntKind.i64.wrap (r - min x r) = r - min x r := IntWalk.i64_in _ (by omega)
          clear hrb hx0 hcb
          go_wp2_with (at_builtin; refine wpList_app _ rfl _ _ 22 rfl w.heap.size 3 i0 (.int .i64 0) 1 8 Try.underlying22 hi hz0 hz1 hz2 rfl (by decide) u10 k ((paidK c cl k).map (Value.int .i64)) rfl ?qo (wr.heap.size + 1) (some ⟨wr.heap.size, 0, none⟩) 1 1 [.int .i64 (min x r)] rfl ?qr ?q1 m1 m2 ?qb ?_)
          case qo => first | exact owns_alloc hown _ | exact owns_alloc (owns_drewN hown _) _ | exact owns_drewN (owns_alloc hown _) _
          case qr =>
            refine Row.reads (t := 3) ?_ rfl (by simp)
            exact Row.new wr 3 #[.int .i64 (min x r)]
          case q1 => first | rfl | (intro u hu; simp at hu; subst hu; rfl)
          case qb => first | omega | (simp; omega)
          intro v' w1 hown' hbel'
          go_wp2_with fail
          go_roundw
          case rel =>
            refine ⟨k + 1, by omega, by go_num, by rw [HR1.out], by rw [Hsn.out]; exact hown', Below.trans ?_ hbel'⟩
            repeat (first | (with_reducible exact Hbe.out) | (with_reducible exact hs) | (with_reducible refine below_drewN ?_ _) | (with_reducible refine Below.alloc ?_ ?_ _) | (simp; omega))
          case measure => simp [intOf]; omega
        · have ek : k = cl.length := by omega
          obtain ⟨A', c', hv, hrd'⟩ := nown_rdT hown
          subst hv
          rw [ek] at hrd'
          have HRd := Lib.hid hrd'
          have Hbe := Lib.hid hbel
          have Hk := Lib.hid ek
          have hge : ¬ (k : Int) < (cl.length : Int) := by omega
          have HSq := HSp.out wr hbel
          rw [← ek] at HSq
          have HSQ := Lib.hid HSq
          clear hrd' hbel hown ek HSq
          go_wp2_with (go_at_call 43; refine HSQ.out.mono ?_; rintro e Z ⟨g, c4, rfl, hg, hrow, hZ⟩; have HZ := Lib.hid (Hbe.out.trans (hZ.mono Hbe.out.size)); have HRW := Lib.hid hrow; have HR4 := Lib.hid ((HRd.out.below hZ).more hZ.size); clear hZ hrow HSp HSQ)
          go_ret3
          rw [HV.out]
          refine ⟨A', c', some ⟨g, 0, none⟩, c4, ?_, ?_, ?_, HZ.out⟩
          · simp only [HL1.out, HL2.out]; rw [← Hk.out]; rfl
          · simp only [HL1.out]; exact HR4.out
          · rw [← Hk.out]; exact HRW.out.reads (by simp) HRW.out.lt
end Go.Proofs.Ytdechfjlbdbbnaa
