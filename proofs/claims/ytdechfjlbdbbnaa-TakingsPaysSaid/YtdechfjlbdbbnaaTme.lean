/- Contracts of the specification's balanced and Pay. Conditions: numbers and payments that read as data. -/
import Derived.Test.YtdechfjlbdbbnaaTmd
import Derived.Test.YtdechfjlbdbbnaaTkq
namespace Go.Proofs.Ytdechfjlbdbbnaa
open Go.RowKit Go.Shelf

set_option maxHeartbeats 1000000 in
set_option maxRecDepth 100000 in
theorem balanced_any (ws : List Int) (A : Option Addr) (ca B : Nat) (w : World) (hB : B ≤ w.heap.size) (hr : Reads w B 1 A ws.length (ws.map (Value.int .i64))) (hm : ws.length ≤ maxLen) :
    Calls Try.prog 56 #[.slice A ws.length ca] w fun e w' => e = .returned (.bool (balB ws)) ∧ w = w' := by
  have HV : Hid (balB ws = (inB ws.length 1 10 && allB ws (-10000000000) 10000000000)) := rfl
  have HL : Hid (∀ X, Calls Try.prog 48 #[.int .i64 (ws.length : Int), .int .i64 1, .int .i64 10] X fun e w' => e = .returned (.bool (inB ws.length 1 10)) ∧ X = w') := fun X => (rwithin_any _ _ _ X).mono fun e w' h => ⟨h.1, h.2.symm⟩
  have hrd := Lib.hid hr
  unfold maxLen at hm
  clear hr
  go_enter Try.func56, Try.ntmps56
  go_wp2_with fail
  go_loop [3] (fun i => ∃ k : Nat, k ≤ ws.length ∧ i = .int .i64 k ∧ Hid (allB (ws.take k) (-10000000000) 10000000000 = true)) (fun i => ws.length - (intOf i).toNat)
  case atStart => exact ⟨0, Nat.zero_le _, rfl, rfl⟩
  case round =>
    obtain ⟨k, hk, rfl, Hall⟩ := hrel
    by_cases hlt : k < ws.length
    · have i1 : (k : Int) < (ws.length : Int) := by omega
      have i0 : ¬ (k : Int) < 0 := by omega
      have ew : IntKind.i64.wrap ((k : Int) + 1) = (k : Int) + 1 := IntWalk.i64_in _ (by omega)
      obtain ⟨b, o, rfl, hb, hc⟩ := hrd.out.at1 hlt
      have cw := hc k hlt
      have lb : b < w.heap.size := by omega
      have Han : Hid (allB (ws.take (k + 1)) (-10000000000) 10000000000 = (allB (ws.take k) (-10000000000) 10000000000 && inB (ws[k]?.getD 0) (-10000000000) 10000000000)) := allT_snoc ws k _ _ hlt
      have Hno := Lib.hid (allT_out ws k (-10000000000) 10000000000 hlt)
      have HW : Hid (∀ X, Calls Try.prog 48 #[.int .i64 (ws[k]?.getD 0), .int .i64 (-10000000000), .int .i64 10000000000] X fun e w' => e = .returned (.bool (inB (ws[k]?.getD 0) (-10000000000) 10000000000)) ∧ X = w') := fun X => (rwithin_any _ _ _ X).mono fun e w' h => ⟨h.1, h.2.symm⟩
      generalize ws[k]?.getD 0 = x at cw Han Hno HW
      clear hc
      cases hin : inB x (-10000000000) 10000000000 with
      | false =>
        have HN := Lib.hid (Hno.out hin)
        rw [hin] at HW
        clear hin Hno Han
        go_wp2_with (go_at_call 48; refine (HW.out _).mono ?_; rintro e w' ⟨rfl, rfl⟩)
        go_ret
        exact ⟨ret_boolT (by rw [HV.out, HN.out]; simp), rfl⟩
      | true =>
        rw [hin] at HW Han
        clear hin Hno
        go_wp2_with (go_at_call 48; refine (HW.out _).mono ?_; rintro e w' ⟨rfl, rfl⟩)
        refine ⟨⟨k + 1, by omega, by go_num, by show _ = _; rw [Han.out, Hall.out]; rfl⟩, by simp [intOf]; omega⟩
    · have ek : k = ws.length := by omega
      have hge : ¬ (k : Int) < (ws.length : Int) := by omega
      have HA : Hid (allB ws (-10000000000) 10000000000 = true) := by have := Hall.out; rw [ek, List.take_length] at this; exact this
      clear ek
      go_wp2_with (go_at_call 48; refine (HL.out _).mono ?_; rintro e w' ⟨rfl, rfl⟩)
      go_ret
      exact ⟨ret_boolT (by rw [HV.out, HA.out]; simp), rfl⟩
set_option maxHeartbeats 4000000 in
set_option maxRecDepth 100000 in
theorem rPay_any (b : List Int) (l : List PyZ) (A A2 : Option Addr) (ca c2 B : Nat) (w : World) (hB : B ≤ w.heap.size) (hr : Reads w B 1 A b.length (b.map (Value.int .i64))) (hm : b.length ≤ maxLen) (hr2 : Reads w B 3 A2 l.length (pyCells l)) (hm2 : l.length ≤ maxLen) :
    Calls Try.prog 26 #[.slice A b.length ca, .slice A2 l.length c2] w (TkTo w (payR b l).1 (payR b l).2) := by
  obtain ⟨i0t, hi, hz0, hz1, hz2⟩ := info_parts Try.info_intT
  have HV : Hid (payR b l = if balB b = false then ([], 1) else if 60 < l.length then ([], 2) else if pysB b.length l l.length = false then ([], 110) else (payN b l l.length, 0)) := rfl
  have H1 := Lib.hid (balanced_any b A ca B w hB hr hm)
  have hrd := Lib.hid hr
  have hrd2 := Lib.hid hr2
  unfold maxLen at hm hm2
  clear hr hr2
  by_cases h1 : balB b = false
  · rw [show payR b l = ([], 1) by rw [HV.out, if_pos h1]]
    rw [h1] at H1
    go_enter Try.func26, Try.ntmps26
    go_wp2_with (go_at_call 56; refine H1.out.mono ?_; rintro e w' ⟨rfl, rfl⟩)
    go_ret2
    exact ⟨none, 0, rfl, Reads.none_, Below.refl _ _⟩
  have hb : balB b = true := by simpa using h1
  have hbb := hb
  unfold balB at hbb
  simp only [Bool.and_eq_true] at hbb
  have h10 : 1 ≤ b.length ∧ b.length ≤ 10 := by have := hbb.1; unfold inB at this; simp at this; omega
  have HBa := Lib.hid (fun i hi => allB_at (i := i) hbb.2 hi)
  rw [hb] at H1
  rw [if_neg h1] at HV
  clear hb hbb h1
  by_cases h60 : 60 < l.length
  · rw [show payR b l = ([], 2) by rw [HV.out, if_pos h60]]
    have hz : (60 : Int) < (l.length : Int) := by omega
    go_enter Try.func26, Try.ntmps26
    go_wp2_with (go_at_call 56; refine H1.out.mono ?_; rintro e w' ⟨rfl, rfl⟩)
    go_ret2
    exact ⟨none, 0, rfl, Reads.none_, Below.refl _ _⟩
  have hz : ¬ (60 : Int) < (l.length : Int) := by omega
  rw [if_neg h60] at HV
  generalize payR b l = R at HV ⊢
  have h1 := h10.1
  obtain ⟨b2, o2b, rfl, hb2, _⟩ := hrd.out.at1 (k := 0) (by omega)
  have hrq := hrd.out
  have m1 : 0 + b.length ≤ maxLen := by unfold maxLen; omega
  have m2 : (0 + b.length) * 8 ≤ 140737488355328 := by omega
  have ewb : IntKind.i64.wrap ((b.length : Int) - 1) = (b.length : Int) - 1 := IntWalk.i64_in _ (by omega)
  go_enter Try.func26, Try.ntmps26
  go_upto_region 5 with (go_at_call 56; refine H1.out.mono ?_; rintro e w' ⟨rfl, rfl⟩)
  clear H1
  go_upto_region 6 with (at_builtin; refine wpList_app _ rfl _ _ 22 rfl w.heap.size 3 i0t (.int .i64 0) 1 8 Try.underlying22 hi hz0 hz1 hz2 rfl (by decide) (.slice none 0 0) 0 [] rfl ?qo B (some ⟨b2, o2b, none⟩) b.length ca (b.map (Value.int .i64)) rfl ?qr ?q1 m1 m2 ?qb ?_)
  case qo => exact owns_nil _ _ _ _
  case qr => exact hrq
  case q1 => intro u hu; simp at hu; obtain ⟨z, _, rfl⟩ := hu; rfl
  case qb => first | exact Nat.le_refl _ | simp
  intro v' W hown' hbel'
  try rw [Nat.zero_add] at hown'
  obtain ⟨g, c', hv, hg, _⟩ := World.ownsRow.form hown' h1
  subst hv
  have HR0 : Hid (Row W g 3 (b.map (Value.int .i64))) := by show Row _ _ _ _; have := (Row.of_own hown').1; simpa using this
  have HW := Lib.hid hbel'
  clear hown' hbel' hrq m1 m2
  go_upto_region 6 with fail
  go_wp2_with fail
  go_loopw [7] (fun i wr => ∃ k : Nat, k ≤ l.length ∧ i = .int .i64 k ∧ Below w.heap.size w wr ∧ Row wr g 3 ((payN b l k).map (Value.int .i64)) ∧ pysB b.length l k = true) (fun i _ => l.length - (intOf i).toNat)
  case atStart => exact ⟨0, Nat.zero_le _, rfl, HW.out, HR0.out, rfl⟩
  case round =>
    obtain ⟨k, hk, rfl, hbel, hrow, hall⟩ := hrel
    have Hall := Lib.hid hall
    by_cases hlt : k < l.length
    · have HK := Lib.hid hlt
      have hlt' : (k : Int) < (l.length : Int) := by omega
      have i0 : ¬ (k : Int) < 0 := by omega
      have ew : IntKind.i64.wrap ((k : Int) + 1) = (k : Int) + 1 := IntWalk.i64_in _ (by omega)
      obtain ⟨o2, oo, rfl, hbB, hpc⟩ := py_at hrd2.out (by omega)
      obtain ⟨p0, p1, p2⟩ := hpc k hlt
      have lb : o2 < w.heap.size := by omega
      have HNp : Hid (pysB b.length l (k + 1) = (pysB b.length l k && pyB b.length (pyAt l k))) := rfl
      have HN : Hid (payN b l (k + 1) = payS (payN b l k) (pyAt l k)) := rfl
      have Hno : Hid (pyB b.length (pyAt l k) = false → pysB b.length l l.length = false) := fun h => pysB_out h _ HK.out
      have hln := payN_len b l k
      have hpb : ∀ f : Nat, f < b.length → (∀ j, j < k → PyOk b.length (pyAt l j)) → -(10000000000 + 100000000000 * (k : Int)) ≤ wAt (payN b l k) f ∧ wAt (payN b l k) f ≤ 10000000000 + 100000000000 * (k : Int) := fun f hf ho => by
        have h := payN_bd (b := b) (l := l.take k) HBa.out (fun j hj => by
          have hjk : j < k := by rw [List.length_take] at hj; omega
          have e : pyAt (l.take k) j = pyAt l j := by unfold pyAt; rw [List.getElem?_take, if_pos hjk]
          rw [e]; exact ho j hjk) k (by rw [List.length_take]; omega) f hf
        have e2 : ∀ m, m ≤ k → payN b (l.take k) m = payN b l m := by
          intro m
          induction m with
          | zero => intro _; rfl
          | succ m ih =>
            intro hm
            simp only [payN]
            rw [ih (by omega)]
            have e : pyAt (l.take k) m = pyAt l m := by unfold pyAt; rw [List.getElem?_take, if_pos (by omega)]
            rw [e]
        rw [e2 k (Nat.le_refl _)] at h
        exact h
      have HPB : Hid (∀ f : Nat, f < b.length → -(10000000000 + 100000000000 * (k : Int)) ≤ wAt (payN b l k) f ∧ wAt (payN b l k) f ≤ 10000000000 + 100000000000 * (k : Int)) := fun f hf => hpb f hf (fun j hj => pyB_ok (pysB_at Hall.out j hj))
      have HPo : Hid (pyB b.length (pyAt l k) = true → PyOk b.length (pyAt l k)) := fun h => pyB_ok h
      have HPd : Hid (pyB b.length (pyAt l k) = (allB [(pyAt l k).frm, (pyAt l k).dst] 0 ((b.length : Int) - 1) && !decide ((pyAt l k).frm = (pyAt l k).dst) && inB (pyAt l k).cents 1 100000000000)) := rfl
      have HA2 : Hid (allB [(pyAt l k).frm, (pyAt l k).dst] 0 ((b.length : Int) - 1) = (inB (pyAt l k).frm 0 ((b.length : Int) - 1) && inB (pyAt l k).dst 0 ((b.length : Int) - 1))) := by show _ = _; unfold allB; simp
      generalize hpp : pyAt l k = p at p0 p1 p2 HN HNp Hno HPo HPd HA2
      obtain ⟨pf, pt, pc⟩ := p
      dsimp only at p0 p1 p2 HPd HA2
      have c0 : wr.cell? ⟨o2, oo + k * 3, none⟩ = some (.int .i64 pf) := by rw [hbel.cell (p := ⟨o2, oo + k * 3, none⟩) lb]; exact p0
      have c1 : wr.cell? ⟨o2, oo + k * 3 + 1, none⟩ = some (.int .i64 pt) := by rw [hbel.cell (p := ⟨o2, oo + k * 3 + 1, none⟩) lb]; exact p1
      have c2' : wr.cell? ⟨o2, oo + k * 3 + 2, none⟩ = some (.int .i64 pc) := by rw [hbel.cell (p := ⟨o2, oo + k * 3 + 2, none⟩) lb]; exact p2
      have lb' : o2 < wr.heap.size := Nat.lt_of_lt_of_le lb hbel.size
      obtain ⟨Y, hY⟩ : ∃ Y, Y = wr.alloc (.cells #[.int .i64 pf, .int .i64 pt, .int .i64 pc] 72) := ⟨_, rfl⟩
      have bY : Below w.heap.size w Y := by rw [hY]; exact hbel.alloc hbel.size _
      have rY : Row Y wr.heap.size 72 [.int .i64 pf, .int .i64 pt, .int .i64 pc] := by rw [hY]; exact Row.new wr _ _
      have rN : Row Y g 3 ((payN b l k).map (Value.int .i64)) := by rw [hY]; exact hrow.alloc _
      have gne : g ≠ wr.heap.size := by have := hrow.lt; omega
      obtain ⟨m, hm3⟩ : ∃ m, m = wr.heap.size := ⟨_, rfl⟩
      rw [← hm3] at rY gne
      have y0 : Y.cell? ⟨m, 0, none⟩ = some (.int .i64 pf) := rY.cell (j := 0) (by simp)
      have y1 : Y.cell? ⟨m, 1, none⟩ = some (.int .i64 pt) := rY.cell (j := 1) (by simp)
      have y2 : Y.cell? ⟨m, 2, none⟩ = some (.int .i64 pc) := rY.cell (j := 2) (by simp)
      have lY := rY.lt
      have lN := rN.lt
      have HW1 : Hid (∀ X, Calls Try.prog 48 #[.int .i64 pf, .int .i64 0, .int .i64 ((b.length : Int) - 1)] X fun e w' => e = .returned (.bool (inB pf 0 ((b.length : Int) - 1))) ∧ X = w') := fun X => (rwithin_any _ _ _ X).mono fun e w' h => ⟨h.1, h.2.symm⟩
      have HW2 : Hid (∀ X, Calls Try.prog 48 #[.int .i64 pt, .int .i64 0, .int .i64 ((b.length : Int) - 1)] X fun e w' => e = .returned (.bool (inB pt 0 ((b.length : Int) - 1))) ∧ X = w') := fun X => (rwithin_any _ _ _ X).mono fun e w' h => ⟨h.1, h.2.symm⟩
      have HW3 : Hid (∀ X, Calls Try.prog 48 #[.int .i64 pc, .int .i64 1, .int .i64 100000000000] X fun e w' => e = .returned (.bool (inB pc 1 100000000000)) ∧ X = w') := fun X => (rwithin_any _ _ _ X).mono fun e w' h => ⟨h.1, h.2.symm⟩
      have HRN := Lib.hid rN
      have HRY := Lib.hid rY
      have HBY := Lib.hid bY
      have HM := Lib.hid hm3
      have HLn := Lib.hid hln
      have Hno2 : Hid (pyB b.length ⟨pf, pt, pc⟩ = false → R = ([], 110)) := fun h => by rw [HV.out, if_pos (Hno.out h)]
      clear hpc p0 p1 p2 hln hpp rN rY bY hbel hrow hm3 hpb hall Hno
      cases e1 : inB pf 0 ((b.length : Int) - 1) with
      | false =>
        rw [e1] at HW1 HA2
        have HR : Hid (R = ([], 110)) := Hno2.out (by rw [HPd.out, HA2.out]; rfl)
        go_upto_region 10 with fail
        rw [← hY, ← HM.out]
        clear hY c0 c1 c2' lb'
        go_wp2_with (go_at_call 48; (first | (with_reducible refine (HW1.out _).mono ?_; rintro e w' ⟨rfl, rfl⟩) | (with_reducible refine (HW2.out _).mono ?_; rintro e w' ⟨rfl, rfl⟩) | (with_reducible refine (HW3.out _).mono ?_; rintro e w' ⟨rfl, rfl⟩)))
        go_ret2
        rw [HR.out]
        exact ⟨none, 0, rfl, Reads.none_, HBY.out⟩
      | true =>
        rw [e1] at HW1 HA2
        cases e2 : inB pt 0 ((b.length : Int) - 1) with
        | false =>
          rw [e2] at HW2 HA2
          have HR : Hid (R = ([], 110)) := Hno2.out (by rw [HPd.out, HA2.out]; rfl)
          go_upto_region 10 with fail
          rw [← hY, ← HM.out]
          clear hY c0 c1 c2' lb'
          go_wp2_with (go_at_call 48; (first | (with_reducible refine (HW1.out _).mono ?_; rintro e w' ⟨rfl, rfl⟩) | (with_reducible refine (HW2.out _).mono ?_; rintro e w' ⟨rfl, rfl⟩) | (with_reducible refine (HW3.out _).mono ?_; rintro e w' ⟨rfl, rfl⟩)))
          go_ret2
          rw [HR.out]
          exact ⟨none, 0, rfl, Reads.none_, HBY.out⟩
        | true =>
          rw [e2] at HW2 HA2
          by_cases e3 : pf = pt
          · subst e3
            have HR : Hid (R = ([], 110)) := Hno2.out (by rw [HPd.out, HA2.out]; simp)
            go_upto_region 10 with fail
            rw [← hY, ← HM.out]
            clear hY c0 c1 c2' lb'
            go_wp2_with (go_at_call 48; (first | (with_reducible refine (HW1.out _).mono ?_; rintro e w' ⟨rfl, rfl⟩) | (with_reducible refine (HW2.out _).mono ?_; rintro e w' ⟨rfl, rfl⟩) | (with_reducible refine (HW3.out _).mono ?_; rintro e w' ⟨rfl, rfl⟩)))
            go_ret2
            rw [HR.out]
            exact ⟨none, 0, rfl, Reads.none_, HBY.out⟩
          · have e3b : (pf == pt) = false := by simpa using e3
            cases e4 : inB pc 1 100000000000 with
            | false =>
              rw [e4] at HW3
              have HR : Hid (R = ([], 110)) := Hno2.out (by rw [HPd.out, HA2.out, e4]; simp)
              go_upto_region 10 with fail
              rw [← hY, ← HM.out]
              clear hY c0 c1 c2' lb'
              go_wp2_with (go_at_call 48; (first | (with_reducible refine (HW1.out _).mono ?_; rintro e w' ⟨rfl, rfl⟩) | (with_reducible refine (HW2.out _).mono ?_; rintro e w' ⟨rfl, rfl⟩) | (with_reducible refine (HW3.out _).mono ?_; rintro e w' ⟨rfl, rfl⟩)))
              go_ret2
              rw [HR.out]
              exact ⟨none, 0, rfl, Reads.none_, HBY.out⟩
            | true =>
              rw [e4] at HW3
              have hpt : pyB b.length ⟨pf, pt, pc⟩ = true := by rw [HPd.out, HA2.out, e4, decide_eq_false e3]; rfl
              have ho := HPo.out hpt
              rw [hpt] at HNp
              obtain ⟨f, hf, hfl⟩ := ho.f
              obtain ⟨t, ht, htl⟩ := ho.t
              have hc := ho.c
              dsimp only at hf ht hc
              have hft : f ≠ t := by omega
              subst hf
              subst ht
              have hbf := HPB.out f hfl
              have hbt := HPB.out t htl
              have w1 : IntKind.i64.wrap (wAt (payN b l k) f + pc) = wAt (payN b l k) f + pc := IntWalk.i64_in _ (by omega)
              have w2 : IntKind.i64.wrap (wAt (payN b l k) t - pc) = wAt (payN b l k) t - pc := IntWalk.i64_in _ (by omega)
              have HLT := Lib.hid htl
              have HLF := Lib.hid hfl
              have HFT := Lib.hid hft
              have j0 : ¬ (f : Int) < 0 := by omega
              have j1 : (f : Int) < (b.length : Int) := by omega
              have j2 : ¬ (t : Int) < 0 := by omega
              have j3 : (t : Int) < (b.length : Int) := by omega
              clear hbf hbt ho hc hft hpt e1 e2 e4
              go_upto_region 10 with fail
              rw [← hY, ← HM.out]
              clear hY c0 c1 c2' lb'
              go_upto_region 12 with (go_at_call 48; (first | (with_reducible refine (HW1.out _).mono ?_; rintro e w' ⟨rfl, rfl⟩) | (with_reducible refine (HW2.out _).mono ?_; rintro e w' ⟨rfl, rfl⟩) | (with_reducible refine (HW3.out _).mono ?_; rintro e w' ⟨rfl, rfl⟩)))
              have n0 : Y.cell? ⟨g, f, none⟩ = some (.int .i64 (wAt (payN b l k) f)) := by rw [HRN.out.cell (by simp [HLn.out]; exact HLF.out)]; exact intsL_at _ (by rw [HLn.out]; exact HLF.out)
              have f0 := HRN.out.frozen f
              clear hfl htl e3 e3b
              go_big_region
              have rN1 : Row (Y.setCell ⟨g, f, none⟩ (.int .i64 (wAt (payN b l k) f + pc))).drew g 3 (((payN b l k).set f (wAt (payN b l k) f + pc)).map (Value.int .i64)) := by rw [← intsL_set]; exact (HRN.out.set f _).drew
              have rY1 : Row (Y.setCell ⟨g, f, none⟩ (.int .i64 (wAt (payN b l k) f + pc))).drew m 72 [.int .i64 (f : Int), .int .i64 (t : Int), .int .i64 pc] := (HRY.out.far (by show ¬ m = g; exact fun e => gne e.symm) _).drew
              have bY1 : Below w.heap.size w (Y.setCell ⟨g, f, none⟩ (.int .i64 (wAt (payN b l k) f + pc))).drew := (HBY.out.setCell hg _).drew
              generalize (Y.setCell ⟨g, f, none⟩ (.int .i64 (wAt (payN b l k) f + pc))).drew = Z at rN1 rY1 bY1 ⊢
              have hat : wAt ((payN b l k).set f (wAt (payN b l k) f + pc)) t = wAt (payN b l k) t := by rw [wAt_set _ _ _ _ (by rw [HLn.out]; exact HLF.out), if_neg HFT.out]
              have n1 : Z.cell? ⟨g, t, none⟩ = some (.int .i64 (wAt (payN b l k) t)) := by
                rw [rN1.cell (by simp [HLn.out]; exact HLT.out), intsL_at _ (by simp [HLn.out]; exact HLT.out), hat]
              have f1 := rN1.frozen t
              have z1 : Z.cell? ⟨m, 1, none⟩ = some (.int .i64 (t : Int)) := rY1.cell (j := 1) (by simp)
              have z2 : Z.cell? ⟨m, 2, none⟩ = some (.int .i64 pc) := rY1.cell (j := 2) (by simp)
              have lZ := rY1.lt
              have lZ2 := rN1.lt
              have HRN1 := Lib.hid rN1
              have HBZ := Lib.hid bY1
              have HAT := Lib.hid hat
              clear y0 y1 y2 n0 f0 lY lN rN1 rY1 bY1 hat w1
              go_upto_region 13 with fail
              go_big_region
              clear n1 f1 z1 z2
              go_wp2_with fail
              go_roundw
              case rel =>
                refine ⟨k + 1, by omega, by go_num, (HBZ.out.setCell hg _).drew, ?_, by rw [HNp.out, Hall.out]; rfl⟩
                have e : payN b l (k + 1) = ((payN b l k).set f (wAt (payN b l k) f + pc)).set t (wAt (payN b l k) t - pc) := by
                  rw [HN.out]
                  unfold payS
                  simp only [Int.toNat_natCast]
                  rw [HAT.out]
                rw [e, ← intsL_set]
                exact (HRN1.out.set t _).drew
              case measure => simp [intOf]; omega
    · have ek : k = l.length := by omega
      have hge : ¬ (k : Int) < (l.length : Int) := by omega
      have hpa : pysB b.length l l.length = true := by rw [← ek]; exact hall
      rw [if_neg (by rw [hpa]; simp)] at HV
      have HRN : Hid (Row wr g 3 ((payN b l l.length).map (Value.int .i64))) := by show Row _ _ _ _; rw [← ek]; exact hrow
      have HBe := Lib.hid hbel
      have HLn := Lib.hid (payN_len b l l.length)
      clear hpa hbel hall ek hrow
      go_wp2_with fail
      go_ret2
      rw [HV.out]
      exact ⟨some ⟨g, 0, none⟩, c', by simp only [HLn.out]; rfl, by simp only [HLn.out]; exact HRN.out.reads (by simp [HLn.out]) HRN.out.lt, HBe.out⟩
end Go.Proofs.Ytdechfjlbdbbnaa
