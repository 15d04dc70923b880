/- Contracts of takings' furthest, splitNights and Nights. Conditions: numbers that read as data. -/
import Derived.Test.YtdechfjlbdbbnaaTna
import Derived.Test.YtdechfjlbdbbnaaTmc
import Derived.Test.YtdechfjlbdbbnaaTkw
namespace Go.Proofs.Ytdechfjlbdbbnaa
open Go.RowKit Go.Shelf

/-- A list of the call's own, a number and an error. -/
def TkToN (w : World) (L : List Int) (off e0 : Int) (e : Ending) (w' : World) : Prop :=
  ∃ A' c', e = .returned (.tuple #[.slice A' L.length c', .int .i64 off, .int .i64 e0]) ∧ Reads w' w'.heap.size 1 A' L.length (L.map (Value.int .i64)) ∧ Below w.heap.size w w'
theorem allB_sub (ns : List Int) {i : Nat} (h : allB ns 0 1000000000 = true) (hi : i < ns.length) : 0 ≤ wAt ns i ∧ wAt ns i ≤ 1000000000 := allB_at h hi
set_option maxHeartbeats 4000000 in
set_option maxRecDepth 100000 in
theorem furthest_any (a b : List Int) (hab : a.length = b.length) (hn : a.length ≤ 10) (ha : ∀ i, i < a.length → -1000000000000000 ≤ wAt a i ∧ wAt a i ≤ 1000000000000000) (hb : ∀ i, i < a.length → -1000000000000000 ≤ wAt b i ∧ wAt b i ≤ 1000000000000000)
    (A A2 : Option Addr) (ca c2 B : Nat) (w : World) (hB : B ≤ w.heap.size) (hr : Reads w B 1 A a.length (a.map (Value.int .i64))) (hr2 : Reads w B 1 A2 b.length (b.map (Value.int .i64))) :
    Calls Try.prog 67 #[.slice A a.length ca, .slice A2 b.length c2] w fun e w' => e = .returned (.int .i64 (furZ (wAt a) (wAt b) a.length)) ∧ Below w.heap.size w w' := by
  have hrd := Lib.hid hr
  have hrd2 : Hid (Reads w B 1 A2 a.length (b.map (Value.int .i64))) := by show Reads _ _ _ _ _ _; rw [hab]; exact hr2
  have HF : Hid (∀ k, k ≤ a.length → 0 ≤ furZ (wAt a) (wAt b) k ∧ furZ (wAt a) (wAt b) k ≤ 2000000000000000) := fun k hk => furZ_bd (by omega) k fun i hi => by
    have := ha i (by omega)
    have := hb i (by omega)
    omega
  have HA := Lib.hid ha
  have HBb := Lib.hid hb
  rw [← hab]
  clear hr hr2 ha hb hab
  go_enter Try.func67, Try.ntmps67
  go_wp2_with fail
  go_loopw [5, 9] (fun m i wr => ∃ k : Nat, k ≤ a.length ∧ i = .int .i64 k ∧ m = .int .i64 (furZ (wAt a) (wAt b) k) ∧ Below w.heap.size w wr) (fun _ i _ => a.length - (intOf i).toNat)
  case atStart => exact ⟨0, Nat.zero_le _, rfl, rfl, Below.refl _ _⟩
  case round =>
    obtain ⟨k, hk, rfl, rfl, hbel⟩ := hrel
    have Hbe := Lib.hid hbel
    by_cases hlt : k < a.length
    · have hlt' : (k : Int) < (a.length : Int) := by omega
      have i0 : ¬ (k : Int) < 0 := by omega
      have ew : IntKind.i64.wrap ((k : Int) + 1) = (k : Int) + 1 := IntWalk.i64_in _ (by omega)
      obtain ⟨b1, o1, rfl, hb1, hc1⟩ := cell_at hrd.out hlt
      obtain ⟨b2, o2, rfl, hb2, hc2⟩ := cell_at hrd2.out hlt
      have v1 : wr.cell? ⟨b1, o1 + k, none⟩ = some (.int .i64 (wAt a k)) := by rw [hbel.cell (p := ⟨b1, o1 + k, none⟩) (show b1 < w.heap.size by omega)]; exact hc1 k hlt
      have v2 : wr.cell? ⟨b2, o2 + k, none⟩ = some (.int .i64 (wAt b k)) := by rw [hbel.cell (p := ⟨b2, o2 + k, none⟩) (show b2 < w.heap.size by omega)]; exact hc2 k hlt
      have l1 : b1 < wr.heap.size := by have := hbel.size; omega
      have l2 : b2 < wr.heap.size := by have := hbel.size; omega
      have HS : Hid (furZ (wAt a) (wAt b) (k + 1) = max (max (furZ (wAt a) (wAt b) k) (wAt a k - wAt b k)) (wAt b k - wAt a k)) := rfl
      have q1 := HA.out k hlt
      have q2 := HBb.out k hlt
      have q3 := HF.out k hk
      generalize furZ (wAt a) (wAt b) k = F at q3 HS
      generalize wAt a k = x at v1 q1 HS
      generalize wAt b k = y at v2 q2 HS
      have e1 : IntKind.i64.wrap (x - y) = x - y := IntWalk.i64_in _ (by omega)
      have e2 : IntKind.i64.wrap (y - x) = y - x := IntWalk.i64_in _ (by omega)
      clear hc1 hc2 hbel q1 q2 q3
      go_upto_region 5 with fail
      go_quiet (fail)
      go_wp2_with fail
      go_roundw
      case rel => exact ⟨k + 1, by omega, by go_num, by rw [HS.out]; congr 1; (repeat' split) <;> omega, below_drewN Hbe.out _⟩
      case measure => simp [intOf]; omega
    · have ek : k = a.length := by omega
      have hge : ¬ (k : Int) < (a.length : Int) := by omega
      clear hbel
      go_wp2_with fail
      go_ret
      exact ⟨rfl, Hbe.out⟩
set_option maxHeartbeats 4000000 in
set_option maxRecDepth 100000 in
theorem splitNights_any (ns ws : List Int) (h : WOk ws) (hl : ns.length ≤ 60) (hn : ∀ j, j < ns.length → 0 ≤ wAt ns j ∧ wAt ns j ≤ 1000000000) (A A2 : Option Addr) (ca c2 B : Nat) (w : World) (hB : B ≤ w.heap.size) (hr : Reads w B 1 A ns.length (ns.map (Value.int .i64))) (hr2 : Reads w B 1 A2 ws.length (ws.map (Value.int .i64))) :
    Calls Try.prog 66 #[.slice A ns.length ca, .slice A2 ws.length c2] w fun e w' => ∃ g c', e = .returned (.slice (some ⟨g, 0, none⟩) ws.length c') ∧ w.heap.size ≤ g ∧ Row w' g 3 ((nightsZ ns ws).map (Value.int .i64)) ∧ Below w.heap.size w w' := by
  have l10 := h.l10
  have hrd := Lib.hid hr
  have HSp : Hid (∀ (c : Int) X, 0 ≤ c → c ≤ 1000000000 → Below w.heap.size w X → Calls Try.prog 40 #[.int .i64 c, .slice A2 ws.length c2] X fun e w' => ∃ g ca', e = .returned (.slice (some ⟨g, 0, none⟩) ws.length ca') ∧ X.heap.size ≤ g ∧ Row w' g 3 ((splitZ c ws).map (Value.int .i64)) ∧ Below X.heap.size X w') := fun c X h0 h1 hX => split_any c ws h h0 h1 A2 c2 B X (Nat.le_trans hB hX.size) (hr2.below (hX.mono hB))
  have HBd : Hid (∀ k i, k ≤ ns.length → i < ws.length → 0 ≤ nAt ns ws k i ∧ nAt ns ws k i ≤ k * 1000000000001) := fun k i hk hi => nAt_bd h hn hk hi
  have HTp : Hid (∀ c i, 0 ≤ c → c ≤ 1000000000 → i < ws.length → 0 ≤ wAt (splitZ c ws) i ∧ wAt (splitZ c ws) i ≤ 1000000000001) := fun c i h0 h1 hi => part_top h h0 h1 hi
  have HN := Lib.hid hn
  have HLn : Hid (∀ c, (splitZ c ws).length = ws.length) := fun c => splitZ_ln c ws
  have HE : Hid (nightsZ ns ws = (List.range ws.length).map (nAt ns ws ns.length)) := rfl
  clear hr hr2 hn h
  obtain ⟨n, hn⟩ : ∃ n, n = ws.length := ⟨_, rfl⟩
  have Hn := Lib.hid hn
  rw [← hn] at HSp HBd HTp HLn HE l10 ⊢
  clear hn
  obtain ⟨M0, hM0, hmk0⟩ := run_mkT n (by omega) w
  obtain ⟨W1, hW1⟩ : ∃ W, W = w.alloc (.cells M0 3) := ⟨_, rfl⟩
  have rW1 : Row W1 w.heap.size 3 (((List.range n).map (nAt ns ws 0)).map (Value.int .i64)) := by
    have e : ((List.range n).map (nAt ns ws 0)).map (Value.int .i64) = List.replicate n (.int .i64 0) := by
      refine List.ext_getElem? fun i => ?_
      rw [List.getElem?_map, List.getElem?_map, List.getElem?_replicate]
      by_cases hi : i < n
      · rw [List.getElem?_range hi, if_pos hi]; rfl
      · rw [List.getElem?_eq_none (by simp; omega), if_neg hi]; rfl
    rw [e, ← hM0, hW1]; exact Row.new w _ M0
  have bW1 : Below w.heap.size w W1 := by rw [hW1]; exact (Below.refl _ _).alloc (Nat.le_refl _) _
  have HR1 := Lib.hid rW1
  have HW1 := Lib.hid bW1
  clear hM0 rW1 bW1
  go_enter Try.func66, Try.ntmps66
  go_upto_region 2 with fail
  rw [← hW1]
  clear hmk0 hW1
  go_wp2_with fail
  go_loopw [15] (fun i wr => ∃ k : Nat, k ≤ ns.length ∧ i = .int .i64 k ∧ Below w.heap.size w wr ∧ Row wr w.heap.size 3 (((List.range n).map (nAt ns ws k)).map (Value.int .i64))) (fun i _ => ns.length - (intOf i).toNat)
  case atStart => exact ⟨0, Nat.zero_le _, rfl, HW1.out, HR1.out⟩
  case round =>
    obtain ⟨k, hk, rfl, hbel, hrow⟩ := hrel
    have Hbe := Lib.hid hbel
    have HRo := Lib.hid hrow
    by_cases hlt : k < ns.length
    · have hlt' : (k : Int) < (ns.length : Int) := by omega
      have i0 : ¬ (k : Int) < 0 := by omega
      have ew : IntKind.i64.wrap ((k : Int) + 1) = (k : Int) + 1 := IntWalk.i64_in _ (by omega)
      obtain ⟨b1, o1, rfl, hb1, hc1⟩ := cell_at hrd.out hlt
      have v1 : wr.cell? ⟨b1, o1 + k, none⟩ = some (.int .i64 (wAt ns k)) := by rw [hbel.cell (p := ⟨b1, o1 + k, none⟩) (show b1 < w.heap.size by omega)]; exact hc1 k hlt
      have l1 : b1 < wr.heap.size := by have := hbel.size; omega
      have q := HN.out k hlt
      have HSq := Lib.hid (HSp.out (wAt ns k) wr q.1 q.2 hbel)
      have HTq : Hid (∀ i, i < n → 0 ≤ wAt (splitZ (wAt ns k) ws) i ∧ wAt (splitZ (wAt ns k) ws) i ≤ 1000000000001) := fun i hi => HTp.out _ _ q.1 q.2 hi
      have HAs : Hid (∀ i, nAt ns ws (k + 1) i = nAt ns ws k i + wAt (splitZ (wAt ns k) ws) i) := fun i => rfl
      have HLq := Lib.hid (HLn.out (wAt ns k))
      generalize splitZ (wAt ns k) ws = S at HSq HTq HAs HLq
      generalize wAt ns k = c at v1 HSq
      clear hc1 q hbel hrow
      go_upto_region 5 with fail
      go_upto_region 6 with (go_at_call 40; refine HSq.out.mono ?_; rintro e Y ⟨g, c', rfl, hg, hrY, hY⟩)
      have hsz := Hbe.out.size
      have BY := Lib.hid (Hbe.out.trans (hY.mono hsz))
      have RY := Lib.hid hrY
      have RP : Hid (Row Y w.heap.size 3 ((mixL (nAt ns ws (k + 1)) (nAt ns ws k) n 0).map (Value.int .i64))) := by
        show Row _ _ _ _
        rw [mixL_zero]
        exact HRo.out.below hY HRo.out.lt
      have lP := HRo.out.lt
      have gne : ¬ g = w.heap.size := by omega
      clear hY hrY HSq hg
      go_wp2_with fail
      go_loopw [23] (fun i Z => ∃ j : Nat, j ≤ n ∧ i = .int .i64 j ∧ Below w.heap.size w Z ∧ Row Z g 3 (S.map (Value.int .i64)) ∧ Row Z w.heap.size 3 ((mixL (nAt ns ws (k + 1)) (nAt ns ws k) n j).map (Value.int .i64))) (fun i _ => n - (intOf i).toNat)
      case atStart => exact ⟨0, Nat.zero_le _, rfl, BY.out, RY.out, RP.out⟩
      case round =>
        obtain ⟨j, hj, rfl, bZ, rS, rP⟩ := hrel
        have BZ := Lib.hid bZ
        have RS := Lib.hid rS
        have RPz := Lib.hid rP
        by_cases hjn : j < n
        · have j1 : (j : Int) < (n : Int) := by omega
          have j0 : ¬ (j : Int) < 0 := by omega
          have ewj : IntKind.i64.wrap ((j : Int) + 1) = (j : Int) + 1 := IntWalk.i64_in _ (by omega)
          have s1 : wr.cell? ⟨g, j, none⟩ = some (.int .i64 (wAt S j)) := by rw [rS.cell (by simp [HLq.out]; exact hjn)]; exact intsL_at _ (by rw [HLq.out]; exact hjn)
          have p1 : wr.cell? ⟨w.heap.size, j, none⟩ = some (.int .i64 (nAt ns ws k j)) := by
            rw [rP.cell (by simp [mixL_len]; exact hjn), intsL_at _ (by rw [mixL_len]; exact hjn), mixL_at _ _ hjn, if_neg (by omega)]
          have f1 := rP.frozen j
          have l2 := rS.lt
          have l3 := rP.lt
          have b1 := HBd.out k j hk hjn
          have b2 := HTq.out j hjn
          have HSe := Lib.hid (HAs.out j)
          have eS : IntKind.i64.wrap (nAt ns ws k j + wAt S j) = nAt ns ws k j + wAt S j := IntWalk.i64_in _ (by omega)
          generalize wAt S j = x at s1 HSe eS
          generalize hy : nAt ns ws k j = y at p1 HSe eS
          clear bZ rS rP b1 b2 hy
          go_wp2_with fail
          go_roundw
          case rel =>
            refine ⟨j + 1, by omega, by go_num, BZ.out.setCell (Nat.le_refl _) _, RS.out.far gne _, ?_⟩
            rw [← mixL_set, ← intsL_set, HSe.out]
            exact RPz.out.set j _
          case measure => simp [intOf]; omega
        · have ej : j = n := by omega
          subst ej
          have hge : ¬ (j : Int) < (j : Int) := by omega
          clear bZ rS rP
          go_wp2_with fail
          go_roundw
          case rel =>
            refine ⟨k + 1, by omega, by go_num, BZ.out, ?_⟩
            rw [← mixL_all (nAt ns ws (k + 1)) (nAt ns ws k)]
            exact RPz.out
          case measure => simp [intOf]; omega
    · have ek : k = ns.length := by omega
      subst ek
      have hge : ¬ (ns.length : Int) < (ns.length : Int) := by omega
      clear hbel hrow
      go_wp2_with fail
      go_ret
      refine ⟨w.heap.size, ⟨n, rfl⟩, Nat.le_refl _, ?_, Hbe.out⟩
      rw [HE.out]
      exact HRo.out
end Go.Proofs.Ytdechfjlbdbbnaa
