/- Contracts of takings' behind and Pay. Conditions: numbers and payments that read as data. -/
import Derived.Test.YtdechfjlbdbbnaaTmb
namespace Go.Proofs.Ytdechfjlbdbbnaa
open Go.RowKit Go.Shelf

theorem intsL_at (l : List Int) {i : Nat} (hi : i < l.length) : (l.map (Value.int .i64))[i]? = some (.int .i64 (wAt l i)) := by
  rw [List.getElem?_map, List.getElem?_eq_getElem hi]
  unfold wAt
  rw [List.getElem?_eq_getElem hi]; rfl
theorem intsL_set (l : List Int) (i : Nat) (x : Int) : (l.map (Value.int .i64)).set i (.int .i64 x) = (l.set i x).map (Value.int .i64) := by rw [List.map_set]
set_option maxHeartbeats 4000000 in
set_option maxRecDepth 100000 in
theorem behind_any (b : List Int) (l : List PyZ) (h1 : 1 ≤ b.length) (h10 : b.length ≤ 10) (h60 : l.length ≤ 60) (hb : ∀ i, i < b.length → -10000000000 ≤ wAt b i ∧ wAt b i ≤ 10000000000) (hl : ∀ k, k < l.length → PyOk b.length (pyAt l k))
    (A A2 : Option Addr) (ca c2 B : Nat) (w : World) (hB : B ≤ w.heap.size) (hr : Reads w B 1 A b.length (b.map (Value.int .i64))) (hr2 : Reads w B 3 A2 l.length (pyCells l)) :
    Calls Try.prog 55 #[.slice A b.length ca, .slice A2 l.length c2] w fun e w' => ∃ g c', e = .returned (.slice (some ⟨g, 0, none⟩) b.length c') ∧ w.heap.size ≤ g ∧ Row w' g 3 ((payN b l l.length).map (Value.int .i64)) ∧ Below w.heap.size w w' := by
  have HCl := Lib.hid (Clone_int b A ca B w hB hr h1 (by omega))
  have hrd2 := Lib.hid hr2
  have HPB := Lib.hid (payN_bd hb hl)
  have HL := Lib.hid hl
  clear hr hr2 hb hl
  go_enter Try.func55, Try.ntmps55
  go_upto_region 2 with (go_at_call 72; refine HCl.out.mono ?_; rintro e W ⟨g, c', rfl, hg, hrow, hW⟩)
  have HW := Lib.hid hW
  have HR0 := Lib.hid hrow
  clear hW hrow HCl
  go_wp2_with fail
  go_loopw [12] (fun i wr => ∃ k : Nat, k ≤ l.length ∧ i = .int .i64 k ∧ Below w.heap.size w wr ∧ Row wr g 3 ((payN b l k).map (Value.int .i64))) (fun i _ => l.length - (intOf i).toNat)
  case atStart => exact ⟨0, Nat.zero_le _, rfl, HW.out, HR0.out⟩
  case round =>
    obtain ⟨k, hk, rfl, hbel, hrow⟩ := hrel
    by_cases hlt : k < l.length
    · have hlt' : (k : Int) < (l.length : Int) := by omega
      have i0 : ¬ (k : Int) < 0 := by omega
      have ew : IntKind.i64.wrap ((k : Int) + 1) = (k : Int) + 1 := IntWalk.i64_in _ (by omega)
      obtain ⟨o2, oo, rfl, hbB, hpc⟩ := py_at hrd2.out (by omega)
      obtain ⟨p0, p1, p2⟩ := hpc k hlt
      have lb : o2 < w.heap.size := by omega
      have ho := HL.out k hlt
      obtain ⟨f, hf, hfl⟩ := ho.f
      obtain ⟨t, ht, htl⟩ := ho.t
      have hne := ho.ne
      have hc := ho.c
      have hft : f ≠ t := by omega
      have HN : Hid (payN b l (k + 1) = payS (payN b l k) (pyAt l k)) := rfl
      have hbf := HPB.out k hk f hfl
      have hbt := HPB.out k hk t htl
      have hln := payN_len b l k
      generalize hpp : pyAt l k = p at p0 p1 p2 hf ht hc HN
      obtain ⟨pf, pt, pc⟩ := p
      dsimp only at p0 p1 p2 hf ht hc
      subst hf
      subst ht
      have c0 : wr.cell? ⟨o2, oo + k * 3, none⟩ = some (.int .i64 (f : Int)) := by rw [hbel.cell (p := ⟨o2, oo + k * 3, none⟩) lb]; exact p0
      have c1 : wr.cell? ⟨o2, oo + k * 3 + 1, none⟩ = some (.int .i64 (t : Int)) := by rw [hbel.cell (p := ⟨o2, oo + k * 3 + 1, none⟩) lb]; exact p1
      have c2' : wr.cell? ⟨o2, oo + k * 3 + 2, none⟩ = some (.int .i64 pc) := by rw [hbel.cell (p := ⟨o2, oo + k * 3 + 2, none⟩) lb]; exact p2
      have lb' : o2 < wr.heap.size := Nat.lt_of_lt_of_le lb hbel.size
      obtain ⟨Y, hY⟩ : ∃ Y, Y = wr.alloc (.cells #[.int .i64 (f : Int), .int .i64 (t : Int), .int .i64 pc] 72) := ⟨_, rfl⟩
      have bY : Below w.heap.size w Y := by rw [hY]; exact hbel.alloc hbel.size _
      have rY : Row Y wr.heap.size 72 [.int .i64 (f : Int), .int .i64 (t : Int), .int .i64 pc] := by rw [hY]; exact Row.new wr _ _
      have rN : Row Y g 3 ((payN b l k).map (Value.int .i64)) := by rw [hY]; exact hrow.alloc _
      have gne : g ≠ wr.heap.size := by have := hrow.lt; omega
      obtain ⟨m, hm⟩ : ∃ m, m = wr.heap.size := ⟨_, rfl⟩
      rw [← hm] at rY gne
      have y0 : Y.cell? ⟨m, 0, none⟩ = some (.int .i64 (f : Int)) := rY.cell (j := 0) (by simp)
      have y1 : Y.cell? ⟨m, 1, none⟩ = some (.int .i64 (t : Int)) := rY.cell (j := 1) (by simp)
      have y2 : Y.cell? ⟨m, 2, none⟩ = some (.int .i64 pc) := rY.cell (j := 2) (by simp)
      have lY := rY.lt
      have lN := rN.lt
      have n0 : Y.cell? ⟨g, f, none⟩ = some (.int .i64 (wAt (payN b l k) f)) := by rw [rN.cell (by simp [hln]; exact hfl)]; exact intsL_at _ (by rw [hln]; exact hfl)
      have f0 := rN.frozen f
      have w1 : IntKind.i64.wrap (wAt (payN b l k) f + pc) = wAt (payN b l k) f + pc := IntWalk.i64_in _ (by omega)
      have w2 : IntKind.i64.wrap (wAt (payN b l k) t - pc) = wAt (payN b l k) t - pc := IntWalk.i64_in _ (by omega)
      have HRN := Lib.hid rN
      have HRY := Lib.hid rY
      have HBY := Lib.hid bY
      have HM := Lib.hid hm
      have HLn := Lib.hid hln
      have HLT := Lib.hid htl
      have HLF := Lib.hid hfl
      have HFT := Lib.hid hft
      have j0 : ¬ (f : Int) < 0 := by omega
      have j1 : (f : Int) < (b.length : Int) := by omega
      have j2 : ¬ (t : Int) < 0 := by omega
      have j3 : (t : Int) < (b.length : Int) := by omega
      clear hpc p0 p1 p2 ho hne hc hbf hbt hln hpp rN rY bY hbel hrow hm hft hfl htl
      go_upto_region 5 with fail
      rw [← hY, ← HM.out]
      clear hY c0 c1 c2' lb'
      go_big_region
      have rN1 : Row (Y.setCell ⟨g, f, none⟩ (.int .i64 (wAt (payN b l k) f + pc))).drew g 3 (((payN b l k).set f (wAt (payN b l k) f + pc)).map (Value.int .i64)) := by rw [← intsL_set]; exact (HRN.out.set f _).drew
      have rY1 : Row (Y.setCell ⟨g, f, none⟩ (.int .i64 (wAt (payN b l k) f + pc))).drew m 72 [.int .i64 (f : Int), .int .i64 (t : Int), .int .i64 pc] := (HRY.out.far (by show ¬ m = g; exact fun e => gne e.symm) _).drew
      have bY1 : Below w.heap.size w (Y.setCell ⟨g, f, none⟩ (.int .i64 (wAt (payN b l k) f + pc))).drew := (HBY.out.setCell hg _).drew
      generalize (Y.setCell ⟨g, f, none⟩ (.int .i64 (wAt (payN b l k) f + pc))).drew = Z at rN1 rY1 bY1 ⊢
      have hat : wAt ((payN b l k).set f (wAt (payN b l k) f + pc)) t = wAt (payN b l k) t := by rw [wAt_set _ _ _ _ (by rw [HLn.out]; exact HLF.out), if_neg HFT.out]
      have n1 : Z.cell? ⟨g, t, none⟩ = some (.int .i64 (wAt (payN b l k) t)) := by
        rw [rN1.cell (by simp [HLn.out]; exact HLT.out), intsL_at _ (by simp [HLn.out]; exact HLT.out), hat]
      have f1 := rN1.frozen t
      have z1 : Z.cell? ⟨m, 1, none⟩ = some (.int .i64 (t : Int)) := rY1.cell (j := 1) (by simp)
      have z2 : Z.cell? ⟨m, 2, none⟩ = some (.int .i64 pc) := rY1.cell (j := 2) (by simp)
      have lZ := rY1.lt
      have lZ2 := rN1.lt
      have HRN1 := Lib.hid rN1
      have HBZ := Lib.hid bY1
      have HAT := Lib.hid hat
      clear y0 y1 y2 n0 f0 lY lN rN1 rY1 bY1 hat w1
      go_upto_region 6 with fail
      go_big_region
      clear n1 f1 z1 z2
      go_wp2_with fail
      go_roundw
      case rel =>
        refine ⟨k + 1, by omega, by go_num, (HBZ.out.setCell hg _).drew, ?_⟩
        have e : payN b l (k + 1) = ((payN b l k).set f (wAt (payN b l k) f + pc)).set t (wAt (payN b l k) t - pc) := by
          rw [HN.out]
          unfold payS
          simp only [Int.toNat_natCast]
          rw [HAT.out]
        rw [e, ← intsL_set]
        exact (HRN1.out.set t _).drew
      case measure => simp [intOf]; omega
    · have ek : k = l.length := by omega
      have hge : ¬ (k : Int) < (l.length : Int) := by omega
      have HRN : Hid (Row wr g 3 ((payN b l l.length).map (Value.int .i64))) := by show Row _ _ _ _; rw [← ek]; exact hrow
      have HBe := Lib.hid hbel
      clear hrow hbel ek
      go_wp2_with fail
      go_ret
      first
        | exact ⟨g, ⟨c', rfl⟩, hg, HRN.out, HBe.out⟩
        | exact ⟨g, c', rfl, hg, HRN.out, HBe.out⟩
end Go.Proofs.Ytdechfjlbdbbnaa
