/- The walk of QueueAgrees. Conditions: an evening and groups that read as data. -/
import Derived.Test.YtjkilikbbkkcnaaEs
import Derived.Deep.OwnRows
namespace Go.Proofs.Ytjkilikbbkkcnaa
open Go.RowKit

theorem Try.info_intR : (Try.prog.info? 3).map (fun i => (i.zero, i.size, i.bytes)) = some (some (.int .i64 0), 1, 8) := by kernel_rfl
theorem run_mkIntsR (n : Nat) (hn : n ≤ 100) (w : World) : ∃ M : Array Value, M.toList = List.replicate n (.int .i64 0) ∧ (Instr.makeSlice 37 (.int .i64 (n : Int)) (.int .i64 (n : Int))).run Try.prog w = .ok (.slice (some ⟨w.heap.size, 0, none⟩) n n) (w.alloc (.cells M 3)) :=
  ⟨_, by
    refine List.ext_getElem? fun i => ?_
    simp only [madeCells, List.getElem?_replicate, Array.getElem?_toList, Array.getElem?_map, Array.getElem?_range]
    by_cases hi : i < n
    · simp [hi, Nat.mod_one]
    · simp [hi], run_make_row' _ _ _ _ Try.underlying37 Try.info_intR rfl .i64 .i64 n (by omega) (by omega) w⟩
theorem paidZ_nil (cost : Nat → Nat → Int) (nr : Nat) : (paidZ cost nr []).map (Value.int .i64) = List.replicate nr (.int .i64 0) := by
  unfold paidZ
  rw [List.map_map]
  refine List.ext_getElem? fun i => ?_
  rw [List.getElem?_map, List.getElem?_replicate]
  by_cases hi : i < nr
  · rw [List.getElem?_range hi, if_pos hi]; rfl
  · rw [List.getElem?_eq_none (by simp; omega), if_neg hi]; rfl
theorem paidL_bd (c : Nat → Nat → Int) (r : Nat) : ∀ l : List VisZ, (∀ v ∈ l, v.ride = r → 0 ≤ c v.group r ∧ c v.group r ≤ 4000) → 0 ≤ paidL c r l ∧ paidL c r l ≤ 4000 * (l.length : Int) := by
  intro l
  induction l with
  | nil => intro _; simp [paidL]
  | cons v l ih =>
    intro h
    have h1 := ih fun x hx => h x (List.mem_cons_of_mem _ hx)
    simp only [paidL, List.length_cons]
    split
    · rename_i hv
      have h2 := h v List.mem_cons_self hv.2
      omega
    · omega
theorem cost_bds {f : EveZ} {l : List GrpZ} {L : List VisZ} {ts hs : List Int} (h : AgreesOk f l L ts hs) {i r : Nat} (hi : i < l.length) (hr : r < f.rides.length) : 0 ≤ costF f l i r ∧ costF f l i r ≤ 4000 := by
  obtain ⟨a, b⟩ := h.price r hr
  obtain ⟨c, d⟩ := h.size i hi
  unfold costF
  exact ⟨Int.mul_nonneg a (by omega), Int.mul_le_mul b d (by omega) (by omega)⟩
theorem prc_cell {X : World} {B : Nat} {A : Option Addr} {f : EveZ} (h : Reads X B 5 A f.rides.length (bthCells f.rides)) {r : Nat} (hr : r < f.rides.length) : ∃ b o, A = some ⟨b, o, none⟩ ∧ b < B ∧ X.cell? ⟨b, o + r * 5 + 1, none⟩ = some (.int .i64 (f.rides.getD r default).price) := by
  obtain ⟨b, o, e, hb, hc⟩ := h.2 (by omega)
  have hf := bthCells_at f.rides r hr 1 (by omega)
  have := hc _ _ (hf.trans rfl)
  rw [← Nat.add_assoc] at this
  exact ⟨b, o, e, hb, this⟩
set_option maxRecDepth 100000 in
set_option maxHeartbeats 4000000 in
theorem qagrees_walk (f : EveZ) (l : List GrpZ) (A A2 : Option Addr) (c c2 B : Nat) (rs : List (Option Addr × Nat)) (w : World) (hB : B ≤ w.heap.size) (hr : Reads w B 5 A f.rides.length (bthCells f.rides)) (hn : f.rides.length ≤ maxLen) (hl : GrpsIn w B A2 rs l) :
    Calls Try.prog 10 #[eveV f A c, .slice A2 l.length c2] w (TrueP w) := by
  obtain ⟨W, hW⟩ : ∃ W, W = w.alloc (.cells #[.slice A f.rides.length c, .int .i64 f.walk] 24) := ⟨_, rfl⟩
  have bW : Below w.heap.size w W := by subst hW; exact (Below.refl _ _).alloc (Nat.le_refl _) _
  have r0 : Row W w.heap.size 24 [.slice A f.rides.length c, .int .i64 f.walk] := by subst hW; exact Row.new w _ _
  have q0 : W.cell? ⟨w.heap.size, 0, none⟩ = some (.slice A f.rides.length c) := r0.cell (j := 0) (by simp)
  have q1 : W.cell? ⟨w.heap.size, 1, none⟩ = some (.int .i64 f.walk) := r0.cell (j := 1) (by simp)
  have z0 := r0.lt
  have HR : Hid (∀ X, Below w.heap.size w X → B ≤ X.heap.size ∧ Reads X B 5 A f.rides.length (bthCells f.rides) ∧ GrpsIn X B A2 rs l) := fun X hX => ⟨Nat.le_trans hB hX.size, hr.below (hX.mono hB), hl.below (hX.mono hB)⟩
  have HF := Lib.hid (far_any f l A A2 c c2 B rs W (HR.out W bW).1 hn (HR.out W bW).2.2)
  have Hfin : Hid (∀ X : World, Below w.heap.size w X → Calls Try.prog 16 #[] X fun e w' => e = .returned (.bool true) ∧ Below w.heap.size w w') := fun X hX => (works_any X).mono fun _ _ h => ⟨h.1, hX.trans (h.2.mono hX.size)⟩
  unfold eveV at HF ⊢
  clear hr hl
  go_enter Try.func10, Try.ntmps10
  go_upto_region 1 with (fail)
  rw [← hW]
  clear hW
  cases hfb : farB f l with
  | true =>
    rw [hfb] at HF
    go_wp2_with (first | (go_at_call 15; refine HF.out.mono ?_; rintro e w1 ⟨rfl, hb1⟩; have b1 := bW.trans (hb1.mono bW.size); clear hb1) | (go_at_call 16; refine (Hfin.out _ b1).mono ?_; rintro e w2 ⟨rfl, hb2⟩; have HB2 := Lib.hid hb2; clear hb2))
    go_ret
    exact ⟨rfl, HB2.out⟩
  | false =>
    rw [hfb] at HF
    obtain ⟨n1, n2, n3⟩ := far_not hfb
    have HC : Hid (∀ X, Below w.heap.size w X → Calls Try.prog 18 #[eveV f A c] X (EveTo X f)) := fun X hX => rCopy_any f A c B X (HR.out X hX).1 (HR.out X hX).2.1 (by omega)
    have HG : Hid (∀ X, Below w.heap.size w X → Calls Try.prog 19 #[.slice A2 l.length c2] X (GrpTo X l)) := fun X hX => rCopyGroups_any l A2 c2 B rs X (HR.out X hX).1 (HR.out X hX).2.2 (by omega) (fun i hi => by have := n3 i hi; omega)
    obtain ⟨k, hk⟩ : ∃ k, k = checkQ f l := ⟨_, rfl⟩
    obtain ⟨ts, hts⟩ : ∃ ts, ts = takesZ f l := ⟨_, rfl⟩
    obtain ⟨hs, hhs⟩ : ∃ hs, hs = heldZ f l := ⟨_, rfl⟩
    have HP : Hid (∀ X, Below w.heap.size w X → Calls Try.prog 40 #[eveV f A c, .slice A2 l.length c2] X fun e w' => ∃ (L : List VisZ) (A3 : Option Addr) (c3 : Nat), e = .returned (.tuple #[.slice A3 L.length c3, .int .i64 k]) ∧ (k = 0 → AgreesOk f l L ts hs) ∧ Below X.heap.size X w' ∧ Reads w' w'.heap.size 6 A3 L.length (L.flatMap visL)) := fun X hX => (lplay_any f l A A2 c c2 B rs X (HR.out X hX).1 (HR.out X hX).2.1 hn (HR.out X hX).2.2 hfb).mono fun e w' ⟨L, A3, c3, h1, h2, h3, h4⟩ => ⟨L, A3, c3, by rw [hk]; exact h1, fun h0 => by
      rw [hk] at h0
      rw [hts, hhs]
      exact agrees_all h0 (h2 h0).1, h3, h4⟩
    have HT : Hid (∀ (X : World) (A1 A3 : Option Addr) (c1 c3 : Nat) (rs3 : List (Option Addr × Nat)), Reads X X.heap.size 5 A1 f.rides.length (bthCells f.rides) → GrpsIn X X.heap.size A3 rs3 l → Calls Try.prog 25 #[eveV f A1 c1, .slice A3 l.length c3] X (ListTo X ts k)) := fun X A1 A3 c1 c3 rs3 h4 h5 => by
      rw [hk, hts]
      exact Takes_any f l A1 A3 c1 c3 X.heap.size rs3 X (Nat.le_refl _) h4 hn h5
    have HH : Hid (∀ (X : World) (A1 A3 : Option Addr) (c1 c3 : Nat) (rs3 : List (Option Addr × Nat)), Reads X X.heap.size 5 A1 f.rides.length (bthCells f.rides) → GrpsIn X X.heap.size A3 rs3 l → Calls Try.prog 27 #[eveV f A1 c1, .slice A3 l.length c3] X (ListTo X hs k)) := fun X A1 A3 c1 c3 rs3 h4 h5 => by
      rw [hk, hhs]
      exact Held_any f l A1 A3 c1 c3 X.heap.size rs3 X (Nat.le_refl _) h4 hn h5
    unfold eveV at HC HP HT HH
    clear hfb hn hk hhs hts
    go_upto_region 3 with (go_at_call 15; refine HF.out.mono ?_; rintro e w1 ⟨rfl, hb1⟩)
    have b1 := bW.trans (hb1.mono bW.size)
    have r1 := r0.below hb1 z0
    have z1 := r1.lt
    have x0 : w1.cell? ⟨w.heap.size, 0, none⟩ = some (.slice A f.rides.length c) := r1.cell (j := 0) (by simp)
    have x1 : w1.cell? ⟨w.heap.size, 1, none⟩ = some (.int .i64 f.walk) := r1.cell (j := 1) (by simp)
    clear q0 q1 r0 hb1 z0 HF
    go_upto_region 4 with (go_at_call 40; refine (HP.out w1 b1).mono ?_; rintro e w2 ⟨L, A3, c3, rfl, hL, hb2, hr2⟩)
    have b2 := b1.trans (hb2.mono b1.size)
    have r2 := r1.below hb2 z1
    have z2 := r2.lt
    have y0 : w2.cell? ⟨w.heap.size, 0, none⟩ = some (.slice A f.rides.length c) := r2.cell (j := 0) (by simp)
    have y1 : w2.cell? ⟨w.heap.size, 1, none⟩ = some (.int .i64 f.walk) := r2.cell (j := 1) (by simp)
    clear x0 x1 r1 hb2 z1 b1 HP
    have HR2 := Lib.hid r2
    have HV2 := Lib.hid hr2
    have B2 := Lib.hid b2
    clear r2 hr2 b2
    go_upto_region 5 with (first
      | (go_at_call 25; refine HQ5.out.mono ?_; rintro e w35 ⟨hb5, A36, c36, rfl, hr6⟩; have HB35 := Lib.hid (B34.out.trans (hb5.mono B34.out.size)); have HR36 := Lib.hid hr6; clear hb5 hr6)
      | (go_at_call 19; refine (HG.out _ (B2.out.trans (B33.out.mono B2.out.size))).mono ?_; rintro e w34 ⟨A35, c35, rs35, rfl, hb4, hg5⟩; have hq := HT.out w34 A34 A35 c34 c35 rs35 ((hE33.out.below hb4).more hb4.size) hg5; have HQ5 := Lib.hid hq; have B34 := Lib.hid (B33.out.trans (hb4.mono B33.out.size)); clear hb4 hg5 hq)
      | (go_at_call 18; refine (HC.out _ B2.out).mono ?_; rintro e w33 ⟨A34, c34, rfl, hb3, ho3⟩; have B33 := Lib.hid hb3; have hE33 := Lib.hid (own_rds ho3); clear hb3 ho3; unfold eveV))
    have r35 := HR2.out.below HB35.out z2
    have x0 : w35.cell? ⟨w.heap.size, 0, none⟩ = some (.slice A f.rides.length c) := r35.cell (j := 0) (by simp)
    have x1 : w35.cell? ⟨w.heap.size, 1, none⟩ = some (.int .i64 f.walk) := r35.cell (j := 1) (by simp)
    have z35 := r35.lt
    clear y0 y1 B34 B33 hE33 HQ5 r35
    go_upto_region 6 with (first
      | (go_at_call 27; refine HQ6.out.mono ?_; rintro e w45 ⟨hb5, A46, c46, rfl, hr6⟩; have HB45 := Lib.hid (B44.out.trans (hb5.mono B44.out.size)); have HR46 := Lib.hid hr6; clear hb5 hr6)
      | (go_at_call 19; refine (HG.out _ (B2.out.trans ((HB35.out.trans (B43.out.mono HB35.out.size)).mono B2.out.size))).mono ?_; rintro e w44 ⟨A45, c45, rs45, rfl, hb4, hg5⟩; have hq := HH.out w44 A44 A45 c44 c45 rs45 ((hE43.out.below hb4).more hb4.size) hg5; have HQ6 := Lib.hid hq; have B44 := Lib.hid (B43.out.trans (hb4.mono B43.out.size)); clear hb4 hg5 hq)
      | (go_at_call 18; refine (HC.out _ (B2.out.trans (HB35.out.mono B2.out.size))).mono ?_; rintro e w43 ⟨A44, c44, rfl, hb3, ho3⟩; have B43 := Lib.hid hb3; have hE43 := Lib.hid (own_rds ho3); clear hb3 ho3; unfold eveV))
    have bb := HB35.out.trans (HB45.out.mono HB35.out.size)
    have r5 := HR2.out.below bb z2
    have z5 := r5.lt
    have v0 : w45.cell? ⟨w.heap.size, 0, none⟩ = some (.slice A f.rides.length c) := r5.cell (j := 0) (by simp)
    have v1 : w45.cell? ⟨w.heap.size, 1, none⟩ = some (.int .i64 f.walk) := r5.cell (j := 1) (by simp)
    have b5 := B2.out.trans (bb.mono B2.out.size)
    have V5 := Lib.hid ((HV2.out.below bb).more bb.size)
    have T5 := Lib.hid ((HR36.out.below HB45.out).more HB45.out.size)
    have F5 := Lib.hid (HR.out w45 b5)
    have b55 := Lib.hid b5
    have R5 := Lib.hid r5
    clear x0 x1 z2 HR2 HV2 B2 HQ6 B43 B44 HB45 HB35 HR36 hE43 r5 bW HC HG HT HH b5 bb z35
    by_cases hk : k = 0
    · subst hk
      have hA := hL rfl
      have tl := hA.tl
      have hl := hA.hl
      rw [tl] at T5 ⊢
      rw [hl] at HR46 ⊢
      have HA := Lib.hid hA
      clear hL hA tl hl n3
      go_upto_region 12 with fail
      go_loopw [11, 12] (fun sv iv wr => ∃ j : Nat, j ≤ l.length ∧ iv = .int .i64 j ∧ sv = .int .i64 (sumT (fun i => (l.getD i default).tokens - hs.getD i 0) j) ∧ Below w45.heap.size w45 wr) (fun _ iv _ => l.length - (intOf iv).toNat)
      case atStart => exact ⟨0, Nat.zero_le _, rfl, rfl, Below.refl _ _⟩
      case round =>
        obtain ⟨j, hj, rfl, rfl, hbel⟩ := hrel
        have HBr := Lib.hid hbel
        have hsb := sumT_bd (g := fun i => (l.getD i default).tokens - hs.getD i 0) 1000000 j (fun i hi => by have := HA.out.held i (by omega); have := HA.out.tok i (by omega); omega)
        by_cases hlt : j < l.length
        · have hlt' : (j : Int) < (l.length : Int) := by omega
          have HSn : Hid (sumT (fun i => (l.getD i default).tokens - hs.getD i 0) (j + 1) = sumT (fun i => (l.getD i default).tokens - hs.getD i 0) j + ((l.getD j default).tokens - hs.getD j 0)) := rfl
          obtain ⟨b, o, rfl, hb, hcs⟩ := F5.out.2.2.outer (by omega)
          have hb5 : b < w45.heap.size := Nat.lt_of_lt_of_le hb F5.out.1
          obtain ⟨-, -, g2, -, -⟩ := hcs j hlt
          obtain ⟨b6, o6, rfl, hb6, hc6⟩ := HR46.out.2 (by omega)
          have hjs : (hs.map (Value.int .i64))[j]? = some (.int .i64 (hs.getD j 0)) := by
            have h1 := HA.out.hl
            rw [List.getElem?_map, List.getD_eq_getElem?_getD, List.getElem?_eq_getElem (by omega)]
            rfl
          have g6 := hc6 j _ hjs
          obtain ⟨t1, t2⟩ := HA.out.tok j hlt
          obtain ⟨t3, t4⟩ := HA.out.held j hlt
          generalize (l.getD j default).tokens = tk at g2 t1 t2 HSn
          generalize hs.getD j 0 = hd at g6 t3 t4 HSn
          generalize sumT (fun i => (l.getD i default).tokens - hs.getD i 0) j = sj at hsb HSn ⊢
          have e0 : IntKind.i64.wrap (tk - hd) = tk - hd := IntWalk.i64_in _ (by omega)
          have e1 : IntKind.i64.wrap (sj + (tk - hd)) = sj + (tk - hd) := IntWalk.i64_in _ (by omega)
          have e2 : IntKind.i64.wrap ((j : Int) + 1) = (j : Int) + 1 := IntWalk.i64_in _ (by omega)
          have hd0 : ¬ hd < 0 := by omega
          have c2 := (hbel.cell (p := ⟨b, o + j * 5 + 2, none⟩) hb5).trans g2
          have c6 := (hbel.cell (p := ⟨b6, o6 + j, none⟩) hb6).trans g6
          have lb : b < wr.heap.size := Nat.lt_of_lt_of_le hb5 hbel.size
          have lb6 : b6 < wr.heap.size := Nat.lt_of_lt_of_le hb6 hbel.size
          clear hcs hc6 hjs t1 t2 t3 t4 hsb hbel
          go_upto_region 14 with fail
          go_quiet (fail)
          go_wp2_with fail
          go_roundw
          case rel => exact ⟨j + 1, by omega, by go_num, by rw [HSn.out], below_drewN HBr.out _⟩
          case measure => simp [intOf]; omega
        · have hge : ¬ (j : Int) < (l.length : Int) := by omega
          obtain rfl : j = l.length := by omega
          have rr := R5.out.below hbel z5
          have f0 : wr.cell? ⟨w.heap.size, 0, none⟩ = some (.slice A f.rides.length c) := rr.cell (j := 0) (by simp)
          have lf := rr.lt
          have nr0 : ¬ (f.rides.length : Int) < 0 := by omega
          generalize hS : sumT (fun i => (l.getD i default).tokens - hs.getD i 0) l.length = S at hsb ⊢
          have HS := Lib.hid hS
          obtain ⟨M, hM, hmk⟩ := run_mkIntsR f.rides.length (by omega) wr
          have HM := Lib.hid hM
          clear hbel rr hS hM
          go_upto_region 19 with fail
          clear hmk
          have rX : Row (wr.alloc (.cells M 3)) wr.heap.size 3 ((paidZ (costF f l) f.rides.length (L.take 0)).map (Value.int .i64)) := by
            rw [List.take_zero, paidZ_nil, ← HM.out]
            exact Row.new wr _ M
          have bX := HBr.out.alloc HBr.out.size (.cells M 3)
          have hg := HBr.out.size
          generalize wr.alloc (.cells M 3) = X at rX bX ⊢
          generalize wr.heap.size = g at rX hg ⊢
          have HX := Lib.hid rX
          have HBX := Lib.hid bX
          clear f0 lf rX bX HBr HM
          go_loopw [14] (fun kv wr => ∃ k : Nat, k ≤ L.length ∧ kv = .int .i64 k ∧ Below w45.heap.size w45 wr ∧ Row wr g 3 ((paidZ (costF f l) f.rides.length (L.take k)).map (Value.int .i64))) (fun kv _ => L.length - (intOf kv).toNat)
          case atStart => exact ⟨0, Nat.zero_le _, rfl, HBX.out, HX.out⟩
          case round =>
            obtain ⟨k, hk, rfl, hbel, hrow⟩ := hrel
            have HBw := Lib.hid hbel
            have HRw := Lib.hid hrow
            by_cases hkt : k < L.length
            · have hkt' : (k : Int) < (L.length : Int) := by omega
              have hL1 := HA.out.len
              obtain ⟨b3, o3, rfl, hb3, t0, t1, t2, t3, t4, t5⟩ := vis_cells (V5.out.below hbel) hkt
              have hvL := HA.out.vis _ (List.getElem_mem hkt)
              have hsn : L.take (k + 1) = L.take k ++ [L[k]] := List.take_succ_eq_append_getElem hkt
              have hbd : ∀ r, r < f.rides.length → 0 ≤ paidL (costF f l) r (L.take k) ∧ paidL (costF f l) r (L.take k) ≤ 4000000 := fun r hr => by
                have h1 := paidL_bd (costF f l) r (L.take k) fun v hv _ => cost_bds HA.out (HA.out.vis v (List.mem_of_mem_take hv)).1 hr
                have h2 : (L.take k).length ≤ 1000 := by rw [List.length_take]; omega
                omega
              obtain ⟨v, hv⟩ : ∃ v, v = L[k] := ⟨_, rfl⟩
              rw [← hv] at t0 t1 t2 t3 t4 t5 hvL hsn
              obtain ⟨hv1, hv2⟩ := hvL
              have HSN := Lib.hid hsn
              have lb3 : b3 < wr.heap.size := Nat.lt_of_lt_of_le hb3 hbel.size
              have e1 : IntKind.i64.wrap ((k : Int) + 1) = (k : Int) + 1 := IntWalk.i64_in _ (by omega)
              clear hv hsn hbel hrow
              go_upto_region 22 with fail
              obtain ⟨Y, hY⟩ : ∃ Y, Y = wr.alloc (.cells #[.int .i64 v.group, .int .i64 v.want, .int .i64 v.ride, .bool v.on, .int .i64 v.came, .int .i64 v.left] 57) := ⟨_, rfl⟩
              rw [← hY]
              have rY : Row Y wr.heap.size 57 [.int .i64 v.group, .int .i64 v.want, .int .i64 v.ride, .bool v.on, .int .i64 v.came, .int .i64 v.left] := by subst hY; exact Row.new wr _ _
              have bY : Below w45.heap.size w45 Y := by subst hY; exact HBw.out.alloc HBw.out.size _
              have gY : Row Y g 3 ((paidZ (costF f l) f.rides.length (L.take k)).map (Value.int .i64)) := by subst hY; exact HRw.out.alloc _
              have p0 : Y.cell? ⟨wr.heap.size, 0, none⟩ = some (.int .i64 v.group) := rY.cell (j := 0) (by simp)
              have p2 : Y.cell? ⟨wr.heap.size, 2, none⟩ = some (.int .i64 v.ride) := rY.cell (j := 2) (by simp)
              have p3 : Y.cell? ⟨wr.heap.size, 3, none⟩ = some (.bool v.on) := rY.cell (j := 3) (by simp)
              have lY := rY.lt
              have HBY := Lib.hid bY
              have HGY := Lib.hid gY
              have hg0 : ¬ (v.group : Int) < 0 := by omega
              have hg1 : ¬ (l.length : Int) ≤ (v.group : Int) := by omega
              have hg2 : (v.group : Int) < (l.length : Int) := by omega
              have hr0 : ¬ (v.ride : Int) < 0 := by omega
              have hr1 : ¬ (f.rides.length : Int) ≤ (v.ride : Int) := by omega
              have hr2 : (v.ride : Int) < (f.rides.length : Int) := by omega
              clear t0 t1 t2 t3 t4 t5 lb3 hY rY bY gY HBw HRw
              cases hon : v.on with
              | true =>
                rw [hon] at p3
                obtain ⟨b, o, rfl, hb, hcs⟩ := F5.out.2.2.outer (by omega)
                have hb5 : b < w45.heap.size := Nat.lt_of_lt_of_le hb F5.out.1
                obtain ⟨-, g1, -, -, -⟩ := hcs v.group hv1
                obtain ⟨b4, o4, rfl, hb4, hc4⟩ := prc_cell F5.out.2.1 hv2
                have hb45 : b4 < w45.heap.size := Nat.lt_of_lt_of_le hb4 F5.out.1
                have k4 := (HBY.out.cell (p := ⟨b4, o4 + v.ride * 5 + 1, none⟩) hb45).trans hc4
                have k1 := (HBY.out.cell (p := ⟨b, o + v.group * 5 + 1, none⟩) hb5).trans g1
                have l4 : b4 < Y.heap.size := Nat.lt_of_lt_of_le hb45 HBY.out.size
                have l1 : b < Y.heap.size := Nat.lt_of_lt_of_le hb5 HBY.out.size
                have rf := R5.out.below HBY.out z5
                have f0 : Y.cell? ⟨w.heap.size, 0, none⟩ = some (.slice (some ⟨b4, o4, none⟩) f.rides.length c) := rf.cell (j := 0) (by simp)
                have lf := rf.lt
                have kg : Y.cell? ⟨g, v.ride, none⟩ = some (.int .i64 (paidL (costF f l) v.ride (L.take k))) := by
                  rw [HGY.out.cell (by rw [List.length_map, paidZ_len]; exact hv2), List.getElem?_map, paidZ_at _ _ hv2]
                  rfl
                have fg := HGY.out.frozen v.ride
                have lg := HGY.out.lt
                have hcost := cost_bds HA.out hv1 hv2
                have hpl := hbd v.ride hv2
                have hpo := paidZ_on (costF f l) f.rides.length (L.take k) v hon
                have hcf : costF f l v.group v.ride = (f.rides.getD v.ride default).price * (l.getD v.group default).size := rfl
                generalize (f.rides.getD v.ride default).price = pr at k4 hcf
                generalize (l.getD v.group default).size = sz at k1 hcf
                rw [hcf] at hcost hpo
                generalize hpp : paidL (costF f l) v.ride (L.take k) = pp at kg hpl hpo
                have e3 : IntKind.i64.wrap (pr * sz) = pr * sz := IntWalk.i64_in _ (by omega)
                have e4 : IntKind.i64.wrap (pp + pr * sz) = pp + pr * sz := IntWalk.i64_in _ (by omega)
                have rZ := (HGY.out.drewN 1).set v.ride (.int .i64 (pp + pr * sz))
                have bZ := (below_drewN HBY.out 1).setCell (p := ⟨g, v.ride, none⟩) hg (.int .i64 (pp + pr * sz))
                have HRZ : Hid (Row ((Y.drewN 1).setCell ⟨g, v.ride, none⟩ (.int .i64 (pp + pr * sz))) g 3 ((paidZ (costF f l) f.rides.length (L.take (k + 1))).map (Value.int .i64))) := by
                  show Row _ _ _ _
                  rw [HSN.out, hpo, List.map_set]
                  exact rZ
                have HBZ := Lib.hid bZ
                clear hcs g1 hb4 hc4 hcost hpl hpo hcf hpp rZ bZ rf hbd hon
                go_upto_region 25 with fail
                refine wp_tail 20 (by kernel_rfl) (by kernel_rfl) ?_
                simp only [List.take_succ_cons, List.take_zero, List.drop_succ_cons, List.drop_zero]
                repeat still_step
                refine wpStill_nil ?_
                go_wp2_with fail
                go_roundw
                case rel => exact ⟨k + 1, by omega, by go_num, HBZ.out, HRZ.out⟩
                case measure => simp [intOf]; omega
              | false =>
                rw [hon] at p3
                have HRZ : Hid (Row Y g 3 ((paidZ (costF f l) f.rides.length (L.take (k + 1))).map (Value.int .i64))) := by
                  show Row _ _ _ _
                  rw [HSN.out, paidZ_off _ _ _ _ hon]
                  exact HGY.out
                clear hon hbd
                go_wp2_with fail
                go_roundw
                case rel => exact ⟨k + 1, by omega, by go_num, HBY.out, HRZ.out⟩
                case measure => simp [intOf]; omega
            · have hge : ¬ (k : Int) < (L.length : Int) := by omega
              have ek : k = L.length := by omega
              rw [ek, List.take_length, ← HA.out.paid] at hrow
              have hts := HA.out.tl
              have hsum := HA.out.sum
              rw [HS.out] at hsum
              have hn8 : f.rides.length ≤ 10 := n1
              have HS3 := Lib.hid hsum
              have HR3 := Lib.hid hrow
              clear ek hrow hbel HRw hsum
              go_upto_region 27 with fail
              go_loopw [11, 16] (fun sv iv wr => ∃ j : Nat, j ≤ f.rides.length ∧ iv = .int .i64 j ∧ sv = .int .i64 (S - sumT (fun r => ts.getD r 0) j) ∧ Below w45.heap.size w45 wr ∧ Row wr g 3 (ts.map (Value.int .i64))) (fun _ iv _ => f.rides.length - (intOf iv).toNat)
              case atStart => exact ⟨0, Nat.zero_le _, rfl, by simp [sumT], HBw.out, HR3.out⟩
              case round =>
                obtain ⟨j, hj, rfl, rfl, hbel, hrow⟩ := hrel
                have HBz := Lib.hid hbel
                have HRz := Lib.hid hrow
                have hsj := sumT_bd (g := fun r => ts.getD r 0) 600000 j (fun i hi => by have := HA.out.taken i (by omega); omega)
                by_cases hlt : j < f.rides.length
                · have hlt' : (j : Int) < (f.rides.length : Int) := by omega
                  obtain ⟨b7, o7, rfl, hb7, hc7⟩ := T5.out.2 (by omega)
                  have hjs : (ts.map (Value.int .i64))[j]? = some (.int .i64 (ts.getD j 0)) := by
                    rw [List.getElem?_map, List.getD_eq_getElem?_getD, List.getElem?_eq_getElem (by omega)]
                    rfl
                  have k7 := (hbel.cell (p := ⟨b7, o7 + j, none⟩) hb7).trans (hc7 j _ hjs)
                  have lb7 : b7 < wr.heap.size := Nat.lt_of_lt_of_le hb7 hbel.size
                  have HSn : Hid (S - sumT (fun r => ts.getD r 0) (j + 1) = S - sumT (fun r => ts.getD r 0) j - ts.getD j 0) := by
                    show _ = _
                    rw [show sumT (fun r => ts.getD r 0) (j + 1) = sumT (fun r => ts.getD r 0) j + ts.getD j 0 from rfl]
                    omega
                  have htk := HA.out.taken j hlt
                  generalize ts.getD j 0 = tj at k7 HSn htk
                  generalize sumT (fun r => ts.getD r 0) j = sj at hsj HSn ⊢
                  have e3 : IntKind.i64.wrap (S - sj - tj) = S - sj - tj := IntWalk.i64_in _ (by omega)
                  have e4 : IntKind.i64.wrap ((j : Int) + 1) = (j : Int) + 1 := IntWalk.i64_in _ (by omega)
                  clear hc7 hjs hsj htk hbel hrow
                  go_wp2_with fail
                  go_roundw
                  case rel => exact ⟨j + 1, by omega, by go_num, by rw [HSn.out], HBz.out, HRz.out⟩
                  case measure => simp [intOf]; omega
                · have hge : ¬ (j : Int) < (f.rides.length : Int) := by omega
                  obtain rfl : j = f.rides.length := by omega
                  have hz := HS3.out
                  have hsi := sameInts_eq ts (some ⟨g, 0, none⟩) A36 f.rides.length c36 wr.heap.size w45.heap.size wr (hrow.reads (n := ts.length) (size := 1) (by simp) hrow.lt) (by rw [hts]; exact T5.out.below hbel) (Nat.le_refl _) hbel.size (by omega)
                  rw [hts] at hsi
                  have HSI := Lib.hid hsi
                  rw [hz]
                  clear hz hsi hsj hbel hrow
                  go_wp2_with (first
                    | (go_at_call 29; refine HSI.out.mono ?_; rintro e w6 ⟨rfl, hb6⟩; have HB6 := Lib.hid (b55.out.trans ((HBz.out.trans (hb6.mono HBz.out.size)).mono b55.out.size)); clear hb6)
                    | (go_at_call 16; refine (Hfin.out _ HB6.out).mono ?_; rintro e w7 ⟨rfl, hb7⟩; have HB7 := Lib.hid hb7; clear hb7))
                  go_ret
                  exact ⟨rfl, HB7.out⟩
    · have dk : (k != 0) = true := by simpa using hk
      clear hL
      go_wp2_with (go_at_call 16; refine (Hfin.out _ b55.out).mono ?_; rintro e w6 ⟨rfl, hb6⟩; have HB6 := Lib.hid hb6; clear hb6)
      go_ret
      exact ⟨rfl, HB6.out⟩
end Go.Proofs.Ytjkilikbbkkcnaa
