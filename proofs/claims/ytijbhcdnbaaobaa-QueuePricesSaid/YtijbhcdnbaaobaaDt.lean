/- The walk of QueueHome. Conditions: an evening and groups that read as data. -/
import Derived.Test.YtijbhcdnbaaobaaDs
import Derived.Test.YtijbhcdnbaaobaaEp
namespace Go.Proofs.Ytijbhcdnbaaobaa
open Go.RowKit

/-- What the specification's evening says is what the program's says. -/
structure RefOk (f : EveZ) (l : List GrpZ) (x9 : RawR) : Prop where
  ok : checkQ f l = 0 → PlayOk f l x9
  takes : rtabZ f l x9 2 f.rides.length = takesZ f l
  lines : rtabZ f l x9 3 f.rides.length = linesZ f l
  home : rtabZ f l x9 4 l.length = homeZ f l
  tok : checkQ f l = 0 → (List.range l.length).map (fun i => x9.gu i 3) = heldZ f l
  vis : checkQ f l = 0 → x9.vis = (eveS f l).visits
theorem ref_ok (f : EveZ) (l : List GrpZ) : ∃ x9, RefOk f l x9 := by
  by_cases hc : checkQ f l = 0
  · obtain ⟨x9, h1, h2, h3, h4, h5, h6⟩ := play_ok f l hc
    have key1 : ∀ (g : Nat → Int) (k : RdS → Int), (∀ r, r < f.rides.length → g r = k ((eveS f l).rd r)) → (List.range f.rides.length).map g = (eveS f l).rides.map k := fun g k h => by
      refine List.ext_getElem? fun r => ?_
      rw [List.getElem?_map, List.getElem?_map]
      by_cases hr : r < f.rides.length
      · have hr' : r < (eveS f l).rides.length := by omega
        rw [List.getElem?_range hr, List.getElem?_eq_getElem hr']
        show some (g r) = some (k _)
        rw [h r hr]
        unfold EvS.rd
        rw [List.getD_eq_getElem?_getD, List.getElem?_eq_getElem hr']
        rfl
      · rw [List.getElem?_eq_none (l := List.range _) (by simp; omega), List.getElem?_eq_none (l := (eveS f l).rides) (by omega)]
        rfl
    have key2 : ∀ (g : Nat → Int) (k : GpS → Int), (∀ i, i < l.length → g i = k ((eveS f l).grp i)) → (List.range l.length).map g = (eveS f l).groups.map k := fun g k h => by
      refine List.ext_getElem? fun r => ?_
      rw [List.getElem?_map, List.getElem?_map]
      by_cases hr : r < l.length
      · have hr' : r < (eveS f l).groups.length := by omega
        rw [List.getElem?_range hr, List.getElem?_eq_getElem hr']
        show some (g r) = some (k _)
        rw [h r hr]
        unfold EvS.grp
        rw [List.getD_eq_getElem?_getD, List.getElem?_eq_getElem hr']
        rfl
      · rw [List.getElem?_eq_none (l := List.range _) (by simp; omega), List.getElem?_eq_none (l := (eveS f l).groups) (by omega)]
        rfl
    refine ⟨x9, fun _ => h1, ?_, ?_, ?_, fun _ => ?_, fun _ => h4⟩
    · unfold rtabZ takesZ
      rw [if_pos hc, if_pos hc]
      exact key1 _ _ fun r hr => (h2 r hr).1
    · unfold rtabZ linesZ
      rw [if_pos hc, if_pos hc]
      exact key1 _ _ fun r hr => (h2 r hr).2
    · unfold rtabZ homeZ
      rw [if_pos hc, if_pos hc]
      exact key2 _ _ fun i hi => (h3 i hi).1
    · unfold heldZ
      rw [if_pos hc]
      exact key2 _ _ fun i hi => (h3 i hi).2
  · refine ⟨raw0 f l, fun h => absurd h hc, ?_, ?_, ?_, fun h => absurd h hc, fun h => absurd h hc⟩
    · unfold rtabZ takesZ
      rw [if_neg hc, if_neg hc]
    · unfold rtabZ linesZ
      rw [if_neg hc, if_neg hc]
    · unfold rtabZ homeZ
      rw [if_neg hc, if_neg hc]
theorem home_len {f : EveZ} {l : List GrpZ} (hl : l.length ≤ 70) : (homeZ f l).length ≤ 1000 := by
  unfold homeZ
  split
  · rename_i h
    rw [List.length_map, (eve_lens h).1]
    omega
  · simp
set_option maxRecDepth 100000 in
set_option maxHeartbeats 4000000 in
theorem qhome_walk (f : EveZ) (l : List GrpZ) (A A2 : Option Addr) (c c2 B : Nat) (rs : List (Option Addr × Nat)) (w : World) (hB : B ≤ w.heap.size) (hr : Reads w B 5 A f.rides.length (bthCells f.rides)) (hn : f.rides.length ≤ maxLen) (hl : GrpsIn w B A2 rs l) :
    Calls Try.prog 7 #[eveV f A c, .slice A2 l.length c2] w (TrueP w) := by
  obtain ⟨W, hW⟩ : ∃ W, W = w.alloc (.cells #[.slice A f.rides.length c, .int .i64 f.walk] 24) := ⟨_, rfl⟩
  have bW : Below w.heap.size w W := by subst hW; exact (Below.refl _ _).alloc (Nat.le_refl _) _
  have r0 : Row W w.heap.size 24 [.slice A f.rides.length c, .int .i64 f.walk] := by subst hW; exact Row.new w _ _
  have q0 : W.cell? ⟨w.heap.size, 0, none⟩ = some (.slice A f.rides.length c) := r0.cell (j := 0) (by simp)
  have q1 : W.cell? ⟨w.heap.size, 1, none⟩ = some (.int .i64 f.walk) := r0.cell (j := 1) (by simp)
  have z0 := r0.lt
  have HR : Hid (∀ X, Below w.heap.size w X → B ≤ X.heap.size ∧ Reads X B 5 A f.rides.length (bthCells f.rides) ∧ GrpsIn X B A2 rs l) := fun X hX => ⟨Nat.le_trans hB hX.size, hr.below (hX.mono hB), hl.below (hX.mono hB)⟩
  have HF := Lib.hid (far_any f l A A2 c c2 B rs W (HR.out W bW).1 hn (HR.out W bW).2.2)
  have Hfin : Hid (∀ X : World, Below w.heap.size w X → Calls Try.prog 16 #[] X fun e w' => e = .returned (.bool true) ∧ Below w.heap.size w w') := fun X hX => (works_any X).mono fun _ _ h => ⟨h.1, hX.trans (h.2.mono hX.size)⟩
  unfold eveV at HF ⊢
  clear hr hl
  go_enter Try.func7, Try.ntmps7
  go_upto_region 1 with (fail)
  rw [← hW]
  clear hW
  cases hfb : farB f l with
  | true =>
    rw [hfb] at HF
    go_wp2_with (first | (go_at_call 15; refine HF.out.mono ?_; rintro e w1 ⟨rfl, hb1⟩; have b1 := bW.trans (hb1.mono bW.size); clear hb1) | (go_at_call 16; refine (Hfin.out _ b1).mono ?_; rintro e w2 ⟨rfl, hb2⟩; have HB2 := Lib.hid hb2; clear hb2))
    go_ret
    exact ⟨rfl, HB2.out⟩
  | false =>
    rw [hfb] at HF
    obtain ⟨n1, n2, n3⟩ := far_not hfb
    have HC : Hid (∀ X, Below w.heap.size w X → Calls Try.prog 18 #[eveV f A c] X (EveTo X f)) := fun X hX => rCopy_any f A c B X (HR.out X hX).1 (HR.out X hX).2.1 (by omega)
    have HG : Hid (∀ X, Below w.heap.size w X → Calls Try.prog 19 #[.slice A2 l.length c2] X (GrpTo X l)) := fun X hX => rCopyGroups_any l A2 c2 B rs X (HR.out X hX).1 (HR.out X hX).2.2 (by omega) (fun i hi => by have := n3 i hi; omega)
    obtain ⟨k, hk⟩ : ∃ k, k = checkQ f l := ⟨_, rfl⟩
    obtain ⟨ts, hts⟩ : ∃ ts, ts = homeZ f l := ⟨_, rfl⟩
    have htl : ts.length ≤ 1000 := by rw [hts]; exact home_len n2
    obtain ⟨x9, h9⟩ := ref_ok f l
    have HT : Hid (∀ (X : World) (A1 A3 : Option Addr) (c1 c3 : Nat) (rs3 : List (Option Addr × Nat)), Reads X X.heap.size 5 A1 f.rides.length (bthCells f.rides) → GrpsIn X X.heap.size A3 rs3 l → Calls Try.prog 34 #[eveV f A1 c1, .slice A3 l.length c3] X (ListTo X ts k)) := fun X A1 A3 c1 c3 rs3 h4 h5 => by
      rw [hk, hts]
      exact Home_any f l A1 A3 c1 c3 X.heap.size rs3 X (Nat.le_refl _) h4 hn h5
    have HH : Hid (∀ X, Below w.heap.size w X → Calls Try.prog 35 #[eveV f A c, .slice A2 l.length c2] X (ListTo X ts k)) := fun X hX => by
      have h1 := rHome_any f l A A2 c c2 B rs X (HR.out X hX).1 (HR.out X hX).2.1 hn (HR.out X hX).2.2 x9 h9.ok
      rw [h9.home] at h1
      rw [hk, hts]
      exact h1
    unfold eveV at HC HT HH
    clear hfb hn hk hts n1 n2 n3 h9 x9
    go_upto_region 3 with (go_at_call 15; refine HF.out.mono ?_; rintro e w1 ⟨rfl, hb1⟩)
    have b1 := bW.trans (hb1.mono bW.size)
    have r1 := r0.below hb1 z0
    have z1 := r1.lt
    have x0 : w1.cell? ⟨w.heap.size, 0, none⟩ = some (.slice A f.rides.length c) := r1.cell (j := 0) (by simp)
    have x1 : w1.cell? ⟨w.heap.size, 1, none⟩ = some (.int .i64 f.walk) := r1.cell (j := 1) (by simp)
    have B1 := Lib.hid b1
    have R1 := Lib.hid r1
    clear q0 q1 r0 hb1 z0 HF bW b1 r1 HR
    go_upto_region 4 with (first
      | (go_at_call 34; refine HQ5.out.mono ?_; rintro e w35 ⟨hb5, A36, c36, rfl, hr6⟩; have HB35 := Lib.hid (B34.out.trans (hb5.mono B34.out.size)); have HR36 := Lib.hid hr6; clear hb5 hr6)
      | (go_at_call 19; refine (HG.out _ (B1.out.trans (B33.out.mono B1.out.size))).mono ?_; rintro e w34 ⟨A35, c35, rs35, rfl, hb4, hg5⟩; have hq := HT.out w34 A34 A35 c34 c35 rs35 ((hE33.out.below hb4).more hb4.size) hg5; have HQ5 := Lib.hid hq; have B34 := Lib.hid (B33.out.trans (hb4.mono B33.out.size)); clear hb4 hg5 hq)
      | (go_at_call 18; refine (HC.out _ B1.out).mono ?_; rintro e w33 ⟨A34, c34, rfl, hb3, ho3⟩; have B33 := Lib.hid hb3; have hE33 := Lib.hid (own_rds ho3); clear hb3 ho3; unfold eveV))
    have r35 := R1.out.below HB35.out z1
    have y0 : w35.cell? ⟨w.heap.size, 0, none⟩ = some (.slice A f.rides.length c) := r35.cell (j := 0) (by simp)
    have y1 : w35.cell? ⟨w.heap.size, 1, none⟩ = some (.int .i64 f.walk) := r35.cell (j := 1) (by simp)
    have z35 := r35.lt
    have B5 := Lib.hid (B1.out.trans (HB35.out.mono B1.out.size))
    have HH5 := Lib.hid (HH.out w35 B5.out)
    clear x0 x1 B34 B33 hE33 HQ5 r35 HH HT HC HG R1 HB35 z1
    go_upto_region 5 with (go_at_call 35; refine HH5.out.mono ?_; rintro e w6 ⟨hb6, A7, c7, rfl, hr7⟩)
    have B6 := Lib.hid (B5.out.trans (hb6.mono B5.out.size))
    have HSI := Lib.hid (sameInts_eq ts A36 A7 c36 c7 w35.heap.size w6.heap.size w6 (HR36.out.below hb6) hr7 hb6.size (Nat.le_refl _) htl)
    clear hb6 hr7 HH5 y0 y1 z35 HR36
    go_wp2_with (first
      | (go_at_call 29; refine HSI.out.mono ?_; rintro e w7 ⟨rfl, hb7⟩; have HB7 := Lib.hid (B6.out.trans (hb7.mono B6.out.size)); clear hb7)
      | (go_at_call 16; refine (Hfin.out _ HB7.out).mono ?_; rintro e w8 ⟨rfl, hb8⟩; have HB8 := Lib.hid hb8; clear hb8))
    go_ret
    exact ⟨rfl, HB8.out⟩
end Go.Proofs.Ytijbhcdnbaaobaa
