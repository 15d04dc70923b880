/- The walk of QueueWaits. Conditions: an evening and groups that read as data. -/
import Derived.Test.YtijbhcdnbaaobaaDt
import Derived.Test.YtijbhcdnbaaobaaDx
namespace Go.Proofs.Ytijbhcdnbaaobaa
open Go.RowKit

theorem lines_len {f : EveZ} {l : List GrpZ} (hl : f.rides.length ≤ 70) : (linesZ f l).length ≤ 1000 := by
  unfold linesZ
  split
  · rename_i h
    rw [List.length_map, (eve_lens h).2.1]
    omega
  · simp
set_option maxRecDepth 100000 in
set_option maxHeartbeats 4000000 in
theorem qwaits_walk (f : EveZ) (l : List GrpZ) (A A2 : Option Addr) (c c2 B : Nat) (rs : List (Option Addr × Nat)) (w : World) (hB : B ≤ w.heap.size) (hr : Reads w B 5 A f.rides.length (bthCells f.rides)) (hn : f.rides.length ≤ maxLen) (hl : GrpsIn w B A2 rs l) :
    Calls Try.prog 6 #[eveV f A c, .slice A2 l.length c2] w (TrueP w) := by
  obtain ⟨W, hW⟩ : ∃ W, W = w.alloc (.cells #[.slice A f.rides.length c, .int .i64 f.walk] 24) := ⟨_, rfl⟩
  have bW : Below w.heap.size w W := by subst hW; exact (Below.refl _ _).alloc (Nat.le_refl _) _
  have r0 : Row W w.heap.size 24 [.slice A f.rides.length c, .int .i64 f.walk] := by subst hW; exact Row.new w _ _
  have q0 : W.cell? ⟨w.heap.size, 0, none⟩ = some (.slice A f.rides.length c) := r0.cell (j := 0) (by simp)
  have q1 : W.cell? ⟨w.heap.size, 1, none⟩ = some (.int .i64 f.walk) := r0.cell (j := 1) (by simp)
  have z0 := r0.lt
  have HR : Hid (∀ X, Below w.heap.size w X → B ≤ X.heap.size ∧ Reads X B 5 A f.rides.length (bthCells f.rides) ∧ GrpsIn X B A2 rs l) := fun X hX => ⟨Nat.le_trans hB hX.size, hr.below (hX.mono hB), hl.below (hX.mono hB)⟩
  have HF := Lib.hid (far_any f l A A2 c c2 B rs W (HR.out W bW).1 hn (HR.out W bW).2.2)
  have Hfin : Hid (∀ X : World, Below w.heap.size w X → Calls Try.prog 16 #[] X fun e w' => e = .returned (.bool true) ∧ Below w.heap.size w w') := fun X hX => (works_any X).mono fun _ _ h => ⟨h.1, hX.trans (h.2.mono hX.size)⟩
  unfold eveV at HF ⊢
  clear hr hl
  go_enter Try.func6, Try.ntmps6
  go_upto_region 1 with (fail)
  rw [← hW]
  clear hW
  cases hfb : farB f l with
  | true =>
    rw [hfb] at HF
    go_wp2_with (first | (go_at_call 15; refine HF.out.mono ?_; rintro e w1 ⟨rfl, hb1⟩; have b1 := bW.trans (hb1.mono bW.size); clear hb1) | (go_at_call 16; refine (Hfin.out _ b1).mono ?_; rintro e w2 ⟨rfl, hb2⟩; have HB2 := Lib.hid hb2; clear hb2))
    go_ret
    exact ⟨rfl, HB2.out⟩
  | false =>
    rw [hfb] at HF
    obtain ⟨n1, n2, n3⟩ := far_not hfb
    have HC : Hid (∀ X, Below w.heap.size w X → Calls Try.prog 18 #[eveV f A c] X (EveTo X f)) := fun X hX => rCopy_any f A c B X (HR.out X hX).1 (HR.out X hX).2.1 (by omega)
    have HG : Hid (∀ X, Below w.heap.size w X → Calls Try.prog 19 #[.slice A2 l.length c2] X (GrpTo X l)) := fun X hX => rCopyGroups_any l A2 c2 B rs X (HR.out X hX).1 (HR.out X hX).2.2 (by omega) (fun i hi => by have := n3 i hi; omega)
    obtain ⟨k, hk⟩ : ∃ k, k = checkQ f l := ⟨_, rfl⟩
    obtain ⟨ts, hts⟩ : ∃ ts, ts = linesZ f l := ⟨_, rfl⟩
    have htl : ts.length ≤ 1000 := by rw [hts]; exact lines_len (by omega)
    obtain ⟨x9, h9⟩ := ref_ok f l
    have HT : Hid (∀ (X : World) (A1 A3 : Option Addr) (c1 c3 : Nat) (rs3 : List (Option Addr × Nat)), Reads X X.heap.size 5 A1 f.rides.length (bthCells f.rides) → GrpsIn X X.heap.size A3 rs3 l → Calls Try.prog 30 #[eveV f A1 c1, .slice A3 l.length c3] X (ListTo X ts k)) := fun X A1 A3 c1 c3 rs3 h4 h5 => by
      rw [hk, hts]
      exact Lines_any f l A1 A3 c1 c3 X.heap.size rs3 X (Nat.le_refl _) h4 hn h5
    have HH : Hid (∀ X, Below w.heap.size w X → Calls Try.prog 31 #[eveV f A c, .slice A2 l.length c2] X (ListTo X ts k)) := fun X hX => by
      have h1 := rLines_any f l A A2 c c2 B rs X (HR.out X hX).1 (HR.out X hX).2.1 hn (HR.out X hX).2.2 x9 h9.ok
      rw [h9.lines] at h1
      rw [hk, hts]
      exact h1
    obtain ⟨wa, hwa⟩ : ∃ wa, wa = waitsA f l := ⟨_, rfl⟩
    obtain ⟨wb, hwb⟩ : ∃ wb, wb = waitsB f l := ⟨_, rfl⟩
    have HT2 : Hid (∀ (X : World) (A1 A3 : Option Addr) (c1 c3 : Nat) (rs3 : List (Option Addr × Nat)), Reads X X.heap.size 5 A1 f.rides.length (bthCells f.rides) → GrpsIn X X.heap.size A3 rs3 l → Calls Try.prog 32 #[eveV f A1 c1, .slice A3 l.length c3] X (TwoTo X wa wb k)) := fun X A1 A3 c1 c3 rs3 h4 h5 => by
      rw [hk, hwa, hwb]
      exact Waits_any f l A1 A3 c1 c3 X.heap.size rs3 X (Nat.le_refl _) h4 hn h5
    have HH2 : Hid (∀ X, Below w.heap.size w X → Calls Try.prog 33 #[eveV f A c, .slice A2 l.length c2] X (TwoTo X wa wb k)) := fun X hX => by
      rw [hk, hwa, hwb]
      exact rWaits_any f l A A2 c c2 B rs X (HR.out X hX).1 (HR.out X hX).2.1 hn (HR.out X hX).2.2 x9 h9.ok h9.vis
    unfold eveV at HC HT HH HT2 HH2
    clear hwa hwb hfb hn hk hts n1 n2 n3 h9 x9
    go_upto_region 3 with (go_at_call 15; refine HF.out.mono ?_; rintro e w1 ⟨rfl, hb1⟩)
    have b1 := bW.trans (hb1.mono bW.size)
    have r1 := r0.below hb1 z0
    have z1 := r1.lt
    have x0 : w1.cell? ⟨w.heap.size, 0, none⟩ = some (.slice A f.rides.length c) := r1.cell (j := 0) (by simp)
    have x1 : w1.cell? ⟨w.heap.size, 1, none⟩ = some (.int .i64 f.walk) := r1.cell (j := 1) (by simp)
    have B1 := Lib.hid b1
    have R1 := Lib.hid r1
    clear q0 q1 r0 hb1 z0 HF bW b1 r1 HR
    go_upto_region 4 with (first
      | (go_at_call 30; refine HQ5.out.mono ?_; rintro e w35 ⟨hb5, A36, c36, rfl, hr6⟩; have HB35 := Lib.hid (B34.out.trans (hb5.mono B34.out.size)); have HR36 := Lib.hid hr6; clear hb5 hr6)
      | (go_at_call 19; refine (HG.out _ (B1.out.trans (B33.out.mono B1.out.size))).mono ?_; rintro e w34 ⟨A35, c35, rs35, rfl, hb4, hg5⟩; have hq := HT.out w34 A34 A35 c34 c35 rs35 ((hE33.out.below hb4).more hb4.size) hg5; have HQ5 := Lib.hid hq; have B34 := Lib.hid (B33.out.trans (hb4.mono B33.out.size)); clear hb4 hg5 hq)
      | (go_at_call 18; refine (HC.out _ B1.out).mono ?_; rintro e w33 ⟨A34, c34, rfl, hb3, ho3⟩; have B33 := Lib.hid hb3; have hE33 := Lib.hid (own_rds ho3); clear hb3 ho3; unfold eveV))
    have r35 := R1.out.below HB35.out z1
    have y0 : w35.cell? ⟨w.heap.size, 0, none⟩ = some (.slice A f.rides.length c) := r35.cell (j := 0) (by simp)
    have y1 : w35.cell? ⟨w.heap.size, 1, none⟩ = some (.int .i64 f.walk) := r35.cell (j := 1) (by simp)
    have z35 := r35.lt
    have B5 := Lib.hid (B1.out.trans (HB35.out.mono B1.out.size))
    have HH5 := Lib.hid (HH.out w35 B5.out)
    clear x0 x1 B34 B33 hE33 HQ5 r35 HH HT
    go_upto_region 5 with (go_at_call 31; refine HH5.out.mono ?_; rintro e w6 ⟨hb6, A7, c7, rfl, hr7⟩)
    have B6 := Lib.hid (B5.out.trans (hb6.mono B5.out.size))
    have r6 := R1.out.below (HB35.out.trans (hb6.mono HB35.out.size)) z1
    have S36 := Lib.hid ((HR36.out.below hb6).more hb6.size)
    have S7 := Lib.hid hr7
    have R6 := Lib.hid r6
    have z6 := r6.lt
    have x0 : w6.cell? ⟨w.heap.size, 0, none⟩ = some (.slice A f.rides.length c) := r6.cell (j := 0) (by simp)
    have x1 : w6.cell? ⟨w.heap.size, 1, none⟩ = some (.int .i64 f.walk) := r6.cell (j := 1) (by simp)
    clear hb6 hr7 HH5 y0 y1 z35 HR36 HB35 R1 z1 r6
    go_upto_region 6 with (first
      | (go_at_call 32; refine HQ5.out.mono ?_; rintro e w45 ⟨rfl, hb5⟩; have HB45 := Lib.hid (B44.out.trans (hb5.mono B44.out.size)); clear hb5)
      | (go_at_call 19; refine (HG.out _ (B6.out.trans (B43.out.mono B6.out.size))).mono ?_; rintro e w44 ⟨A45, c45, rs45, rfl, hb4, hg5⟩; have hq := HT2.out w44 A44 A45 c44 c45 rs45 ((hE43.out.below hb4).more hb4.size) hg5; have HQ5 := Lib.hid hq; have B44 := Lib.hid (B43.out.trans (hb4.mono B43.out.size)); clear hb4 hg5 hq)
      | (go_at_call 18; refine (HC.out _ B6.out).mono ?_; rintro e w43 ⟨A44, c44, rfl, hb3, ho3⟩; have B43 := Lib.hid hb3; have hE43 := Lib.hid (own_rds ho3); clear hb3 ho3; unfold eveV))
    have r45 := R6.out.below HB45.out z6
    have y0 : w45.cell? ⟨w.heap.size, 0, none⟩ = some (.slice A f.rides.length c) := r45.cell (j := 0) (by simp)
    have y1 : w45.cell? ⟨w.heap.size, 1, none⟩ = some (.int .i64 f.walk) := r45.cell (j := 1) (by simp)
    have z45 := r45.lt
    have B7 := Lib.hid (B6.out.trans (HB45.out.mono B6.out.size))
    have HH6 := Lib.hid (HH2.out w45 B7.out)
    clear x0 x1 B44 B43 hE43 HQ5 r45 HH2 HT2 HC HG R6 z6
    go_upto_region 7 with (go_at_call 33; refine HH6.out.mono ?_; rintro e w8 ⟨rfl, hb8⟩)
    have B8 := Lib.hid (B7.out.trans (hb8.mono B7.out.size))
    have b68 := HB45.out.trans (hb8.mono HB45.out.size)
    have HSI := Lib.hid (sameInts_eq ts A36 A7 c36 c7 w6.heap.size w6.heap.size w8 (S36.out.below b68) (S7.out.below b68) b68.size b68.size htl)
    clear hb8 HH6 y0 y1 z45 HB45 b68 S36 S7
    go_wp2_with (first
      | (go_at_call 29; refine HSI.out.mono ?_; rintro e w10 ⟨rfl, hb10⟩; have B10 := Lib.hid (B8.out.trans (hb10.mono B8.out.size)); clear hb10)
      | (go_at_call 16; refine (Hfin.out _ B10.out).mono ?_; rintro e w11 ⟨rfl, hb11⟩; have HB11 := Lib.hid hb11; clear hb11))
    go_ret
    exact ⟨rfl, HB11.out⟩
end Go.Proofs.Ytijbhcdnbaaobaa
