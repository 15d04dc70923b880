/- TokensFloats: Float answers as the specification's; with this cash the deals are right, and with one cent less in a till they are not. No conditions. -/
import Derived.Test.YtonbaikdpcmbiaaQe
import Derived.Test.YtonbaikdpcmbiaaWv
import Derived.Test.YtonbaikdpcmbiaaFrame
namespace Go.Proofs.Ytonbaikdpcmbiaa
open Go.Joins Go.ChangeShapes Go.WideShapes Go.ChangeAt Go.RowKit Go.Deep

theorem same_self2 (xs : List Int) (A A' : Option Addr) (n m c c' B : Nat) (w : World) (hr : Reads w B 1 A n (intCells xs)) (hs : Reads w w.heap.size 1 A' m (intCells xs)) (hn : n ≤ 8) (hm : m ≤ 8) :
    Calls Try.prog 29 #[.slice A n c, .slice A' m c'] w fun e w' => e = .returned (.bool true) ∧ Below w.heap.size w w' :=
  (sameInts_any xs xs A A' n m c c' _ _ w hr hs (by unfold maxLen; omega) (by unfold maxLen; omega)).mono fun e w' ⟨he, hk⟩ => ⟨by rw [he]; simp, hk.to_below (Nat.le_refl _) (by simp)⟩
theorem float_zero {F : Fair} {l : List Deal} (h : (floatS F l).2 = 0) : validB F = true ∧ errS (richS F) l = 0 ∧ floatS F l = (needK (richS F) l l.length, 0) := by
  unfold floatS at h ⊢
  by_cases hv : validB F = false
  · rw [if_pos hv] at h; cases h
  rw [if_neg hv] at h ⊢
  by_cases he : errS (richS F) l = 0
  · rw [if_pos he]
    exact ⟨by simpa using hv, he, rfl⟩
  · rw [if_neg he] at h; exact absurd h he

set_option maxHeartbeats 2000000 in
set_option maxRecDepth 100000 in
theorem floats_walk (F : Fair) (R : Refs) (l : List Deal) (A : Option Addr) (c B : Nat) (w : World) (hB : B ≤ w.heap.size) (hF : FairIn w B F R) (hl : Reads w B 5 A l.length (dealCells l)) (hn : l.length ≤ maxLen) (hc : l.length ≤ c) (_hcm : c ≤ maxLen) :
    Calls Try.prog 5 #[fairV F R, .slice A l.length c] w (WPost w) := by
  obtain ⟨S1, k1, S2, k2, S3, k3⟩ := R
  obtain ⟨i0, hi, hz0, hz1, hz2⟩ := info_parts Try.info_intQ
  obtain ⟨W, hW⟩ : ∃ W, W = w.alloc (.cells (fairCells F ⟨S1, k1, S2, k2, S3, k3⟩) 25) := ⟨_, rfl⟩
  have sW : W.heap.size = w.heap.size + 1 := by subst hW; simp
  have bW : Below w.heap.size w W := by subst hW; exact (Below.refl _ _).alloc (Nat.le_refl _) _
  have rF : Row W w.heap.size 25 (fairCells F ⟨S1, k1, S2, k2, S3, k3⟩).toList := by subst hW; exact Row.new _ _ _
  unfold fairV
  dsimp only
  cases hlong : longB l with
  | true =>
    go_enter Try.func5, Try.ntmps5
    go_wp2_with (go_at_call 14; refine (long_any l _ _ _ hn).mono ?_; rintro e w' ⟨rfl, rfl⟩)
    rw [← hW]
    refine (works_any _).mono ?_
    rintro e w1 ⟨rfl, hb1⟩
    go_wp2_with fail
    go_ret
    exact ⟨rfl, below_step bW hb1⟩
  | false =>
    obtain ⟨fz, q0, q1, q2, q3, q4, q5, q6, q7⟩ := row_8 rF
    go_enter Try.func5, Try.ntmps5
    go_wp2_with (go_at_call 14; refine (long_any l _ _ _ hn).mono ?_; rintro e w' ⟨rfl, rfl⟩)
    rw [← hW]
    clear hW hlong
    refine (Float_any F ⟨S1, k1, S2, k2, S3, k3⟩ l A c B W (by omega) (hF.below (bW.mono hB)) (hl.below (bW.mono hB)) hn).mono ?_
    rintro e w1 ⟨hb1, A1, m1, c1, rfl, hr1, hm1⟩
    have b1 := below_step bW hb1
    have s1 := hb1.size
    replace rF := rF.below hb1 rF.lt
    clear q0 q1 q2 q3 q4 q5 q6 q7 fz
    obtain ⟨fz, q0, q1, q2, q3, q4, q5, q6, q7⟩ := row_8 rF
    have Hr1 := Lib.hid hr1
    clear hr1
    go_wp2_with fail
    refine (rFloat_any F ⟨S1, k1, S2, k2, S3, k3⟩ l A c B w1 (by omega) (hF.below (b1.mono hB)) (hl.below (b1.mono hB)) hn hc).mono ?_
    rintro e w2 ⟨hb2, A2, m2, c2, rfl, hr2, hm2⟩
    have b2 := below_step b1 hb2
    have s2 := hb2.size
    replace rF := rF.below hb2 rF.lt
    have hr1 := Hr1.out.below hb2
    have Hsm := Lib.hid (same_self2 (floatS F l).1 A1 A2 m1 m2 c1 c2 w1.heap.size w2 hr1 hr2 hm1 hm2)
    clear q0 q1 q2 q3 q4 q5 q6 q7 fz hr2
    by_cases hfe : (floatS F l).2 = 0
    case neg =>
      have hfe' : ((floatS F l).2 != 0) = true := by simpa using hfe
      clear hfe
      go_wp2_with fail
      refine Hsm.out.mono ?_
      rintro e w3 ⟨rfl, hb3⟩
      have b3 := below_step b2 hb3
      go_wp2_with fail
      refine (works_any w3).mono ?_
      rintro e w4 ⟨rfl, hb4⟩
      go_wp2_with fail
      go_ret
      exact ⟨rfl, below_step b3 hb4⟩
    obtain ⟨hv, herr, hfl⟩ := float_zero hfe
    have hok := float_ok hv herr
    have hless := fun i hi hp => float_less (F := F) (l := l) hv herr i hi hp
    obtain ⟨hnl, hnb⟩ := float_facts herr
    have hcl := (bounds_of hv).c
    have hs8 := (bounds_of hv).s2
    rw [hfl] at hr1
    dsimp only at hr1
    rw [hfl]
    dsimp only
    have hn8 : (needK (richS F) l l.length).length ≤ 8 := by omega
    rw [← hnl] at hnb hless
    have hm1e : m1 = (needK (richS F) l l.length).length := by have := hr1.1; simp [intCells] at this; omega
    subst hm1e
    have Hok := Lib.hid hok
    have Hless := Lib.hid hless
    clear hfe herr hfl hok hless hnl hcl hs8
    generalize needK (richS F) l l.length = ns at *
    go_wp2_with fail
    refine Hsm.out.mono ?_
    rintro e w3 ⟨rfl, hb3⟩
    have b3 := below_step b2 hb3
    have s3 := hb3.size
    replace rF := rF.below hb3 rF.lt
    have hr3 := hr1.below (hb3.mono s2)
    obtain ⟨fz, q0, q1, q2, q3, q4, q5, q6, q7⟩ := row_8 rF
    clear hr1
    go_wp2_with fail
    refine (With_any F ⟨S1, k1, S2, k2, S3, k3⟩ ns A1 c1 w1.heap.size w3 (by omega) hr3 (by omega)).mono ?_
    rintro e w4 ⟨hb4, A4, c4, rfl, hca⟩
    have b4 := below_step b3 hb4
    have s4 := hb4.size
    replace rF := rF.below hb4 rF.lt
    have hF4 := with_fair (c := c4) (hF.below (b4.mono hB)) (by omega) hca (by omega)
    have hl4 := hl.below (b4.mono hB)
    have hr4 := hr3.below (hb4.mono (by omega))
    have HC := CheckDeals_any (withC F ns) ⟨S1, k1, A4, c4, S3, k3⟩ l A c w4.heap.size w4 (Nat.le_refl _) hF4 (hl4.more (by omega)) hn
    unfold fairV at HC ⊢
    dsimp only [withC] at HC ⊢
    rw [show errS { F with cash := ns } l = 0 from Hok.out] at HC
    have HCC := Lib.hid HC
    clear q0 q1 q2 q3 q4 q5 q6 q7 fz HC hF4
    go_wp2_with fail
    refine HCC.out.mono ?_
    rintro e w5 ⟨rfl, hb5⟩
    have b5 := below_step b4 hb5
    have s5 := hb5.size
    replace rF := rF.below hb5 rF.lt
    have hr5 := hr4.below (hb5.mono (by omega))
    go_wp2_with fail
    have hl5 := hl4.below (hb5.mono (by omega))
    have zF5 := rF.lt
    go_loopw [11] (fun i wr => ∃ q : Nat, q ≤ ns.length ∧ i = .int .i64 q ∧ Below w5.heap.size w5 wr) (fun i _ => ns.length - (intOf i).toNat)
    case atStart => exact ⟨0, Nat.zero_le _, rfl, Below.refl _ _⟩
    case round =>
      obtain ⟨q, hq, rfl, hbel⟩ := hrel
      have sr := hbel.size
      have br := b5.trans (hbel.mono (by omega))
      have rFr := rF.below hbel zF5
      have zFr := rFr.lt
      have hrr := hr5.below (hbel.mono (by omega))
      by_cases hqn : q < ns.length
      · have hqn' : (q : Int) < (ns.length : Int) := by omega
        obtain ⟨xb, xo, hA1, hxb, hxc⟩ := hrr.at1 hqn
        have hcq : wr.cell? ⟨xb, xo + q, none⟩ = some (.int .i64 (geti ns q)) := hxc q hqn
        have hnb1 := hnb q hqn
        subst hA1
        have hxw : xb < wr.heap.size := by omega
        clear hxc
        by_cases hz : geti ns q = 0
        · have hz' : (geti ns q == 0) = true := by simpa using hz
          clear hz
          go_wp2_with fail
          go_roundw
          case rel => exact ⟨q + 1, by omega, by go_num, hbel⟩
          case measure => simp [intOf]; omega
        · have hz' : (geti ns q == 0) = false := by simpa using hz
          have HL := Lib.hid (Hless.out q hqn hz)
          clear hz
          have m1' : 0 + ns.length ≤ maxLen := by unfold maxLen; omega
          have m2' : (0 + ns.length) * 8 ≤ 140737488355328 := by omega
          go_wp2_with (at_builtin; refine wpList_app _ rfl _ _ 22 rfl wr.heap.size 3 i0 (.int .i64 0) 1 8 Try.underlying22 hi hz0 hz1 hz2 rfl (by decide) (.slice none 0 0) 0 [] rfl (owns_nil _ _ _ _) w1.heap.size (some ⟨xb, xo, none⟩) ns.length c1 (intCells ns) rfl hrr ?q1 m1' m2' ?qb ?_)
          case q1 => intro u hu; simp [intCells] at hu; obtain ⟨y, _, rfl⟩ := hu; rfl
          case qb => exact Nat.le_refl _
          intro v' w6 hown hb6
          obtain ⟨A5, c5, rfl, hca5⟩ := cash_of hown
          obtain ⟨g5, rfl, hg5, rg5⟩ : ∃ g, A5 = some ⟨g, 0, none⟩ ∧ wr.heap.size ≤ g ∧ Row w6 g 3 (intCells ns) := by
            rcases hca5 with h | h
            · omega
            · exact h
          have s6 := hb6.size
          have zg5 := rg5.lt
          have e5 := int_at2 rg5 (k := q) hqn
          have hfz := rg5.frozen
          have rs5 := rg5.set q (.int .i64 (geti ns q - 1))
          rw [int_set2] at rs5
          have rF6 := rFr.below hb6 zFr
          have rF7 := rF6.far (show w.heap.size ≠ (⟨g5, q, none⟩ : Addr).block by dsimp only; omega) (.int .i64 (geti ns q - 1))
          have b7 : Below w5.heap.size w5 (w6.setCell ⟨g5, q, none⟩ (.int .i64 (geti ns q - 1))) := (hbel.trans (hb6.mono (by omega))).setCell (by dsimp only; omega) _
          have s7 : (w6.setCell ⟨g5, q, none⟩ (.int .i64 (geti ns q - 1))).heap.size = w6.heap.size := by simp [World.setCell]
          have zFq : ¬ g5 = w.heap.size := by omega
          have hq0 : 0 ≤ geti ns q := hnb1.1
          have hq1 : geti ns q ≤ 1000000 := hnb1.2
          clear hown hca5 rg5 hcq hnb1 rF6
          obtain ⟨fz, q0, q1, q2, q3, q4, q5, q6, q7⟩ := row_8 rF7
          have hls : (ns.set q (geti ns q - 1)).length = ns.length := List.length_set
          have hW7 := With_any F ⟨S1, k1, S2, k2, S3, k3⟩ (ns.set q (geti ns q - 1)) (some ⟨g5, 0, none⟩) c5 w6.heap.size (w6.setCell ⟨g5, q, none⟩ (.int .i64 (geti ns q - 1))) (by omega) (by rw [hls]; exact rs5.reads (by simp [intCells]) zg5) (by omega)
          rw [hls] at hW7
          have HW7 := Lib.hid hW7
          clear hW7
          go_wp2_with fail
          refine HW7.out.mono ?_
          generalize w6.setCell ⟨g5, q, none⟩ (.int .i64 (geti ns q - 1)) = w7 at *
          rintro e w8 ⟨hb8, A8, c8, rfl, hca8⟩
          have s8 := hb8.size
          have b8 : Below w5.heap.size w5 w8 := b7.trans (hb8.mono (by omega))
          have b8w := b5.trans (b8.mono (by omega))
          have hF8 := with_fair (c := c8) (hF.below (b8w.mono hB)) (by omega) hca8 (by omega)
          have HC8 := CheckDeals_any (withC F (ns.set q (geti ns q - 1))) ⟨S1, k1, A8, c8, S3, k3⟩ l A c w8.heap.size w8 (Nat.le_refl _) hF8 ((hl.below (b8w.mono hB)).more (by omega)) hn
          unfold fairV at HC8 ⊢
          dsimp only [withC] at HC8 ⊢
          rw [show errS { F with cash := ns.set q (geti ns q - 1) } l = 11 from HL.out] at HC8
          rw [hls] at HC8 ⊢
          have HCC8 := Lib.hid HC8
          clear q0 q1 q2 q3 q4 q5 q6 q7 fz HC8 hF8 hls
          go_wp2_with fail
          refine HCC8.out.mono ?_
          rintro e w9 ⟨rfl, hb9⟩
          go_wp2_with fail
          go_roundw
          case rel => exact ⟨q + 1, by omega, by go_num, b8.trans (hb9.mono (by omega))⟩
          case measure => simp [intOf]; omega
      · have hge : ¬ (q : Int) < (ns.length : Int) := by omega
        go_wp2_with fail
        refine (works_any wr).mono ?_
        rintro e w6 ⟨rfl, hb6⟩
        go_wp2_with fail
        go_ret
        exact ⟨rfl, below_step br hb6⟩


theorem open_deals4 {H : Type} {enc : TypeId × Value → H} {P : Program} {w : World} {base : Nat} {spare : Nat → Bool} {held : Bool} {t e : TypeId} {f0 f1 f2 f3 f4 : Field} {fuel : Nat} {v : Value} {x : DataW H × List MemPlace} (ht : P.underlying t = some (.slice e)) (he : P.underlying e = some (.struct #[f0, f1, f2, f3, f4])) (hone : oneCellFields P #[f0, f1, f2, f3, f4] = true) (hC : P.cellsOf e = 5)
    (h0 : P.underlying f0.type = some (.int .i64)) (h1 : P.underlying f1.type = some (.int .i64)) (h2 : P.underlying f2.type = some (.int .i64)) (h3 : P.underlying f3.type = some (.int .i64)) (h4 : P.underlying f4.type = some (.int .i64)) (h : DataW.trod enc P w base spare held fuel t [v] = some x) :
    ∃ A c l, v = .slice A (List.length l) c ∧ Reads w w.heap.size 5 A l.length (dealCells l) ∧ l.length ≤ c ∧ c ≤ maxLen := by
  rcases open_slice_fields ht he hone hC h with hcs | ⟨a, len, cap, hcs, hl, hm, hi⟩
  · injection hcs with h1 _
    exact ⟨none, 0, [], h1, Reads.none_, Nat.zero_le _, Nat.zero_le _⟩
  · injection hcs with hv _
    obtain ⟨l, hll, hq⟩ := exists_list (α := Deal) (fun i b => w.cell? (a.add (i * 5)) = some (.int .i64 b.at_) ∧ w.cell? (a.add (i * 5 + 1)) = some (.int .i64 b.kind) ∧ w.cell? (a.add (i * 5 + 2)) = some (.int .i64 b.a) ∧ w.cell? (a.add (i * 5 + 3)) = some (.int .i64 b.b) ∧ w.cell? (a.add (i * 5 + 4)) = some (.int .i64 b.n)) len (fun i hil => by
      obtain ⟨n, hf⟩ := hi i hil
      obtain ⟨u0, y0, c0, t0⟩ := hf 0 f0 rfl
      obtain ⟨u1, y1, c1, t1⟩ := hf 1 f1 rfl
      obtain ⟨u2, y2, c2, t2⟩ := hf 2 f2 rfl
      obtain ⟨u3, y3, c3, t3⟩ := hf 3 f3 rfl
      obtain ⟨u4, y4, c4, t4⟩ := hf 4 f4 rfl
      obtain ⟨k0, e0, _, _⟩ := DataW.trod_int h0 t0
      obtain ⟨k1, e1, _, _⟩ := DataW.trod_int h1 t1
      obtain ⟨k2, e2, _, _⟩ := DataW.trod_int h2 t2
      obtain ⟨k3, e3, _, _⟩ := DataW.trod_int h3 t3
      obtain ⟨k4, e4, _, _⟩ := DataW.trod_int h4 t4
      injection e0 with e0 _; injection e1 with e1 _; injection e2 with e2 _; injection e3 with e3 _; injection e4 with e4 _
      subst e0; subst e1; subst e2; subst e3; subst e4
      exact ⟨⟨k0, k1, k2, k3, k4⟩, by simpa using c0, by simpa using c1, by simpa using c2, by simpa using c3, by simpa using c4⟩)
    refine ⟨some a, cap, l, by rw [hll]; exact hv, reads_of (dealCells_length l) (by omega) (fun j u hu => ?_), by omega, hm⟩
    have hj : j < l.length * 5 := by have := (List.getElem?_eq_some_iff.1 hu).1; rw [dealCells_length] at this; exact this
    obtain ⟨b0, b1, b2, b3, b4⟩ := dealCells_at l (j / 5) (by omega)
    have hq' := hq (j / 5) (by omega)
    have hg : getd l (j / 5) = l[j / 5]'(by omega) := by simp only [getd, List.getElem?_eq_getElem (show j / 5 < l.length by omega), Option.getD_some]
    rw [hg] at b0 b1 b2 b3 b4
    have hm5 : j % 5 = 0 ∨ j % 5 = 1 ∨ j % 5 = 2 ∨ j % 5 = 3 ∨ j % 5 = 4 := by omega
    rcases hm5 with h5 | h5 | h5 | h5 | h5
    · rw [show j / 5 * 5 = j from by omega] at b0 hq'
      rw [b0] at hu; injection hu with hu; rw [← hu]; exact hq'.1
    · rw [show j / 5 * 5 + 1 = j from by omega] at b1 hq'
      rw [b1] at hu; injection hu with hu; rw [← hu]; exact hq'.2.1
    · rw [show j / 5 * 5 + 2 = j from by omega] at b2 hq'
      rw [b2] at hu; injection hu with hu; rw [← hu]; exact hq'.2.2.1
    · rw [show j / 5 * 5 + 3 = j from by omega] at b3 hq'
      rw [b3] at hu; injection hu with hu; rw [← hu]; exact hq'.2.2.2.1
    · rw [show j / 5 * 5 + 4 = j from by omega] at b4 hq'
      rw [b4] at hu; injection hu with hu; rw [← hu]; exact hq'.2.2.2.2

set_option maxRecDepth 100000 in
theorem floats_lifted (os : Os) (started : os.Started) (H : Type) (enc : TypeId × Value → H) :
    ReturnsInHanded {} Try.checked os 5 .any (Rows.tokensFloatsSpec.pre6 enc Try.prog Try.f5 Rows.tokensFloatsRow.domain false) (Rows.tokensFloatsSpec.post enc Try.prog Try.f5 false true false false) := by
  refine returnsInHanded_of_change (C := Try.checked) Try.own started (by kernel_rfl) Try.func5
    (ChangeSpec.witness6 (enc := enc) (C := Try.checked) false ⟨#[], #[.agg #[.int .i64 0, .int .i64 0, .slice none 0 0, .slice none 0 0, .slice none 0 0, .int .i64 0, .int .i64 0, .int .i64 0], .slice none 0 0], []⟩ 8 (by kernel_rfl) (by kernel_rfl) (by kernel_rfl) (by kernel_rfl)) ?_
  intro W base args ds gs before hval0 hW hcnd _
  have hval : ∀ (j : Nat) t v, Try.f5.params[j]? = some t → args[j]? = some v → Value.okWide Try.prog W .any base t v := hval0
  have hW' := hW
  obtain ⟨p, q, hA0, hV, rfl, hfz, hnd⟩ := hW
  have hA : DataW.TrodAll enc Try.prog W 0 (fun _ => true) true Try.f5.params.toList args.toList ds p := hA0
  rw [Try.params5] at hA hval
  obtain ⟨v0, vs0, d0, ds0, p0, q0, hargs, rfl, rfl, h0, r0⟩ := trodAll_cons hA
  obtain ⟨v1, vs1, d1, ds1, p1, q1, rfl, rfl, rfl, h1, r1⟩ := trodAll_cons r0
  obtain ⟨rfl, rfl, rfl⟩ := trodAll_nil r1
  obtain rfl : args = #[v0, v1] := by cases args; simp_all
  obtain ⟨rfl, rfl⟩ := trodVars_none hV
  have k0 := h0
  have k1 := h1
  have lt0 : ∀ x ∈ p0, x.block < W.heap.size := by obtain ⟨m, hm⟩ := k0; exact DataW.trod_lt m _ _ _ hm
  have lt1 : ∀ x ∈ p1, x.block < W.heap.size := by obtain ⟨m, hm⟩ := k1; exact DataW.trod_lt m _ _ _ hm
  obtain ⟨F, R, rfl, hF⟩ := open_fair (hval 0 25 v0 rfl rfl) h0
  obtain ⟨a1, len1, cap1, rfl⟩ := okWide_slice Try.underlying26 (hval 1 26 v1 rfl rfl)
  obtain ⟨fuel, hf⟩ := h1
  obtain ⟨A, c, l, hv1, hl, hlc, hcm⟩ := open_deals4 Try.underlying26 Try.underlying65 (by kernel_rfl) (by kernel_rfl) Try.underlying3 Try.underlying3 Try.underlying3 Try.underlying3 Try.underlying3 (by simpa [Value.cells] using hf)
  rw [hv1] at hW' k1 ⊢
  clear hA0 hval0
  refine (floats_walk F R l A c W.heap.size W (Nat.le_refl _) hF hl (by omega) hlc hcm).mono fun e W' ⟨he, bel⟩ => ?_
  subst he
  exact ⟨_, rfl, _, _, _, [], _, [], hW', trodAll_mk1 (shut_bool Try.underlying4 _), (trodAll_cons_mk (Below.trod Try.laidOut (by kernel_rfl) (of_decide_eq_true (by kernel_rfl)) k0 bel lt0) (trodAll_cons_mk (Below.trod Try.laidOut (by kernel_rfl) (of_decide_eq_true (by kernel_rfl)) k1 bel lt1) trodAll_mk0)), rfl, bel.frame _, fun h => by cases h⟩

theorem floats_holds : Rows.TokensFloatsSaid :=
  OpenClaim.holds_of_wide 5 Try.f5 rfl rfl rfl rfl rfl rfl rfl ⟨rfl, rfl, rfl, rfl, rfl⟩ rfl rfl rfl rfl rfl (by kernel_rfl) Try.func5 (by kernel_rfl)
    (of_decide_eq_true (by kernel_rfl)) (by unfold Func.isWrapper; first | (rw [if_pos (by decide +kernel)]; kernel_rfl) | (rw [if_neg (by decide +kernel)]; exact ⟨rfl, rfl⟩))
    (fun os started H enc _ => floats_lifted os started H enc)
#print axioms floats_holds
end Go.Proofs.Ytonbaikdpcmbiaa
