/- The walk of QueueEnds. Conditions: an evening and groups that read as data. -/
import Derived.Test.YtphhabknlcfelaaEo
namespace Go.Proofs.Ytphhabknlcfelaa
open Go.RowKit

theorem home_len {f : EveZ} {l : List GrpZ} (hc : checkQ f l = 0) : (homeZ f l).length = l.length := by
  unfold homeZ
  rw [if_pos hc, List.length_map]
  exact (eve_lens hc).1
theorem home_at {f : EveZ} {l : List GrpZ} (hc : checkQ f l = 0) {i : Nat} (hi : i < l.length) : (homeZ f l)[i]? = some ((eveS f l).grp i).home := by
  have h1 := (eve_lens hc).1
  unfold homeZ EvS.grp
  rw [if_pos hc, List.getElem?_map, List.getD_eq_getElem?_getD, List.getElem?_eq_getElem (by omega)]
  rfl
/-- What the law looks at for one group. -/
def EndsOk (f : EveZ) (l : List GrpZ) (L : List VisZ) (hs : List Int) : Prop := ∀ i, i < l.length → ∃ (h : Int) (want last : Int), hs[i]? = some h ∧ endsV (cycS (startS f l)) f.rides.length 0 (l.getD i default).at_ (L.filter fun v => decide (v.group = i)) = some (want, last) ∧ (0 ≤ h → want = ((l.getD i default).wants.length : Int) ∧ h = last)
theorem ends_all {f : EveZ} {l : List GrpZ} (hc : checkQ f l = 0) {L : List VisZ} (hp : L.Perm (eveS f l).visits) (hs : L.Pairwise leV) : EndsOk f l L (homeZ f l) := fun i hi => by
  obtain ⟨h1, h2⟩ := checkQ_ok.1 hc
  have g := grp_valid h2
  have e := eve_valid h1
  obtain ⟨want, last, h3, h4⟩ := ends_ok f l (fun x hx => (g x hx).2.2.2.1.1) (fun x hx => (g x hx).2.2.2.2.2) e.2.1.1 (fun b hb => by have := (e.2.2 b hb).2.2.1; omega) L hp hs i hi
  exact ⟨_, want, last, home_at hc hi, h3, h4⟩
theorem cyc_small {f : EveZ} {l : List GrpZ} (hc : checkQ f l = 0) {r : Nat} (hr : r < f.rides.length) : 0 ≤ (f.rides.getD r default).cycle ∧ (f.rides.getD r default).cycle ≤ 100 := by
  have := ((eve_valid (checkQ_ok.1 hc).1).2.2 _ (getD_mem' hr)).2.2.1
  omega
/-- The cells of a visit. -/
theorem vis_cells {X : World} {B : Nat} {A : Option Addr} {L : List VisZ} (h : Reads X B 6 A L.length (L.flatMap visL)) {k : Nat} (hk : k < L.length) : ∃ b o, A = some ⟨b, o, none⟩ ∧ b < B ∧ X.cell? ⟨b, o + k * 6, none⟩ = some (.int .i64 L[k].group) ∧ X.cell? ⟨b, o + k * 6 + 1, none⟩ = some (.int .i64 L[k].want) ∧ X.cell? ⟨b, o + k * 6 + 2, none⟩ = some (.int .i64 L[k].ride) ∧
    X.cell? ⟨b, o + k * 6 + 3, none⟩ = some (.bool L[k].on) ∧ X.cell? ⟨b, o + k * 6 + 4, none⟩ = some (.int .i64 L[k].came) ∧ X.cell? ⟨b, o + k * 6 + 5, none⟩ = some (.int .i64 L[k].left) := by
  obtain ⟨b, o, e, hb, hc⟩ := h.2 (by omega)
  have key : ∀ j, j < 6 → ∀ u, (visL L[k])[j]? = some u → X.cell? ⟨b, o + k * 6 + j, none⟩ = some u := fun j hj u hu => by
    have hf := flat_at' visL 6 (fun _ => rfl) (⟨0, 0, 0, false, 0, 0⟩ : VisZ) L k hk j hj
    have hg : L.getD k ⟨0, 0, 0, false, 0, 0⟩ = L[k] := by rw [List.getD_eq_getElem?_getD, List.getElem?_eq_getElem hk]; rfl
    rw [hg, hu] at hf
    have := hc _ _ hf
    rw [← Nat.add_assoc] at this
    exact this
  exact ⟨b, o, e, hb, key 0 (by omega) _ rfl, key 1 (by omega) _ rfl, key 2 (by omega) _ rfl, key 3 (by omega) _ rfl, key 4 (by omega) _ rfl, key 5 (by omega) _ rfl⟩
/-- A ride's cycle in memory. -/
theorem cyc_cell {X : World} {B : Nat} {A : Option Addr} {f : EveZ} (h : Reads X B 5 A f.rides.length (bthCells f.rides)) {r : Nat} (hr : r < f.rides.length) : ∃ b o, A = some ⟨b, o, none⟩ ∧ b < B ∧ X.cell? ⟨b, o + r * 5 + 2, none⟩ = some (.int .i64 (f.rides.getD r default).cycle) := by
  obtain ⟨b, o, e, hb, hc⟩ := h.2 (by omega)
  have hf := bthCells_at f.rides r hr 2 (by omega)
  have := hc _ _ (hf.trans rfl)
  rw [← Nat.add_assoc] at this
  exact ⟨b, o, e, hb, this⟩
set_option maxRecDepth 100000 in
set_option maxHeartbeats 4000000 in
theorem qends_walk (f : EveZ) (l : List GrpZ) (A A2 : Option Addr) (c c2 B : Nat) (rs : List (Option Addr × Nat)) (w : World) (hB : B ≤ w.heap.size) (hr : Reads w B 5 A f.rides.length (bthCells f.rides)) (hn : f.rides.length ≤ maxLen) (hl : GrpsIn w B A2 rs l) :
    Calls Try.prog 14 #[eveV f A c, .slice A2 l.length c2] w (TrueP w) := by
  obtain ⟨W, hW⟩ : ∃ W, W = w.alloc (.cells #[.slice A f.rides.length c, .int .i64 f.walk] 24) := ⟨_, rfl⟩
  have bW : Below w.heap.size w W := by subst hW; exact (Below.refl _ _).alloc (Nat.le_refl _) _
  have r0 : Row W w.heap.size 24 [.slice A f.rides.length c, .int .i64 f.walk] := by subst hW; exact Row.new w _ _
  have q0 : W.cell? ⟨w.heap.size, 0, none⟩ = some (.slice A f.rides.length c) := r0.cell (j := 0) (by simp)
  have q1 : W.cell? ⟨w.heap.size, 1, none⟩ = some (.int .i64 f.walk) := r0.cell (j := 1) (by simp)
  have z0 := r0.lt
  have HR : Hid (∀ X, Below w.heap.size w X → B ≤ X.heap.size ∧ Reads X B 5 A f.rides.length (bthCells f.rides) ∧ GrpsIn X B A2 rs l) := fun X hX => ⟨Nat.le_trans hB hX.size, hr.below (hX.mono hB), hl.below (hX.mono hB)⟩
  have HF := Lib.hid (far_any f l A A2 c c2 B rs W (HR.out W bW).1 hn (HR.out W bW).2.2)
  have Hfin : Hid (∀ X : World, Below w.heap.size w X → Calls Try.prog 16 #[] X fun e w' => e = .returned (.bool true) ∧ Below w.heap.size w w') := fun X hX => (works_any X).mono fun _ _ h => ⟨h.1, hX.trans (h.2.mono hX.size)⟩
  unfold eveV at HF ⊢
  clear hr hl
  go_enter Try.func14, Try.ntmps14
  go_upto_region 1 with (fail)
  rw [← hW]
  clear hW
  cases hfb : farB f l with
  | true =>
    rw [hfb] at HF
    go_wp2_with (first | (go_at_call 15; refine HF.out.mono ?_; rintro e w1 ⟨rfl, hb1⟩; have b1 := bW.trans (hb1.mono bW.size); clear hb1) | (go_at_call 16; refine (Hfin.out _ b1).mono ?_; rintro e w2 ⟨rfl, hb2⟩; have HB2 := Lib.hid hb2; clear hb2))
    go_ret
    exact ⟨rfl, HB2.out⟩
  | false =>
    rw [hfb] at HF
    obtain ⟨n1, n2, n3⟩ := far_not hfb
    have HC : Hid (∀ X, Below w.heap.size w X → Calls Try.prog 18 #[eveV f A c] X (EveTo X f)) := fun X hX => rCopy_any f A c B X (HR.out X hX).1 (HR.out X hX).2.1 (by omega)
    have HG : Hid (∀ X, Below w.heap.size w X → Calls Try.prog 19 #[.slice A2 l.length c2] X (GrpTo X l)) := fun X hX => rCopyGroups_any l A2 c2 B rs X (HR.out X hX).1 (HR.out X hX).2.2 (by omega) (fun i hi => by have := n3 i hi; omega)
    obtain ⟨k, hk⟩ : ∃ k, k = checkQ f l := ⟨_, rfl⟩
    obtain ⟨hs, hhs⟩ : ∃ hs, hs = homeZ f l := ⟨_, rfl⟩
    have HP : Hid (∀ X, Below w.heap.size w X → Calls Try.prog 40 #[eveV f A c, .slice A2 l.length c2] X fun e w' => ∃ (L : List VisZ) (A3 : Option Addr) (c3 : Nat), e = .returned (.tuple #[.slice A3 L.length c3, .int .i64 k]) ∧ (k = 0 → (EndsOk f l L hs ∧ hs.length = l.length ∧ ∀ r, r < f.rides.length → 0 ≤ (f.rides.getD r default).cycle ∧ (f.rides.getD r default).cycle ≤ 100) ∧ (∀ v ∈ L, SmallV v) ∧ L.length ≤ 100000) ∧ Below X.heap.size X w' ∧ Reads w' w'.heap.size 6 A3 L.length (L.flatMap visL)) := fun X hX => (lplay_any f l A A2 c c2 B rs X (HR.out X hX).1 (HR.out X hX).2.1 hn (HR.out X hX).2.2 hfb).mono fun e w' ⟨L, A3, c3, h1, h2, h3, h4⟩ => ⟨L, A3, c3, by rw [hk]; exact h1, fun h0 => by
      rw [hk] at h0
      obtain ⟨p1, p2, p3⟩ := h2 h0
      exact ⟨⟨by rw [hhs]; exact ends_all h0 p1 p2, by rw [hhs]; exact home_len h0, fun r hr => cyc_small h0 hr⟩, fun v hv => (eve_small h0).1 v (p1.mem_iff.1 hv), p3⟩, h3, h4⟩
    have HH : Hid (∀ (X : World) (A1 A3 : Option Addr) (c1 c3 : Nat) (rs3 : List (Option Addr × Nat)), Reads X X.heap.size 5 A1 f.rides.length (bthCells f.rides) → GrpsIn X X.heap.size A3 rs3 l → Calls Try.prog 34 #[eveV f A1 c1, .slice A3 l.length c3] X (ListTo X hs k)) := fun X A1 A3 c1 c3 rs3 h4 h5 => by
      rw [hk, hhs]
      exact Home_any f l A1 A3 c1 c3 X.heap.size rs3 X (Nat.le_refl _) h4 hn h5
    unfold eveV at HC HP HH
    clear hfb hn hk hhs
    go_upto_region 3 with (go_at_call 15; refine HF.out.mono ?_; rintro e w1 ⟨rfl, hb1⟩)
    have b1 := bW.trans (hb1.mono bW.size)
    have r1 := r0.below hb1 z0
    have z1 := r1.lt
    have x0 : w1.cell? ⟨w.heap.size, 0, none⟩ = some (.slice A f.rides.length c) := r1.cell (j := 0) (by simp)
    have x1 : w1.cell? ⟨w.heap.size, 1, none⟩ = some (.int .i64 f.walk) := r1.cell (j := 1) (by simp)
    clear q0 q1 r0 hb1 z0 HF
    go_upto_region 4 with (go_at_call 40; refine (HP.out w1 b1).mono ?_; rintro e w2 ⟨L, A3, c3, rfl, hL, hb2, hr2⟩)
    have b2 := b1.trans (hb2.mono b1.size)
    have r2 := r1.below hb2 z1
    have z2 := r2.lt
    have y0 : w2.cell? ⟨w.heap.size, 0, none⟩ = some (.slice A f.rides.length c) := r2.cell (j := 0) (by simp)
    have y1 : w2.cell? ⟨w.heap.size, 1, none⟩ = some (.int .i64 f.walk) := r2.cell (j := 1) (by simp)
    clear x0 x1 r1 hb2 z1 b1 HP
    have HR2 := Lib.hid r2
    have HV2 := Lib.hid hr2
    have B2 := Lib.hid b2
    clear r2 hr2 b2
    go_upto_region 5 with (first
      | (go_at_call 34; refine HQ.out.mono ?_; rintro e w5 ⟨hb5, A6, c6, rfl, hr6⟩; have HB5 := Lib.hid (B4.out.trans (hb5.mono B4.out.size)); have HR6 := Lib.hid hr6; clear hb5 hr6)
      | (go_at_call 19; refine (HG.out _ (B2.out.trans (B3.out.mono B2.out.size))).mono ?_; rintro e w4 ⟨A5, c5, rs5, rfl, hb4, hg5⟩; have hq := HH.out w4 A4 A5 c4 c5 rs5 ((hE3.out.below hb4).more hb4.size) hg5; have HQ := Lib.hid hq; have B4 := Lib.hid (B3.out.trans (hb4.mono B3.out.size)); clear hb4 hg5 hq)
      | (go_at_call 18; refine (HC.out _ B2.out).mono ?_; rintro e w3 ⟨A4, c4, rfl, hb3, ho3⟩; have B3 := Lib.hid hb3; have hE3 := Lib.hid (own_rds ho3); clear hb3 ho3; unfold eveV))
    have r5 := HR2.out.below HB5.out z2
    have z5 := r5.lt
    have v0 : w5.cell? ⟨w.heap.size, 0, none⟩ = some (.slice A f.rides.length c) := r5.cell (j := 0) (by simp)
    have v1 : w5.cell? ⟨w.heap.size, 1, none⟩ = some (.int .i64 f.walk) := r5.cell (j := 1) (by simp)
    have b5 := B2.out.trans (HB5.out.mono B2.out.size)
    have V5 := Lib.hid ((HV2.out.below HB5.out).more HB5.out.size)
    have F5 := Lib.hid (HR.out w5 b5)
    have b55 := Lib.hid b5
    have R5 := Lib.hid r5
    clear y0 y1 z2 HR2 HV2 B2 B3 hE3 HQ B4 HB5 r5 bW HC HG HH b5
    by_cases hk : k = 0
    · subst hk
      obtain ⟨⟨hE, hlen, hcy⟩, hsm, hL5⟩ := hL rfl
      rw [hlen] at HR6 ⊢
      have HE := Lib.hid hE
      have HS := Lib.hid hsm
      have HN := Lib.hid n3
      have HY := Lib.hid hcy
      clear hL hE hsm hlen n3 hcy
      go_upto_region 10 with fail
      go_loopw [9] (fun i wr => ∃ j : Nat, j ≤ l.length ∧ i = .int .i64 j ∧ Below w5.heap.size w5 wr) (fun i _ => l.length - (intOf i).toNat)
      case atStart => exact ⟨0, Nat.zero_le _, rfl, Below.refl _ _⟩
      case round =>
        obtain ⟨j, hj, rfl, hbel⟩ := hrel
        have HBr := Lib.hid hbel
        by_cases hlt : j < l.length
        · have hlt' : (j : Int) < (l.length : Int) := by omega
          obtain ⟨b, o, rfl, hb, hcs⟩ := F5.out.2.2.outer (by omega)
          have hb5 : b < w5.heap.size := Nat.lt_of_lt_of_le hb F5.out.1
          obtain ⟨g0, g1, g2, g3, g4⟩ := hcs j hlt
          have c0 := (hbel.cell (p := ⟨b, o + j * 5, none⟩) hb5).trans g0
          clear g1 g2 g4
          obtain ⟨hm, want, last, e1, e2, e3⟩ := HE.out j hlt
          have HE2 := Lib.hid e2
          have HE3 := Lib.hid e3
          have hx20 := HN.out j hlt
          obtain ⟨x, hx⟩ : ∃ x, x = l.getD j default := ⟨_, rfl⟩
          rw [← hx] at c0 g3 HE2 HE3 hx20
          have G3 := Lib.hid g3
          have lb : b < wr.heap.size := Nat.lt_of_lt_of_le hb5 hbel.size
          have HE1 := Lib.hid e1
          clear hcs e1 e2 e3 g0 g3 hx hbel
          go_upto_region 12 with fail
          go_quiet (fail)
          have bX0 := below_drewN HBr.out nq
          obtain ⟨X0, hX0⟩ : ∃ X, X = wr.drewN nq := ⟨_, rfl⟩
          rw [← hX0] at bX0 ⊢
          have BX0 := Lib.hid bX0
          clear hX0 bX0 c0 lb HBr
          go_upto_region 14 with fail
          go_loopw [10, 11, 12] (fun wv tv kv wr => ∃ (k : Nat) (wz tz : Int), k ≤ L.length ∧ kv = .int .i64 k ∧ wv = .int .i64 wz ∧ tv = .int .i64 tz ∧ endsV (cycS (startS f l)) f.rides.length 0 x.at_ ((L.take k).filter fun v => decide (v.group = j)) = some (wz, tz) ∧ Below w5.heap.size w5 wr) (fun _ _ kv _ => L.length - (intOf kv).toNat)
          case atStart => exact ⟨0, 0, x.at_, Nat.zero_le _, rfl, rfl, rfl, rfl, BX0.out⟩
          case round =>
            obtain ⟨k, wz, tz, hk, rfl, rfl, rfl, hz, hbel⟩ := hrel
            have HBw := Lib.hid hbel
            by_cases hkt : k < L.length
            · have hkt' : (k : Int) < (L.length : Int) := by omega
              obtain ⟨b3, o3, rfl, hb3, t0, t1, t2, t3, t4, t5⟩ := vis_cells (V5.out.below hbel) hkt
              obtain ⟨st1, st2⟩ := ends_step HE2.out hkt hz
              obtain ⟨⟨s1, s2⟩, s3, s4, s5⟩ := getD_small HS.out hkt
              obtain ⟨v, hv⟩ : ∃ v, v = L[k] := ⟨_, rfl⟩
              rw [← hv] at t0 t1 t2 t3 t4 t5 st1 st2 s1 s2 s3 s4 s5
              have HS1 := Lib.hid st1
              have HS2 := Lib.hid st2
              have lb3 : b3 < wr.heap.size := Nat.lt_of_lt_of_le hb3 hbel.size
              have e1 : IntKind.i64.wrap ((k : Int) + 1) = (k : Int) + 1 := IntWalk.i64_in _ (by omega)
              clear st1 st2 hv hz hbel
              go_upto_region 17 with fail
              obtain ⟨Y, hY⟩ : ∃ Y, Y = wr.alloc (.cells #[.int .i64 v.group, .int .i64 v.want, .int .i64 v.ride, .bool v.on, .int .i64 v.came, .int .i64 v.left] 57) := ⟨_, rfl⟩
              rw [← hY]
              have rY : Row Y wr.heap.size 57 [.int .i64 v.group, .int .i64 v.want, .int .i64 v.ride, .bool v.on, .int .i64 v.came, .int .i64 v.left] := by subst hY; exact Row.new wr _ _
              have bY : Below w5.heap.size w5 Y := by subst hY; exact HBw.out.alloc HBw.out.size _
              have p0 : Y.cell? ⟨wr.heap.size, 0, none⟩ = some (.int .i64 v.group) := rY.cell (j := 0) (by simp)
              have p1 : Y.cell? ⟨wr.heap.size, 1, none⟩ = some (.int .i64 v.want) := rY.cell (j := 1) (by simp)
              have p2 : Y.cell? ⟨wr.heap.size, 2, none⟩ = some (.int .i64 v.ride) := rY.cell (j := 2) (by simp)
              have p3 : Y.cell? ⟨wr.heap.size, 3, none⟩ = some (.bool v.on) := rY.cell (j := 3) (by simp)
              have p4 : Y.cell? ⟨wr.heap.size, 4, none⟩ = some (.int .i64 v.came) := rY.cell (j := 4) (by simp)
              have p5 : Y.cell? ⟨wr.heap.size, 5, none⟩ = some (.int .i64 v.left) := rY.cell (j := 5) (by simp)
              have lY := rY.lt
              have HBY := Lib.hid bY
              clear t0 t1 t2 t3 t4 t5 lb3 hY rY bY HBw
              by_cases hg : v.group = j
              · obtain ⟨u1, u2, u3, u4'⟩ := HS1.out hg
                have HZ := Lib.hid u4'
                rw [hg] at p0
                rw [u1] at p1 s4 s5
                have hr0 : ¬ (v.ride : Int) < 0 := by omega
                have hr1 : ¬ (f.rides.length : Int) ≤ (v.ride : Int) := by omega
                have hr2 : (v.ride : Int) < (f.rides.length : Int) := by omega
                obtain ⟨b4, o4, rfl, hb4, hc4⟩ := cyc_cell F5.out.2.1 u2
                have hb45 : b4 < w5.heap.size := Nat.lt_of_lt_of_le hb4 F5.out.1
                have c4' := (HBY.out.cell (p := ⟨b4, o4 + v.ride * 5 + 2, none⟩) hb45).trans hc4
                have lb4 : b4 < Y.heap.size := Nat.lt_of_lt_of_le hb45 HBY.out.size
                have rf := R5.out.below HBY.out z5
                have f0 : Y.cell? ⟨w.heap.size, 0, none⟩ = some (.slice (some ⟨b4, o4, none⟩) f.rides.length c) := rf.cell (j := 0) (by simp)
                have lf := rf.lt
                obtain ⟨y1, y2⟩ := HY.out v.ride u2
                have hcs := cyc_start f l u2
                generalize (f.rides.getD v.ride default).cycle = cy at y1 y2 c4' hcs
                have HCS := Lib.hid hcs
                have e2 : IntKind.i64.wrap (wz + 1) = wz + 1 := IntWalk.i64_in _ (by omega)
                have e3 : IntKind.i64.wrap (v.left + cy) = v.left + cy := IntWalk.i64_in _ (by omega)
                clear u1 u4' hcs hc4 rf hb4 s1 s2 s3 s4 s5 y1 y2
                cases hon : v.on with
                | true =>
                  rw [hon] at p3
                  have HON := Lib.hid hon
                  clear hon
                  go_wp2_with fail
                  go_roundw
                  case rel => exact ⟨k + 1, wz + 1, v.left + cy, by omega, by go_num, rfl, rfl, by rw [HZ.out]; unfold doneV; rw [HON.out, HCS.out]; rfl, HBY.out⟩
                  case measure => simp [intOf]; omega
                | false =>
                  rw [hon] at p3
                  have HON := Lib.hid hon
                  clear hon
                  go_wp2_with fail
                  go_roundw
                  case rel => exact ⟨k + 1, wz + 1, v.left, by omega, by go_num, rfl, rfl, by rw [HZ.out]; unfold doneV; rw [HON.out]; simp, HBY.out⟩
                  case measure => simp [intOf]; omega
              · have HZ := Lib.hid (HS2.out hg)
                have dg : (((v.group : Nat) : Int) != (j : Int)) = true := by simp; omega
                clear hg s1 s2 s3 s4 s5
                go_wp2_with fail
                go_roundw
                case rel => exact ⟨k + 1, wz, tz, by omega, by go_num, rfl, rfl, HZ.out, HBY.out⟩
                case measure => simp [intOf]; omega
            · have hge : ¬ (k : Int) < (L.length : Int) := by omega
              have ek : k = L.length := by omega
              have hw2 : want = wz ∧ last = tz := by
                rw [ek, List.take_length, HE2.out] at hz
                injection hz with hz
                injection hz with h1 h2
                exact ⟨h1, h2⟩
              obtain ⟨rfl, rfl⟩ := hw2
              clear hz ek
              obtain ⟨b6, o6, rfl, hb6, hc6⟩ := HR6.out.2 (by omega)
              have h6 := (hbel.cell (p := ⟨b6, o6 + j, none⟩) hb6).trans (hc6 j _ (by rw [List.getElem?_map, HE1.out]; rfl))
              have lb6 : b6 < wr.heap.size := Nat.lt_of_lt_of_le hb6 hbel.size
              have g3 := (hbel.cell (p := ⟨b, o + j * 5 + 3, none⟩) hb5).trans G3.out
              have lb : b < wr.heap.size := Nat.lt_of_lt_of_le hb5 hbel.size
              have e1 : IntKind.i64.wrap ((j : Int) + 1) = (j : Int) + 1 := IntWalk.i64_in _ (by omega)
              clear hc6 hbel
              by_cases h0 : 0 ≤ hm
              · obtain ⟨rfl, rfl⟩ := HE3.out h0
                go_wp2_with fail
                go_roundw
                case rel => exact ⟨j + 1, by omega, by go_num, HBw.out⟩
                case measure => simp [intOf]; omega
              · go_wp2_with fail
                go_roundw
                case rel => exact ⟨j + 1, by omega, by go_num, HBw.out⟩
                case measure => simp [intOf]; omega
        · have hge : ¬ (j : Int) < (l.length : Int) := by omega
          go_wp2_with (go_at_call 16; refine (Hfin.out _ (b55.out.trans (HBr.out.mono b55.out.size))).mono ?_; rintro e w6 ⟨rfl, hb6⟩; have HB6 := Lib.hid hb6; clear hb6)
          go_ret
          exact ⟨rfl, HB6.out⟩
    · have dk : (k != 0) = true := by simpa using hk
      clear hL
      go_wp2_with (go_at_call 16; refine (Hfin.out _ b55.out).mono ?_; rintro e w6 ⟨rfl, hb6⟩; have HB6 := Lib.hid hb6; clear hb6)
      go_ret
      exact ⟨rfl, HB6.out⟩
end Go.Proofs.Ytphhabknlcfelaa
