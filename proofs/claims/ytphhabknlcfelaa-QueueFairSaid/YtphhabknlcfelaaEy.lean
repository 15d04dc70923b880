/- The walk of QueueFair. Conditions: an evening and groups that read as data. -/
import Derived.Test.YtphhabknlcfelaaEq
import Derived.Test.YtphhabknlcfelaaEx
namespace Go.Proofs.Ytphhabknlcfelaa
open Go.RowKit

/-- What the law looks at. -/
structure FairB (f : EveZ) (L : List VisZ) : Prop where
  ok : FairL f L
  len : L.length ≤ 1000
theorem fairb_all {f : EveZ} {l : List GrpZ} (hc : checkQ f l = 0) {L : List VisZ} (hp : L.Perm (eveS f l).visits) : FairB f L := by
  obtain ⟨h1, h2⟩ := checkQ_ok.1 hc
  have g := grp_valid h2
  have e := eve_valid h1
  have ht : ∀ x ∈ l, 0 ≤ x.tokens := fun x hx => (g x hx).2.2.2.1.1
  have hw : ∀ x ∈ l, ∀ w ∈ x.wants, 0 ≤ w ∧ w < (f.rides.length : Int) := fun x hx => (g x hx).2.2.2.2.2
  have hfit := fit_of (big_start h1 h2).1 (play_his f l ht hw)
  exact ⟨fair_ok f l ht hw L hp, by rw [hp.length_eq]; exact hfit.vis⟩
/-- A visit's cells. -/
abbrev visC (v : VisZ) : List Value := [.int .i64 v.group, .int .i64 v.want, .int .i64 v.ride, .bool v.on, .int .i64 v.came, .int .i64 v.left]
/-- The cells of two visits. -/
theorem vis_two {X : World} {B : Nat} {A : Option Addr} {L : List VisZ} (h : Reads X B 6 A L.length (L.flatMap visL)) {i k : Nat} (hi : i < L.length) (hk : k < L.length) : ∃ b o, A = some ⟨b, o, none⟩ ∧ b < B ∧
    (X.cell? ⟨b, o + i * 6, none⟩ = some (.int .i64 L[i].group) ∧ X.cell? ⟨b, o + i * 6 + 1, none⟩ = some (.int .i64 L[i].want) ∧ X.cell? ⟨b, o + i * 6 + 2, none⟩ = some (.int .i64 L[i].ride) ∧
    X.cell? ⟨b, o + i * 6 + 3, none⟩ = some (.bool L[i].on) ∧ X.cell? ⟨b, o + i * 6 + 4, none⟩ = some (.int .i64 L[i].came) ∧ X.cell? ⟨b, o + i * 6 + 5, none⟩ = some (.int .i64 L[i].left)) ∧
    (X.cell? ⟨b, o + k * 6, none⟩ = some (.int .i64 L[k].group) ∧ X.cell? ⟨b, o + k * 6 + 1, none⟩ = some (.int .i64 L[k].want) ∧ X.cell? ⟨b, o + k * 6 + 2, none⟩ = some (.int .i64 L[k].ride) ∧
    X.cell? ⟨b, o + k * 6 + 3, none⟩ = some (.bool L[k].on) ∧ X.cell? ⟨b, o + k * 6 + 4, none⟩ = some (.int .i64 L[k].came) ∧ X.cell? ⟨b, o + k * 6 + 5, none⟩ = some (.int .i64 L[k].left)) := by
  obtain ⟨b, o, e, hb, h0⟩ := vis_cells h hi
  obtain ⟨b', o', e', _, h1⟩ := vis_cells h hk
  rw [e] at e'
  injection e' with e'
  injection e' with e1 e2 _
  subst e1
  subst e2
  exact ⟨b, o, e, hb, h0, h1⟩
theorem two_rows (wr : World) (t : TypeId) (c1 c2 : Array Value) : Row ((wr.alloc (.cells c1 t)).alloc (.cells c2 t)).drew wr.heap.size t c1.toList ∧ Row ((wr.alloc (.cells c1 t)).alloc (.cells c2 t)).drew (wr.heap.size + 1) t c2.toList ∧ Below wr.heap.size wr ((wr.alloc (.cells c1 t)).alloc (.cells c2 t)).drew := by
  refine ⟨((Row.new wr t c1).alloc _).drew, ?_, (((Below.refl _ _).alloc (Nat.le_refl _) _).alloc (by simp) _).drew⟩
  have h := (Row.new (wr.alloc (.cells c1 t)) t c2).drew
  rw [World.size_alloc] at h
  exact h
/-- A ride's cells. -/
theorem bth5' {X : World} {B : Nat} {A : Option Addr} {f : EveZ} (h : Reads X B 5 A f.rides.length (bthCells f.rides)) {r : Nat} (hr : r < f.rides.length) : ∃ b o, A = some ⟨b, o, none⟩ ∧ b < B ∧ X.cell? ⟨b, o + r * 5, none⟩ = some (.int .i64 (f.rides.getD r default).seats) ∧ X.cell? ⟨b, o + r * 5 + 1, none⟩ = some (.int .i64 (f.rides.getD r default).price) ∧ X.cell? ⟨b, o + r * 5 + 2, none⟩ = some (.int .i64 (f.rides.getD r default).cycle) ∧ X.cell? ⟨b, o + r * 5 + 3, none⟩ = some (.int .i64 (f.rides.getD r default).pause) ∧ X.cell? ⟨b, o + r * 5 + 4, none⟩ = some (.bool (f.rides.getD r default).fill) := by
  obtain ⟨b, o, e, hb, hc⟩ := h.2 (by omega)
  have key : ∀ j, j < 5 → ∀ u, (bthL (f.rides.getD r default))[j]? = some u → X.cell? ⟨b, o + r * 5 + j, none⟩ = some u := fun j hj u hu => by
    have := hc _ _ ((bthCells_at f.rides r hr j hj).trans hu)
    rw [← Nat.add_assoc] at this
    exact this
  exact ⟨b, o, e, hb, key 0 (by omega) _ rfl, key 1 (by omega) _ rfl, key 2 (by omega) _ rfl, key 3 (by omega) _ rfl, key 4 (by omega) _ rfl⟩
set_option maxRecDepth 100000 in
set_option maxHeartbeats 4000000 in
theorem qfair_walk (f : EveZ) (l : List GrpZ) (A A2 : Option Addr) (c c2 B : Nat) (rs : List (Option Addr × Nat)) (w : World) (hB : B ≤ w.heap.size) (hr : Reads w B 5 A f.rides.length (bthCells f.rides)) (hn : f.rides.length ≤ maxLen) (hl : GrpsIn w B A2 rs l) :
    Calls Try.prog 12 #[eveV f A c, .slice A2 l.length c2] w (TrueP w) := by
  obtain ⟨W, hW⟩ : ∃ W, W = w.alloc (.cells #[.slice A f.rides.length c, .int .i64 f.walk] 24) := ⟨_, rfl⟩
  have bW : Below w.heap.size w W := by subst hW; exact (Below.refl _ _).alloc (Nat.le_refl _) _
  have r0 : Row W w.heap.size 24 [.slice A f.rides.length c, .int .i64 f.walk] := by subst hW; exact Row.new w _ _
  have q0 : W.cell? ⟨w.heap.size, 0, none⟩ = some (.slice A f.rides.length c) := r0.cell (j := 0) (by simp)
  have q1 : W.cell? ⟨w.heap.size, 1, none⟩ = some (.int .i64 f.walk) := r0.cell (j := 1) (by simp)
  have z0 := r0.lt
  have HR : Hid (∀ X, Below w.heap.size w X → B ≤ X.heap.size ∧ Reads X B 5 A f.rides.length (bthCells f.rides) ∧ GrpsIn X B A2 rs l) := fun X hX => ⟨Nat.le_trans hB hX.size, hr.below (hX.mono hB), hl.below (hX.mono hB)⟩
  have HF := Lib.hid (far_any f l A A2 c c2 B rs W (HR.out W bW).1 hn (HR.out W bW).2.2)
  have Hfin : Hid (∀ X : World, Below w.heap.size w X → Calls Try.prog 16 #[] X fun e w' => e = .returned (.bool true) ∧ Below w.heap.size w w') := fun X hX => (works_any X).mono fun _ _ h => ⟨h.1, hX.trans (h.2.mono hX.size)⟩
  unfold eveV at HF ⊢
  clear hr hl
  go_enter Try.func12, Try.ntmps12
  go_upto_region 1 with (fail)
  rw [← hW]
  clear hW
  cases hfb : farB f l with
  | true =>
    rw [hfb] at HF
    go_wp2_with (first | (go_at_call 15; refine HF.out.mono ?_; rintro e w1 ⟨rfl, hb1⟩; have b1 := bW.trans (hb1.mono bW.size); clear hb1) | (go_at_call 16; refine (Hfin.out _ b1).mono ?_; rintro e w2 ⟨rfl, hb2⟩; have HB2 := Lib.hid hb2; clear hb2))
    go_ret
    exact ⟨rfl, HB2.out⟩
  | false =>
    rw [hfb] at HF
    obtain ⟨n1, n2, -⟩ := far_not hfb
    obtain ⟨k, hk⟩ : ∃ k, k = checkQ f l := ⟨_, rfl⟩
    have HP : Hid (∀ X, Below w.heap.size w X → Calls Try.prog 40 #[eveV f A c, .slice A2 l.length c2] X fun e w' => ∃ (L : List VisZ) (A3 : Option Addr) (c3 : Nat), e = .returned (.tuple #[.slice A3 L.length c3, .int .i64 k]) ∧ (k = 0 → FairB f L) ∧ Below X.heap.size X w' ∧ Reads w' w'.heap.size 6 A3 L.length (L.flatMap visL)) := fun X hX => (lplay_any f l A A2 c c2 B rs X (HR.out X hX).1 (HR.out X hX).2.1 hn (HR.out X hX).2.2 hfb).mono fun e w' ⟨L, A3, c3, h1, h2, h3, h4⟩ => ⟨L, A3, c3, by rw [hk]; exact h1, fun h0 => by
      rw [hk] at h0
      exact fairb_all h0 (h2 h0).1, h3, h4⟩
    unfold eveV at HP
    clear hfb hn hk
    go_upto_region 3 with (go_at_call 15; refine HF.out.mono ?_; rintro e w1 ⟨rfl, hb1⟩)
    have b1 := bW.trans (hb1.mono bW.size)
    have r1 := r0.below hb1 z0
    have z1 := r1.lt
    have x0 : w1.cell? ⟨w.heap.size, 0, none⟩ = some (.slice A f.rides.length c) := r1.cell (j := 0) (by simp)
    have x1 : w1.cell? ⟨w.heap.size, 1, none⟩ = some (.int .i64 f.walk) := r1.cell (j := 1) (by simp)
    clear q0 q1 r0 hb1 z0 HF
    go_upto_region 4 with (go_at_call 40; refine (HP.out w1 b1).mono ?_; rintro e w2 ⟨L, A3, c3, rfl, hL, hb2, hr2⟩)
    have b2 := b1.trans (hb2.mono b1.size)
    have r2 := r1.below hb2 z1
    have z2 := r2.lt
    have y0 : w2.cell? ⟨w.heap.size, 0, none⟩ = some (.slice A f.rides.length c) := r2.cell (j := 0) (by simp)
    have y1 : w2.cell? ⟨w.heap.size, 1, none⟩ = some (.int .i64 f.walk) := r2.cell (j := 1) (by simp)
    clear x0 x1 r1 hb2 z1 b1 HP
    have HR2 := Lib.hid r2
    have V5 := Lib.hid hr2
    have F5 := Lib.hid (HR.out w2 b2)
    have B2 := Lib.hid b2
    clear r2 hr2 b2
    by_cases hk : k = 0
    · subst hk
      have HS := Lib.hid (hL rfl)
      clear hL
      go_upto_region 7 with fail
      go_loopw [7] (fun kv wr => ∃ i : Nat, i ≤ L.length ∧ kv = .int .i64 i ∧ Below w2.heap.size w2 wr) (fun kv _ => L.length - (intOf kv).toNat)
      case atStart => exact ⟨0, Nat.zero_le _, rfl, Below.refl _ _⟩
      case round =>
        obtain ⟨i, hi, rfl, hbel⟩ := hrel
        have HBw := Lib.hid hbel
        have hlen := HS.out.len
        by_cases hit : i < L.length
        · have hit' : (i : Int) < (L.length : Int) := by omega
          have e1 : IntKind.i64.wrap ((i : Int) + 1) = (i : Int) + 1 := IntWalk.i64_in _ (by omega)
          clear hbel
          go_upto_region 10 with fail
          obtain ⟨wo, hwo⟩ : ∃ x, x = wr := ⟨_, rfl⟩
          rw [← hwo] at HBw ⊢
          clear hwo
          go_loopw [8] (fun kv wr => ∃ k : Nat, k ≤ L.length ∧ kv = .int .i64 k ∧ Below w2.heap.size w2 wr) (fun kv _ => L.length - (intOf kv).toNat)
          case atStart => exact ⟨0, Nat.zero_le _, rfl, HBw.out⟩
          case round =>
            obtain ⟨k, hk, rfl, hbel⟩ := hrel
            have HBr := Lib.hid hbel
            by_cases hkt : k < L.length
            · have hkt' : (k : Int) < (L.length : Int) := by omega
              have e2 : IntKind.i64.wrap ((k : Int) + 1) = (k : Int) + 1 := IntWalk.i64_in _ (by omega)
              obtain ⟨b3, o3, rfl, hb3, ⟨t0, t1, t2, t3, t4, t5⟩, u0, u1, u2, u3, u4, u5⟩ := vis_two (V5.out.below hbel) hit hkt
              obtain ⟨hvr, hvw⟩ := HS.out.ok _ (List.getElem_mem hit)
              have hvw := hvw _ (List.getElem_mem hkt)
              obtain ⟨v, hv⟩ : ∃ v, v = L[i] := ⟨_, rfl⟩
              obtain ⟨x, hx⟩ : ∃ x, x = L[k] := ⟨_, rfl⟩
              rw [← hv] at t0 t1 t2 t3 t4 t5 hvr hvw
              rw [← hx] at u0 u1 u2 u3 u4 u5 hvw
              have lb3 : b3 < wr.heap.size := Nat.lt_of_lt_of_le hb3 hbel.size
              clear hv hx hbel
              go_upto_region 12 with fail
              go_cut [9, 10] (fun s9 s10 wx => ∃ gv gw : Nat, s9 = .pointer (some ⟨gv, 0, none⟩) ∧ s10 = .pointer (some ⟨gw, 0, none⟩) ∧ Row wx gv 57 (visC v) ∧ Row wx gw 57 (visC x) ∧ Below w2.heap.size w2 wx)
              case first =>
                go_region
                all_goals go_wp2_with fail
                all_goals go_meet
                · obtain ⟨h1, h2, h3⟩ := two_rows wr 57 #[.int .i64 v.group, .int .i64 v.want, .int .i64 v.ride, .bool v.on, .int .i64 v.came, .int .i64 v.left] #[.int .i64 x.group, .int .i64 x.want, .int .i64 x.ride, .bool x.on, .int .i64 x.came, .int .i64 x.left]
                  exact ⟨_, _, rfl, rfl, h1, h2, HBr.out.trans (h3.mono HBr.out.size)⟩
                · obtain ⟨h1, h2, h3⟩ := two_rows wr 57 #[.int .i64 x.group, .int .i64 x.want, .int .i64 x.ride, .bool x.on, .int .i64 x.came, .int .i64 x.left] #[.int .i64 v.group, .int .i64 v.want, .int .i64 v.ride, .bool v.on, .int .i64 v.came, .int .i64 v.left]
                  exact ⟨_, _, rfl, rfl, h2, h1, HBr.out.trans (h3.mono HBr.out.size)⟩
              case rest =>
                obtain ⟨gv, gw, rfl, rfl, rv, rw_, hbx⟩ := hcut
                have p2 : wc.cell? ⟨gv, 2, none⟩ = some (.int .i64 v.ride) := rv.cell (j := 2) (by simp)
                have p3 : wc.cell? ⟨gv, 3, none⟩ = some (.bool v.on) := rv.cell (j := 3) (by simp)
                have p4 : wc.cell? ⟨gv, 4, none⟩ = some (.int .i64 v.came) := rv.cell (j := 4) (by simp)
                have p5 : wc.cell? ⟨gv, 5, none⟩ = some (.int .i64 v.left) := rv.cell (j := 5) (by simp)
                have q2 : wc.cell? ⟨gw, 2, none⟩ = some (.int .i64 x.ride) := rw_.cell (j := 2) (by simp)
                have q4 : wc.cell? ⟨gw, 4, none⟩ = some (.int .i64 x.came) := rw_.cell (j := 4) (by simp)
                have q5 : wc.cell? ⟨gw, 5, none⟩ = some (.int .i64 x.left) := rw_.cell (j := 5) (by simp)
                have lv := rv.lt
                have lw := rw_.lt
                obtain ⟨b4, o4, rfl, hb4, -, -, -, -, d4⟩ := bth5' F5.out.2.1 hvr
                have hb45 : b4 < w2.heap.size := Nat.lt_of_lt_of_le hb4 F5.out.1
                have x4 := (hbx.cell (p := ⟨b4, o4 + v.ride * 5 + 4, none⟩) hb45).trans d4
                have l4 : b4 < wc.heap.size := Nat.lt_of_lt_of_le hb45 hbx.size
                have rf := HR2.out.below hbx z2
                have f0 : wc.cell? ⟨w.heap.size, 0, none⟩ = some (.slice (some ⟨b4, o4, none⟩) f.rides.length c) := rf.cell (j := 0) (by simp)
                have lf := rf.lt
                have HBX := Lib.hid hbx
                have hr0 : ¬ (v.ride : Int) < 0 := by omega
                have hr1 : ¬ (f.rides.length : Int) ≤ (v.ride : Int) := by omega
                have hr2 : (v.ride : Int) < (f.rides.length : Int) := by omega
                generalize (f.rides.getD v.ride default).fill = fl at x4 hvw
                clear t0 t1 t2 t3 t4 t5 u0 u1 u2 u3 u4 u5 lb3 rv rw_ rf hbx d4 hb4 y0 y1
                by_cases hrx : v.ride = x.ride
                · rw [← hrx] at q2
                  cases fl with
                  | false =>
                    cases hon : v.on with
                    | true =>
                      rw [hon] at p3
                      by_cases hc : x.came < v.came
                      · have hle : ¬ v.left < x.left := by have := hvw hrx rfl hon hc; omega
                        clear hvw hrx hon
                        go_wp2_with fail
                        go_roundw
                        case rel => exact ⟨k + 1, by omega, by go_num, HBX.out⟩
                        case measure => simp [intOf]; omega
                      · clear hvw hrx hon
                        go_wp2_with fail
                        go_roundw
                        case rel => exact ⟨k + 1, by omega, by go_num, HBX.out⟩
                        case measure => simp [intOf]; omega
                    | false =>
                      rw [hon] at p3
                      clear hvw hrx hon
                      go_wp2_with fail
                      go_roundw
                      case rel => exact ⟨k + 1, by omega, by go_num, HBX.out⟩
                      case measure => simp [intOf]; omega
                  | true =>
                    clear hvw hrx
                    go_wp2_with fail
                    go_roundw
                    case rel => exact ⟨k + 1, by omega, by go_num, HBX.out⟩
                    case measure => simp [intOf]; omega
                · have drx : (((v.ride : Nat) : Int) == ((x.ride : Nat) : Int)) = false := by simp; omega
                  clear hvw hrx
                  go_wp2_with fail
                  go_roundw
                  case rel => exact ⟨k + 1, by omega, by go_num, HBX.out⟩
                  case measure => simp [intOf]; omega
            · have hge : ¬ (k : Int) < (L.length : Int) := by omega
              go_wp2_with fail
              go_roundw
              case rel => exact ⟨i + 1, by omega, by go_num, HBr.out⟩
              case measure => simp [intOf]; omega
        · have hge : ¬ (i : Int) < (L.length : Int) := by omega
          go_wp2_with (go_at_call 16; refine (Hfin.out _ (B2.out.trans (HBw.out.mono B2.out.size))).mono ?_; rintro e w6 ⟨rfl, hb6⟩; have HB6 := Lib.hid hb6; clear hb6)
          go_ret
          exact ⟨rfl, HB6.out⟩
    · have dk : (k != 0) = true := by simpa using hk
      clear hL
      go_wp2_with (go_at_call 16; refine (Hfin.out _ B2.out).mono ?_; rintro e w6 ⟨rfl, hb6⟩; have HB6 := Lib.hid hb6; clear hb6)
      go_ret
      exact ⟨rfl, HB6.out⟩
end Go.Proofs.Ytphhabknlcfelaa
