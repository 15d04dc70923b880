/- The walk of QueueSeats. Conditions: an evening and groups that read as data. -/
import Derived.Test.YtphhabknlcfelaaEq
import Derived.Test.YtphhabknlcfelaaEv
namespace Go.Proofs.Ytphhabknlcfelaa
open Go.RowKit

/-- What the law looks at, and that all numbers are small. -/
structure SeatB (f : EveZ) (l : List GrpZ) (L : List VisZ) : Prop where
  ok : ∀ v ∈ L, SeatOk f l L v
  small : ∀ v ∈ L, SmallV v
  len : L.length ≤ 1000
  pat : ∀ i, i < l.length → 0 ≤ (l.getD i default).patience ∧ (l.getD i default).patience ≤ 2000
  size : ∀ i, i < l.length → 1 ≤ (l.getD i default).size ∧ (l.getD i default).size ≤ 40
  ride : ∀ r, r < f.rides.length → (1 ≤ (f.rides.getD r default).cycle ∧ (f.rides.getD r default).cycle ≤ 100) ∧ (0 ≤ (f.rides.getD r default).seats ∧ (f.rides.getD r default).seats ≤ 40)
  walk : 0 ≤ f.walk ∧ f.walk ≤ 100
theorem seatb_all {f : EveZ} {l : List GrpZ} (hc : checkQ f l = 0) {L : List VisZ} (hp : L.Perm (eveS f l).visits) : SeatB f l L := by
  obtain ⟨h1, h2⟩ := checkQ_ok.1 hc
  have g := grp_valid h2
  have e := eve_valid h1
  have ht : ∀ x ∈ l, 0 ≤ x.tokens := fun x hx => (g x hx).2.2.2.1.1
  have hw : ∀ x ∈ l, ∀ w ∈ x.wants, 0 ≤ w ∧ w < (f.rides.length : Int) := fun x hx => (g x hx).2.2.2.2.2
  have hfit := fit_of (big_start h1 h2).1 (play_his f l ht hw)
  refine ⟨seats_ok f l ht (fun x hx => (g x hx).2.1.1) (fun x hx => (g x hx).2.2.1.1) hw e.2.1.1 (fun b hb => ?_) L hp, fun v hv => (eve_small hc).1 v (hp.mem_iff.1 hv), by rw [hp.length_eq]; exact hfit.vis, fun i hi => (g _ (getD_mem' hi)).2.1, fun i hi => (g _ (getD_mem' hi)).2.2.1, fun r hr => ?_, e.2.1⟩
  · have := e.2.2 b hb
    exact ⟨by omega, this.2.2.1.1, this.2.2.2.1⟩
  · have := e.2.2 _ (getD_mem' hr)
    exact ⟨this.2.2.1, by omega, this.1.2⟩
/-- A ride's cells. -/
theorem bth5 {X : World} {B : Nat} {A : Option Addr} {f : EveZ} (h : Reads X B 5 A f.rides.length (bthCells f.rides)) {r : Nat} (hr : r < f.rides.length) : ∃ b o, A = some ⟨b, o, none⟩ ∧ b < B ∧ X.cell? ⟨b, o + r * 5, none⟩ = some (.int .i64 (f.rides.getD r default).seats) ∧ X.cell? ⟨b, o + r * 5 + 1, none⟩ = some (.int .i64 (f.rides.getD r default).price) ∧ X.cell? ⟨b, o + r * 5 + 2, none⟩ = some (.int .i64 (f.rides.getD r default).cycle) ∧ X.cell? ⟨b, o + r * 5 + 3, none⟩ = some (.int .i64 (f.rides.getD r default).pause) ∧ X.cell? ⟨b, o + r * 5 + 4, none⟩ = some (.bool (f.rides.getD r default).fill) := by
  obtain ⟨b, o, e, hb, hc⟩ := h.2 (by omega)
  have key : ∀ j, j < 5 → ∀ u, (bthL (f.rides.getD r default))[j]? = some u → X.cell? ⟨b, o + r * 5 + j, none⟩ = some u := fun j hj u hu => by
    have := hc _ _ ((bthCells_at f.rides r hr j hj).trans hu)
    rw [← Nat.add_assoc] at this
    exact this
  exact ⟨b, o, e, hb, key 0 (by omega) _ rfl, key 1 (by omega) _ rfl, key 2 (by omega) _ rfl, key 3 (by omega) _ rfl, key 4 (by omega) _ rfl⟩
theorem onL_snoc (cyc : Nat → Int) (sz : Nat → Int) (v w : VisZ) : ∀ l : List VisZ, onL cyc sz v (l ++ [w]) = onL cyc sz v l + (if w.ride = v.ride ∧ w.on = true ∧ v.on = true ∧ w.left ≤ v.left ∧ v.left < w.left + cyc v.ride then sz w.group else 0) := by
  intro l
  induction l with
  | nil => simp [onL]
  | cons x l ih => simp only [List.cons_append, onL, ih]; omega
theorem onL_bd (cyc : Nat → Int) (sz : Nat → Int) (v : VisZ) : ∀ l : List VisZ, (∀ w ∈ l, 1 ≤ sz w.group ∧ sz w.group ≤ 40) → 0 ≤ onL cyc sz v l ∧ onL cyc sz v l ≤ 40 * (l.length : Int) := by
  intro l
  induction l with
  | nil => intro _; simp [onL]
  | cons x l ih =>
    intro h
    have h1 := ih fun y hy => h y (List.mem_cons_of_mem _ hy)
    have h2 := h x List.mem_cons_self
    simp only [onL, List.length_cons]
    split <;> omega
set_option maxRecDepth 100000 in
set_option maxHeartbeats 4000000 in
theorem qseats_walk (f : EveZ) (l : List GrpZ) (A A2 : Option Addr) (c c2 B : Nat) (rs : List (Option Addr × Nat)) (w : World) (hB : B ≤ w.heap.size) (hr : Reads w B 5 A f.rides.length (bthCells f.rides)) (hn : f.rides.length ≤ maxLen) (hl : GrpsIn w B A2 rs l) :
    Calls Try.prog 11 #[eveV f A c, .slice A2 l.length c2] w (TrueP w) := by
  obtain ⟨W, hW⟩ : ∃ W, W = w.alloc (.cells #[.slice A f.rides.length c, .int .i64 f.walk] 24) := ⟨_, rfl⟩
  have bW : Below w.heap.size w W := by subst hW; exact (Below.refl _ _).alloc (Nat.le_refl _) _
  have r0 : Row W w.heap.size 24 [.slice A f.rides.length c, .int .i64 f.walk] := by subst hW; exact Row.new w _ _
  have q0 : W.cell? ⟨w.heap.size, 0, none⟩ = some (.slice A f.rides.length c) := r0.cell (j := 0) (by simp)
  have q1 : W.cell? ⟨w.heap.size, 1, none⟩ = some (.int .i64 f.walk) := r0.cell (j := 1) (by simp)
  have z0 := r0.lt
  have HR : Hid (∀ X, Below w.heap.size w X → B ≤ X.heap.size ∧ Reads X B 5 A f.rides.length (bthCells f.rides) ∧ GrpsIn X B A2 rs l) := fun X hX => ⟨Nat.le_trans hB hX.size, hr.below (hX.mono hB), hl.below (hX.mono hB)⟩
  have HF := Lib.hid (far_any f l A A2 c c2 B rs W (HR.out W bW).1 hn (HR.out W bW).2.2)
  have Hfin : Hid (∀ X : World, Below w.heap.size w X → Calls Try.prog 16 #[] X fun e w' => e = .returned (.bool true) ∧ Below w.heap.size w w') := fun X hX => (works_any X).mono fun _ _ h => ⟨h.1, hX.trans (h.2.mono hX.size)⟩
  unfold eveV at HF ⊢
  clear hr hl
  go_enter Try.func11, Try.ntmps11
  go_upto_region 1 with (fail)
  rw [← hW]
  clear hW
  cases hfb : farB f l with
  | true =>
    rw [hfb] at HF
    go_wp2_with (first | (go_at_call 15; refine HF.out.mono ?_; rintro e w1 ⟨rfl, hb1⟩; have b1 := bW.trans (hb1.mono bW.size); clear hb1) | (go_at_call 16; refine (Hfin.out _ b1).mono ?_; rintro e w2 ⟨rfl, hb2⟩; have HB2 := Lib.hid hb2; clear hb2))
    go_ret
    exact ⟨rfl, HB2.out⟩
  | false =>
    rw [hfb] at HF
    obtain ⟨n1, n2, -⟩ := far_not hfb
    obtain ⟨k, hk⟩ : ∃ k, k = checkQ f l := ⟨_, rfl⟩
    have HP : Hid (∀ X, Below w.heap.size w X → Calls Try.prog 40 #[eveV f A c, .slice A2 l.length c2] X fun e w' => ∃ (L : List VisZ) (A3 : Option Addr) (c3 : Nat), e = .returned (.tuple #[.slice A3 L.length c3, .int .i64 k]) ∧ (k = 0 → SeatB f l L) ∧ Below X.heap.size X w' ∧ Reads w' w'.heap.size 6 A3 L.length (L.flatMap visL)) := fun X hX => (lplay_any f l A A2 c c2 B rs X (HR.out X hX).1 (HR.out X hX).2.1 hn (HR.out X hX).2.2 hfb).mono fun e w' ⟨L, A3, c3, h1, h2, h3, h4⟩ => ⟨L, A3, c3, by rw [hk]; exact h1, fun h0 => by
      rw [hk] at h0
      exact seatb_all h0 (h2 h0).1, h3, h4⟩
    unfold eveV at HP
    clear hfb hn hk
    go_upto_region 3 with (go_at_call 15; refine HF.out.mono ?_; rintro e w1 ⟨rfl, hb1⟩)
    have b1 := bW.trans (hb1.mono bW.size)
    have r1 := r0.below hb1 z0
    have z1 := r1.lt
    have x0 : w1.cell? ⟨w.heap.size, 0, none⟩ = some (.slice A f.rides.length c) := r1.cell (j := 0) (by simp)
    have x1 : w1.cell? ⟨w.heap.size, 1, none⟩ = some (.int .i64 f.walk) := r1.cell (j := 1) (by simp)
    clear q0 q1 r0 hb1 z0 HF
    go_upto_region 4 with (go_at_call 40; refine (HP.out w1 b1).mono ?_; rintro e w2 ⟨L, A3, c3, rfl, hL, hb2, hr2⟩)
    have b2 := b1.trans (hb2.mono b1.size)
    have r2 := r1.below hb2 z1
    have z2 := r2.lt
    have y0 : w2.cell? ⟨w.heap.size, 0, none⟩ = some (.slice A f.rides.length c) := r2.cell (j := 0) (by simp)
    have y1 : w2.cell? ⟨w.heap.size, 1, none⟩ = some (.int .i64 f.walk) := r2.cell (j := 1) (by simp)
    clear x0 x1 r1 hb2 z1 b1 HP
    have HR2 := Lib.hid r2
    have V5 := Lib.hid hr2
    have F5 := Lib.hid (HR.out w2 b2)
    have B2 := Lib.hid b2
    clear r2 hr2 b2
    by_cases hk : k = 0
    · subst hk
      have HS := Lib.hid (hL rfl)
      clear hL
      go_upto_region 7 with fail
      go_loopw [7] (fun kv wr => ∃ k : Nat, k ≤ L.length ∧ kv = .int .i64 k ∧ Below w2.heap.size w2 wr) (fun kv _ => L.length - (intOf kv).toNat)
      case atStart => exact ⟨0, Nat.zero_le _, rfl, Below.refl _ _⟩
      case round =>
        as_aux_lemma =>
          obtain ⟨k, hk, rfl, hbel⟩ := hrel
          have HBw := Lib.hid hbel
          by_cases hkt : k < L.length
          · have hkt' : (k : Int) < (L.length : Int) := by omega
            obtain ⟨b3, o3, rfl, hb3, t0, t1, t2, t3, t4, t5⟩ := vis_cells (V5.out.below hbel) hkt
            have hlen := HS.out.len
            have hok := HS.out.ok _ (List.getElem_mem hkt)
            obtain ⟨⟨s1, s2⟩, s3, s4, s5⟩ := HS.out.small _ (List.getElem_mem hkt)
            obtain ⟨v, hv⟩ : ∃ v, v = L[k] := ⟨_, rfl⟩
            rw [← hv] at t0 t1 t2 t3 t4 t5 hok s1 s2 s3 s4 s5
            obtain ⟨k1, k2, ⟨k3, k4⟩, k5, ⟨k6, k7, k8⟩, k9, k10⟩ := hok
            obtain ⟨m, hm⟩ := Int.eq_ofNat_of_zero_le k3
            have lb3 : b3 < wr.heap.size := Nat.lt_of_lt_of_le hb3 hbel.size
            have e1 : IntKind.i64.wrap ((k : Int) + 1) = (k : Int) + 1 := IntWalk.i64_in _ (by omega)
            rw [hm] at t1 k4 k5
            clear hv hbel
            go_upto_region 10 with fail
            obtain ⟨Y, hY⟩ : ∃ Y, Y = wr.alloc (.cells #[.int .i64 v.group, .int .i64 m, .int .i64 v.ride, .bool v.on, .int .i64 v.came, .int .i64 v.left] 57) := ⟨_, rfl⟩
            rw [← hY]
            have rY : Row Y wr.heap.size 57 [.int .i64 v.group, .int .i64 m, .int .i64 v.ride, .bool v.on, .int .i64 v.came, .int .i64 v.left] := by subst hY; exact Row.new wr _ _
            have bY : Below w2.heap.size w2 Y := by subst hY; exact HBw.out.alloc HBw.out.size _
            have gvw : w2.heap.size ≤ wr.heap.size := HBw.out.size
            have p0 : Y.cell? ⟨wr.heap.size, 0, none⟩ = some (.int .i64 v.group) := rY.cell (j := 0) (by simp)
            have p1 : Y.cell? ⟨wr.heap.size, 1, none⟩ = some (.int .i64 m) := rY.cell (j := 1) (by simp)
            have p2 : Y.cell? ⟨wr.heap.size, 2, none⟩ = some (.int .i64 v.ride) := rY.cell (j := 2) (by simp)
            have lY := rY.lt
            obtain ⟨b, o, rfl, hb, hcs⟩ := F5.out.2.2.outer (by omega)
            have hb5 : b < w2.heap.size := Nat.lt_of_lt_of_le hb F5.out.1
            obtain ⟨-, g1, -, g3, g4⟩ := hcs v.group k2
            obtain ⟨b9, o9, ha9, hb9, hc9⟩ := (F5.out.2.2.inner v.group k2).2 (by omega)
            rw [ha9] at g3
            have hb95 : b9 < w2.heap.size := Nat.lt_of_lt_of_le hb9 F5.out.1
            have c3' := (bY.cell (p := ⟨b, o + v.group * 5 + 3, none⟩) hb5).trans g3
            have c9 := (bY.cell (p := ⟨b9, o9 + m, none⟩) hb95).trans (hc9 m (.int .i64 v.ride) (by
              have hml : m < (l.getD v.group default).wants.length := by omega
              have k5' : (l.getD v.group default).wants.getD m 0 = (v.ride : Int) := k5
              rw [List.getElem?_map, List.getElem?_eq_getElem hml]
              rw [List.getD_eq_getElem?_getD, List.getElem?_eq_getElem hml] at k5'
              have k5'' : (l.getD v.group default).wants[m] = (v.ride : Int) := k5'
              rw [k5'']
              rfl))
            have lb : b < Y.heap.size := Nat.lt_of_lt_of_le hb5 bY.size
            have lb9 : b9 < Y.heap.size := Nat.lt_of_lt_of_le hb95 bY.size
            have rf := HR2.out.below bY z2
            have f0 : Y.cell? ⟨w.heap.size, 0, none⟩ = some (.slice A f.rides.length c) := rf.cell (j := 0) (by simp)
            have f1 : Y.cell? ⟨w.heap.size, 1, none⟩ = some (.int .i64 f.walk) := rf.cell (j := 1) (by simp)
            have lf := rf.lt
            have HGc := Lib.hid hcs
            have G4 := Lib.hid g4
            have HBY := Lib.hid bY
            have HRY := Lib.hid rY
            have HRF := Lib.hid rf
            have hg0 : ¬ (v.group : Int) < 0 := by omega
            have hg1 : ¬ (l.length : Int) ≤ (v.group : Int) := by omega
            have hg2 : (v.group : Int) < (l.length : Int) := by omega
            have hr0 : ¬ (v.ride : Int) < 0 := by omega
            have hr1 : ¬ (f.rides.length : Int) ≤ (v.ride : Int) := by omega
            have hr2 : (v.ride : Int) < (f.rides.length : Int) := by omega
            have hm0 : ¬ (m : Int) < 0 := by omega
            have hm1 : ¬ ((l.getD v.group default).wants.length : Int) ≤ (m : Int) := by omega
            have hm2 : (m : Int) < ((l.getD v.group default).wants.length : Int) := by omega
            generalize (l.getD v.group default).wants.length = nw at c3' hm1 hm2
            clear t0 t1 t2 t3 t4 t5 lb3 hcs hc9 g1 g3 g4 ha9 hY bY rY rf k3 k4 k5
            go_quiet (fail)
            have bX := below_drewN HBY.out nq
            have rX := HRY.out.drewN nq
            obtain ⟨X, hX⟩ : ∃ X, X = Y.drewN nq := ⟨_, rfl⟩
            rw [← hX] at bX rX ⊢
            obtain ⟨gv, hgv⟩ : ∃ g, g = wr.heap.size := ⟨_, rfl⟩
            rw [← hgv] at rX gvw ⊢
            clear hgv
            have p0 : X.cell? ⟨gv, 0, none⟩ = some (.int .i64 v.group) := rX.cell (j := 0) (by simp)
            have p2 : X.cell? ⟨gv, 2, none⟩ = some (.int .i64 v.ride) := rX.cell (j := 2) (by simp)
            have p3 : X.cell? ⟨gv, 3, none⟩ = some (.bool v.on) := rX.cell (j := 3) (by simp)
            have p4 : X.cell? ⟨gv, 4, none⟩ = some (.int .i64 v.came) := rX.cell (j := 4) (by simp)
            have p5 : X.cell? ⟨gv, 5, none⟩ = some (.int .i64 v.left) := rX.cell (j := 5) (by simp)
            have lX := rX.lt
            have c4 := (bX.cell (p := ⟨b, o + v.group * 5 + 4, none⟩) hb5).trans G4.out
            have lb' : b < X.heap.size := Nat.lt_of_lt_of_le hb5 bX.size
            obtain ⟨b4, o4, rfl, hb4, d0, d1, d2, d3, d4⟩ := bth5 F5.out.2.1 k1
            have hb45 : b4 < w2.heap.size := Nat.lt_of_lt_of_le hb4 F5.out.1
            have x0 := (bX.cell (p := ⟨b4, o4 + v.ride * 5, none⟩) hb45).trans d0
            have x1 := (bX.cell (p := ⟨b4, o4 + v.ride * 5 + 1, none⟩) hb45).trans d1
            have x2 := (bX.cell (p := ⟨b4, o4 + v.ride * 5 + 2, none⟩) hb45).trans d2
            have x3 := (bX.cell (p := ⟨b4, o4 + v.ride * 5 + 3, none⟩) hb45).trans d3
            have x4 := (bX.cell (p := ⟨b4, o4 + v.ride * 5 + 4, none⟩) hb45).trans d4
            have l4 : b4 < X.heap.size := Nat.lt_of_lt_of_le hb45 bX.size
            have rf := HR2.out.below bX z2
            have f0 : X.cell? ⟨w.heap.size, 0, none⟩ = some (.slice (some ⟨b4, o4, none⟩) f.rides.length c) := rf.cell (j := 0) (by simp)
            have lf := rf.lt
            obtain ⟨⟨cb1, cb2⟩, sb1, sb2⟩ := HS.out.ride v.ride k1
            obtain ⟨pb1, pb2⟩ := HS.out.pat v.group k2
            obtain ⟨wb1, wb2⟩ := HS.out.walk
            obtain ⟨cy, hcy⟩ : ∃ x, x = (f.rides.getD v.ride default).cycle := ⟨_, rfl⟩
            obtain ⟨se, hse⟩ : ∃ x, x = (f.rides.getD v.ride default).seats := ⟨_, rfl⟩
            rw [← hcy] at x2 cb1 cb2
            rw [← hse] at x0 sb1 sb2 k9
            generalize (f.rides.getD v.ride default).price = pr at x1
            generalize (f.rides.getD v.ride default).pause = pz at x3
            generalize (f.rides.getD v.ride default).fill = fl at x4
            generalize (l.getD v.group default).patience = pt at c4 k7 k8 pb1 pb2
            have k10' : ∀ x ∈ L, x.group = v.group → x.want = (m : Int) + 1 → x.came = v.left + (if v.on then cy else 0) + f.walk := fun x hx h1 h2 => by
              rw [hcy]
              exact k10 x hx h1 (by rw [hm]; exact h2)
            have K10 := Lib.hid k10'
            have K9 := Lib.hid k9
            have HCY := Lib.hid hcy
            have HRX := Lib.hid rX
            have HBX := Lib.hid bX
            have ew : IntKind.i64.wrap (v.left - v.came) = v.left - v.came := IntWalk.i64_in _ (by omega)
            have ep : IntKind.i64.wrap (pt + 1) = pt + 1 := IntWalk.i64_in _ (by omega)
            have es : IntKind.i64.wrap ((m : Int) + 1) = (m : Int) + 1 := IntWalk.i64_in _ (by omega)
            have hw0 : ¬ v.left - v.came < 0 := by omega
            have hw2 : ¬ pt + 1 < v.left - v.came := by omega
            clear k9 k10 k10' hcy hse rX bX rf d0 d1 d2 d3 d4 hb4 hX c9 c3' lb9 lb HRY HRF HBY f1 lY p1
            have HW1 : Hid (v.on = true → ¬ pt < v.left - v.came) := fun h => by have := k8 h; omega
            clear k8
            go_upto_region 13 with fail
            go_cut [124] (fun s124 wx => s124 = .bool false ∧ wx = X)
            case first =>
              as_aux_lemma =>
                cases hon : v.on with
                | true =>
                  rw [hon] at p3
                  have hw1 := HW1.out hon
                  clear hon
                  go_wp2_with fail
                  go_meet
                  exact ⟨rfl, rfl⟩
                | false =>
                  rw [hon] at p3
                  clear hon
                  go_wp2_with fail
                  go_meet
                  exact ⟨rfl, rfl⟩
            case rest =>
              as_aux_lemma =>
                obtain ⟨rfl, hx0⟩ := hcut
                have hx1 := hx0.symm
                clear hx0
                subst hx1
                go_upto_region 18 with fail
                obtain ⟨Z, hZ⟩ : ∃ Z, Z = X.alloc (.cells #[.int .i64 se, .int .i64 pr, .int .i64 cy, .int .i64 pz, .bool fl] 47) := ⟨_, rfl⟩
                rw [← hZ]
                have HRZ : Hid (Row Z gv 57 [.int .i64 v.group, .int .i64 m, .int .i64 v.ride, .bool v.on, .int .i64 v.came, .int .i64 v.left]) := by show Row _ _ _ _; subst hZ; exact HRX.out.alloc _
                have HGZ : Hid (Row Z X.heap.size 47 [.int .i64 se, .int .i64 pr, .int .i64 cy, .int .i64 pz, .bool fl]) := by show Row _ _ _ _; subst hZ; exact Row.new X _ _
                have HBZ : Hid (Below w2.heap.size w2 Z) := by show Below _ _ _; subst hZ; exact HBX.out.alloc HBX.out.size _
                obtain ⟨gb, hgb⟩ : ∃ g, g = X.heap.size := ⟨_, rfl⟩
                rw [← hgb] at HGZ ⊢
                clear hZ hgb p0 p2 p3 p4 p5 lX c4 lb' x0 x1 x2 x3 x4 l4 f0 lf
                go_loopw [11, 12] (fun ov jv wr => ∃ j : Nat, j ≤ L.length ∧ jv = .int .i64 j ∧ ov = .int .i64 (onL (fun r => (f.rides.getD r default).cycle) (fun i => (l.getD i default).size) v (L.take j)) ∧ Below Z.heap.size Z wr) (fun _ jv _ => L.length - (intOf jv).toNat)
                case atStart => exact ⟨0, Nat.zero_le _, rfl, rfl, Below.refl _ _⟩
                case round =>
                  as_aux_lemma =>
                    obtain ⟨j, hj, rfl, rfl, hbel⟩ := hrel
                    have HBr := Lib.hid hbel
                    have bw := HBZ.out.trans (hbel.mono HBZ.out.size)
                    by_cases hjt : j < L.length
                    · have hjt' : (j : Int) < (L.length : Int) := by omega
                      obtain ⟨b7, o7, e7, hb7, t0, t1, t2, t3, t4, t5⟩ := vis_cells (V5.out.below bw) hjt
                      obtain ⟨rfl, rfl⟩ : b7 = b3 ∧ o7 = o3 := by injection e7 with e; injection e with e1 e2; exact ⟨e1.symm, e2.symm⟩
                      have hxm := List.getElem_mem hjt
                      have hxok := HS.out.ok _ hxm
                      obtain ⟨⟨y1', y2'⟩, y3, y4, y5⟩ := HS.out.small _ hxm
                      have hsn : L.take (j + 1) = L.take j ++ [L[j]] := List.take_succ_eq_append_getElem hjt
                      have hbd := onL_bd (fun r => (f.rides.getD r default).cycle) (fun i => (l.getD i default).size) v (L.take j) fun x hx => HS.out.size _ (HS.out.ok x (List.mem_of_mem_take hx)).group
                      have htl : ((L.take j).length : Int) ≤ 1000 := by rw [List.length_take]; omega
                      obtain ⟨x, hx⟩ : ∃ x, x = L[j] := ⟨_, rfl⟩
                      rw [← hx] at t0 t1 t2 t3 t4 t5 hxm hxok y1' y2' y3 y4 y5 hsn
                      have hxg := hxok.group
                      have HSN : Hid (onL (fun r => (f.rides.getD r default).cycle) (fun i => (l.getD i default).size) v (L.take (j + 1)) = onL (fun r => (f.rides.getD r default).cycle) (fun i => (l.getD i default).size) v (L.take j) + (if x.ride = v.ride ∧ x.on = true ∧ v.on = true ∧ x.left ≤ v.left ∧ v.left < x.left + cy then (l.getD x.group default).size else 0)) := by
                        show _ = _
                        rw [hsn, onL_snoc, HCY.out]
                      have hk10 := K10.out x hxm
                      obtain ⟨z1, z2'⟩ := HS.out.size x.group hxg
                      obtain ⟨-, g1, -, -, -⟩ := HGc.out x.group hxg
                      generalize (l.getD x.group default).size = sz at g1 HSN z1 z2'
                      generalize onL (fun r => (f.rides.getD r default).cycle) (fun i => (l.getD i default).size) v (L.take j) = sj at hbd HSN ⊢
                      have lb3 : b7 < wr.heap.size := Nat.lt_of_lt_of_le hb7 bw.size
                      have ej : IntKind.i64.wrap ((j : Int) + 1) = (j : Int) + 1 := IntWalk.i64_in _ (by omega)
                      have ea : IntKind.i64.wrap (sj + sz) = sj + sz := IntWalk.i64_in _ (by omega)
                      have ec : IntKind.i64.wrap (x.left + cy) = x.left + cy := IntWalk.i64_in _ (by omega)
                      have ed : IntKind.i64.wrap (v.left + cy) = v.left + cy := IntWalk.i64_in _ (by omega)
                      have ef : IntKind.i64.wrap (v.left + cy + f.walk) = v.left + cy + f.walk := IntWalk.i64_in _ (by omega)
                      have eg : IntKind.i64.wrap (v.left + f.walk) = v.left + f.walk := IntWalk.i64_in _ (by omega)
                      clear hx hxok hsn hxm hbd htl e7
                      go_upto_region 21 with fail
                      obtain ⟨U, hU⟩ : ∃ U, U = wr.alloc (.cells #[.int .i64 x.group, .int .i64 x.want, .int .i64 x.ride, .bool x.on, .int .i64 x.came, .int .i64 x.left] 57) := ⟨_, rfl⟩
                      rw [← hU]
                      have rU : Row U wr.heap.size 57 [.int .i64 x.group, .int .i64 x.want, .int .i64 x.ride, .bool x.on, .int .i64 x.came, .int .i64 x.left] := by subst hU; exact Row.new wr _ _
                      have bU : Below Z.heap.size Z U := by subst hU; exact HBr.out.alloc HBr.out.size _
                      have bU2 := HBZ.out.trans (bU.mono HBZ.out.size)
                      have q0 : U.cell? ⟨wr.heap.size, 0, none⟩ = some (.int .i64 x.group) := rU.cell (j := 0) (by simp)
                      have q1 : U.cell? ⟨wr.heap.size, 1, none⟩ = some (.int .i64 x.want) := rU.cell (j := 1) (by simp)
                      have q2 : U.cell? ⟨wr.heap.size, 2, none⟩ = some (.int .i64 x.ride) := rU.cell (j := 2) (by simp)
                      have q3 : U.cell? ⟨wr.heap.size, 3, none⟩ = some (.bool x.on) := rU.cell (j := 3) (by simp)
                      have q4 : U.cell? ⟨wr.heap.size, 4, none⟩ = some (.int .i64 x.came) := rU.cell (j := 4) (by simp)
                      have q5 : U.cell? ⟨wr.heap.size, 5, none⟩ = some (.int .i64 x.left) := rU.cell (j := 5) (by simp)
                      have lU := rU.lt
                      have rv := HRZ.out.below bU HRZ.out.lt
                      have p0 : U.cell? ⟨gv, 0, none⟩ = some (.int .i64 v.group) := rv.cell (j := 0) (by simp)
                      have p1 : U.cell? ⟨gv, 1, none⟩ = some (.int .i64 m) := rv.cell (j := 1) (by simp)
                      have p2 : U.cell? ⟨gv, 2, none⟩ = some (.int .i64 v.ride) := rv.cell (j := 2) (by simp)
                      have p3 : U.cell? ⟨gv, 3, none⟩ = some (.bool v.on) := rv.cell (j := 3) (by simp)
                      have p5 : U.cell? ⟨gv, 5, none⟩ = some (.int .i64 v.left) := rv.cell (j := 5) (by simp)
                      have lv := rv.lt
                      have rb := HGZ.out.below bU HGZ.out.lt
                      have r2 : U.cell? ⟨gb, 2, none⟩ = some (.int .i64 cy) := rb.cell (j := 2) (by simp)
                      have lrb := rb.lt
                      have rf := HR2.out.below bU2 z2
                      have f1 : U.cell? ⟨w.heap.size, 1, none⟩ = some (.int .i64 f.walk) := rf.cell (j := 1) (by simp)
                      have lf := rf.lt
                      have cz := (bU2.cell (p := ⟨b, o + x.group * 5 + 1, none⟩) hb5).trans g1
                      have lbU : b < U.heap.size := Nat.lt_of_lt_of_le hb5 bU2.size
                      have hx2 : (x.group : Int) < (l.length : Int) := by omega
                      have HBU := Lib.hid bU
                      clear t0 t1 t2 t3 t4 t5 hU rU bU bU2 rv rb rf g1 lb3 hbel bw y1' y2' y3 y4 y5 z1 z2'
                      go_cut [170] (fun s170 wx => s170 = .bool (decide (x.ride = v.ride ∧ x.on = true ∧ v.on = true ∧ x.left ≤ v.left ∧ v.left < x.left + cy)) ∧ wx = U)
                      case first =>
                        as_aux_lemma =>
                          clear hk10 HSN
                          by_cases hrx : x.ride = v.ride
                          · cases hox : x.on with
                            | false =>
                              have HD : Hid (decide (x.ride = v.ride ∧ x.on = true ∧ v.on = true ∧ x.left ≤ v.left ∧ v.left < x.left + cy) = false) := decide_eq_false (fun hh => by rw [hox] at hh; exact Bool.noConfusion hh.2.1)
                              rw [hrx] at q2
                              rw [hox] at q3
                              clear hox hrx
                              go_wp2_with fail
                              go_meet
                              exact ⟨by rw [HD.out], rfl⟩
                            | true =>
                              cases hvo : v.on with
                              | false =>
                                have HD : Hid (decide (x.ride = v.ride ∧ x.on = true ∧ v.on = true ∧ x.left ≤ v.left ∧ v.left < x.left + cy) = false) := decide_eq_false (fun hh => by rw [hvo] at hh; exact Bool.noConfusion hh.2.2.1)
                                rw [hrx] at q2
                                rw [hox] at q3
                                rw [hvo] at p3
                                clear hox hrx hvo
                                go_wp2_with fail
                                go_meet
                                exact ⟨by rw [HD.out], rfl⟩
                              | true =>
                                by_cases hle : x.left ≤ v.left
                                · by_cases hlt : v.left < x.left + cy
                                  · have HD : Hid (decide (x.ride = v.ride ∧ x.on = true ∧ v.on = true ∧ x.left ≤ v.left ∧ v.left < x.left + cy) = true) := decide_eq_true (⟨hrx, hox, hvo, hle, hlt⟩)
                                    rw [hrx] at q2
                                    rw [hox] at q3
                                    rw [hvo] at p3
                                    clear hox hrx hvo
                                    go_wp2_with fail
                                    go_meet
                                    exact ⟨by rw [HD.out], rfl⟩
                                  · have HD : Hid (decide (x.ride = v.ride ∧ x.on = true ∧ v.on = true ∧ x.left ≤ v.left ∧ v.left < x.left + cy) = false) := decide_eq_false (fun hh => hlt hh.2.2.2.2)
                                    rw [hrx] at q2
                                    rw [hox] at q3
                                    rw [hvo] at p3
                                    clear hox hrx hvo
                                    go_wp2_with fail
                                    go_meet
                                    exact ⟨by rw [HD.out], rfl⟩
                                · have HD : Hid (decide (x.ride = v.ride ∧ x.on = true ∧ v.on = true ∧ x.left ≤ v.left ∧ v.left < x.left + cy) = false) := decide_eq_false (fun hh => hle hh.2.2.2.1)
                                  rw [hrx] at q2
                                  rw [hox] at q3
                                  rw [hvo] at p3
                                  clear hox hrx hvo
                                  go_wp2_with fail
                                  go_meet
                                  exact ⟨by rw [HD.out], rfl⟩
                          · have HD : Hid (decide (x.ride = v.ride ∧ x.on = true ∧ v.on = true ∧ x.left ≤ v.left ∧ v.left < x.left + cy) = false) := decide_eq_false (fun hh => hrx hh.1)
                            have drx : (((x.ride : Nat) : Int) == ((v.ride : Nat) : Int)) = false := by simp; omega
                            clear hrx
                            go_wp2_with fail
                            go_meet
                            exact ⟨by rw [HD.out], rfl⟩
                      case rest =>
                        as_aux_lemma =>
                          obtain ⟨rfl, hx0⟩ := hcut
                          have hx1 := hx0.symm
                          clear hx0
                          subst hx1
                          by_cases hC : (x.ride = v.ride ∧ x.on = true ∧ v.on = true ∧ x.left ≤ v.left ∧ v.left < x.left + cy)
                          · have HT : Hid (_ = sj + sz) := HSN.out.trans (by rw [if_pos hC])
                            have dC : decide (x.ride = v.ride ∧ x.on = true ∧ v.on = true ∧ x.left ≤ v.left ∧ v.left < x.left + cy) = true := decide_eq_true hC
                            rw [dC]
                            clear HSN hC dC
                            by_cases hgx : x.group = v.group
                            · rw [hgx] at q0 cz
                              by_cases hwx : x.want = (m : Int) + 1
                              · have hk := hk10 hgx hwx
                                rw [hwx] at q1
                                clear hk10 hgx hwx
                                cases hvo : v.on with
                                | true =>
                                  have hca : x.came = v.left + cy + f.walk := by rw [hvo] at hk; simpa using hk
                                  rw [hvo] at p3
                                  rw [hca] at q4
                                  clear hk hca hvo
                                  go_wp2_with fail
                                  go_roundw
                                  case rel => exact ⟨j + 1, by omega, by go_num, by rw [HT.out], HBU.out⟩
                                  case measure => simp [intOf]; omega
                                | false =>
                                  have hca : x.came = v.left + f.walk := by rw [hvo] at hk; simpa using hk
                                  rw [hvo] at p3
                                  rw [hca] at q4
                                  clear hk hca hvo
                                  go_wp2_with fail
                                  go_roundw
                                  case rel => exact ⟨j + 1, by omega, by go_num, by rw [HT.out], HBU.out⟩
                                  case measure => simp [intOf]; omega
                              · have dwx : (x.want == (m : Int) + 1) = false := by simpa using hwx
                                clear hk10 hgx hwx
                                go_wp2_with fail
                                go_roundw
                                case rel => exact ⟨j + 1, by omega, by go_num, by rw [HT.out], HBU.out⟩
                                case measure => simp [intOf]; omega
                            · have dgx : (((x.group : Nat) : Int) == ((v.group : Nat) : Int)) = false := by simp; omega
                              clear hk10 hgx
                              go_wp2_with fail
                              go_roundw
                              case rel => exact ⟨j + 1, by omega, by go_num, by rw [HT.out], HBU.out⟩
                              case measure => simp [intOf]; omega
                          · have HT : Hid (_ = sj) := HSN.out.trans (by rw [if_neg hC]; omega)
                            have dC : decide (x.ride = v.ride ∧ x.on = true ∧ v.on = true ∧ x.left ≤ v.left ∧ v.left < x.left + cy) = false := decide_eq_false hC
                            rw [dC]
                            clear HSN hC dC
                            by_cases hgx : x.group = v.group
                            · rw [hgx] at q0 cz
                              by_cases hwx : x.want = (m : Int) + 1
                              · have hk := hk10 hgx hwx
                                rw [hwx] at q1
                                clear hk10 hgx hwx
                                cases hvo : v.on with
                                | true =>
                                  have hca : x.came = v.left + cy + f.walk := by rw [hvo] at hk; simpa using hk
                                  rw [hvo] at p3
                                  rw [hca] at q4
                                  clear hk hca hvo
                                  go_wp2_with fail
                                  go_roundw
                                  case rel => exact ⟨j + 1, by omega, by go_num, by rw [HT.out], HBU.out⟩
                                  case measure => simp [intOf]; omega
                                | false =>
                                  have hca : x.came = v.left + f.walk := by rw [hvo] at hk; simpa using hk
                                  rw [hvo] at p3
                                  rw [hca] at q4
                                  clear hk hca hvo
                                  go_wp2_with fail
                                  go_roundw
                                  case rel => exact ⟨j + 1, by omega, by go_num, by rw [HT.out], HBU.out⟩
                                  case measure => simp [intOf]; omega
                              · have dwx : (x.want == (m : Int) + 1) = false := by simpa using hwx
                                clear hk10 hgx hwx
                                go_wp2_with fail
                                go_roundw
                                case rel => exact ⟨j + 1, by omega, by go_num, by rw [HT.out], HBU.out⟩
                                case measure => simp [intOf]; omega
                            · have dgx : (((x.group : Nat) : Int) == ((v.group : Nat) : Int)) = false := by simp; omega
                              clear hk10 hgx
                              go_wp2_with fail
                              go_roundw
                              case rel => exact ⟨j + 1, by omega, by go_num, by rw [HT.out], HBU.out⟩
                              case measure => simp [intOf]; omega
                    · have hge : ¬ (j : Int) < (L.length : Int) := by omega
                      have ej : j = L.length := by omega
                      have hk9 := K9.out
                      rw [ej, List.take_length]
                      generalize onL (fun r => (f.rides.getD r default).cycle) (fun i => (l.getD i default).size) v L = S at hk9 ⊢
                      have hns : ¬ se < S := by omega
                      have rb := HGZ.out.below hbel HGZ.out.lt
                      have r0 : wr.cell? ⟨gb, 0, none⟩ = some (.int .i64 se) := rb.cell (j := 0) (by simp)
                      have lrb := rb.lt
                      have HBq := Lib.hid bw
                      clear ej hk9 rb bw hbel
                      go_wp2_with fail
                      go_roundw
                      case rel => exact ⟨k + 1, by omega, by go_num, HBq.out⟩
                      case measure => simp [intOf]; omega
          · have hge : ¬ (k : Int) < (L.length : Int) := by omega
            go_wp2_with (go_at_call 16; refine (Hfin.out _ (B2.out.trans (HBw.out.mono B2.out.size))).mono ?_; rintro e w6 ⟨rfl, hb6⟩; have HB6 := Lib.hid hb6; clear hb6)
            go_ret
            exact ⟨rfl, HB6.out⟩
    · have dk : (k != 0) = true := by simpa using hk
      clear hL
      go_wp2_with (go_at_call 16; refine (Hfin.out _ B2.out).mono ?_; rintro e w6 ⟨rfl, hb6⟩; have HB6 := Lib.hid hb6; clear hb6)
      go_ret
      exact ⟨rfl, HB6.out⟩
end Go.Proofs.Ytphhabknlcfelaa
