/- Contract of the specification's tick. Conditions: the play lies in memory; what each step meets is in bounds. -/
import Derived.Test.YtijbhcdnbaaobaaDf
namespace Go.Proofs.Ytijbhcdnbaaobaa
open Go.RowKit

/-- What every moment keeps. -/
structure Fine (E : RfE) (x : RawR) : Prop where
  now : 0 ≤ x.now ∧ x.now ≤ 4000
  be : ∀ r, r < E.f.rides.length → -1 ≤ x.tab 0 r ∧ x.tab 0 r ≤ 4000
  en : ∀ r, r < E.f.rides.length → -1 ≤ x.tab 1 r ∧ x.tab 1 r ≤ 4000
  tk : ∀ r, r < E.f.rides.length → -1000000000 ≤ x.tab 2 r ∧ x.tab 2 r ≤ 1000000000
  q : ∀ r, r < E.f.rides.length → (x.q r).length ≤ 1000
  qi : ∀ r, r < E.f.rides.length → ∀ i, i ∈ x.q r → i < E.l.length
  v : x.vis.length ≤ 100000
  w : ∀ i, i < E.l.length → -1 ≤ x.gu i 1 ∧ x.gu i 1 ≤ 100
  si : ∀ i, i < E.l.length → 0 ≤ x.gu i 2 ∧ x.gu i 2 ≤ 4000
  t : ∀ i, i < E.l.length → -1000000000 ≤ x.gu i 3 ∧ x.gu i 3 ≤ 1000000000
  at_ : ∀ i, i < E.l.length → x.gu i 0 = 1 ∨ x.gu i 0 = 2 ∨ x.gu i 0 = 3 → 0 ≤ x.gu i 1 ∧ x.gu i 1 < ((E.l.getD i default).wants.length : Int)
def endS (E : RfE) (x : RawR) (r : Nat) : RawR := if x.tab 0 r < 0 ∨ x.now - x.tab 0 r ≠ (E.bt r).cycle then x else (x.setT 0 r (-1)).setT 1 r x.now
def offS (E : RfE) (x : RawR) (i : Nat) : RawR := if x.gu i 0 = 3 ∧ x.tab 1 (E.goal i (x.gu i 1)) = x.now then onR E x i else x
def mixR (E : RfE) (x : RawR) (i : Nat) : RawR := if x.gu i 0 = 0 ∧ (E.l.getD i default).at_ = x.now then onR E x i else if x.gu i 0 = 1 ∧ x.now - x.gu i 2 = E.f.walk then standR E x i else x
def patR (E : RfE) (x : RawR) (i : Nat) : RawR := if x.gu i 0 = 2 ∧ (E.l.getD i default).patience < x.now - x.gu i 2 then leaveR E x i false else x
def begQ (E : RfE) (x : RawR) (r : Nat) : Prop := 0 ≤ x.tab 0 r ∨ 0 ≤ x.tab 1 r ∧ x.now - x.tab 1 r < (E.bt r).pause
instance (E : RfE) (x : RawR) (r : Nat) : Decidable (begQ E x r) := inferInstanceAs (Decidable (_ ∨ _))
def begR (E : RfE) (x : RawR) (r : Nat) : RawR := if begQ E x r then x else if (fillLR E r (x.q r) (E.bt r).seats x).2 < (E.bt r).seats then (fillLR E r (x.q r) (E.bt r).seats x).1.setT 0 r (fillLR E r (x.q r) (E.bt r).seats x).1.now else (fillLR E r (x.q r) (E.bt r).seats x).1
def begPre (E : RfE) (x : RawR) (r : Nat) : Prop := ¬ begQ E x r → FillGo E r (x.q r) (E.bt r).seats x
def noPre (_ : RawR) (_ : Nat) : Prop := True
def linR (E : RfE) (x : RawR) (r : Nat) : RawR := x.setT 3 r (max (x.tab 3 r) ((x.q r).map E.sz).sum)
def LoopGo (E : RfE) (step : RawR → Nat → RawR) (pre : RawR → Nat → Prop) : List Nat → RawR → Prop
  | [], _ => True
  | i :: l, x => Fine E x ∧ pre x i ∧ LoopGo E step pre l (step x i)
structure LpAt (E : RfE) (w : World) (step : RawR → Nat → RawR) (pre : RawR → Nat → Prop) (n : Nat) (res : RawR) (j : Nat) (wr : World) (x : RawR) : Prop where
  le : j ≤ n
  at_ : RfAt E wr x
  b : Below E.base w wr
  eq : (List.range' j (n - j)).foldl step x = res
  go : LoopGo E step pre (List.range' j (n - j)) x
section
variable {E : RfE} {w : World} {step : RawR → Nat → RawR} {pre : RawR → Nat → Prop} {n j : Nat} {res x : RawR} {wr : World}
theorem rng_lt (h : j < n) : List.range' j (n - j) = j :: List.range' (j + 1) (n - (j + 1)) := by
  obtain ⟨m, hm⟩ : ∃ m, n - j = m + 1 := ⟨n - j - 1, by omega⟩
  have : n - (j + 1) = m := by omega
  rw [hm, this, List.range'_succ]
theorem LpAt.more (h : LpAt E w step pre n res j wr x) (hj : j < n) : Fine E x ∧ pre x j ∧ ∀ w9, RfAt E w9 (step x j) → Below E.base wr w9 → LpAt E w step pre n res (j + 1) w9 (step x j) := by
  have h1 := h.eq
  have h2 := h.go
  rw [rng_lt hj] at h1 h2
  exact ⟨h2.1, h2.2.1, fun w9 h9 hb => ⟨hj, h9, h.b.trans hb, h1, h2.2.2⟩⟩
theorem LpAt.done (h : LpAt E w step pre n res j wr x) (hj : ¬ j < n) : x = res := by
  have h1 := h.eq
  rw [Nat.sub_eq_zero_of_le (Nat.le_of_not_lt hj)] at h1
  exact h1
theorem LpAt.start (h : RfAt E wr x) (hb : Below E.base w wr) (he : (List.range' 0 n).foldl step x = res) (hg : LoopGo E step pre (List.range' 0 n) x) : LpAt E w step pre n res 0 wr x := ⟨Nat.zero_le _, h, hb, he, hg⟩
end
theorem sum_bd {E : RfE} (S : StatE E) (q : List Nat) (h : ∀ i, i ∈ q → i < E.l.length) : 0 ≤ (q.map E.sz).sum ∧ (q.map E.sz).sum ≤ 40 * (q.length : Int) := by
  induction q with
  | nil => simp
  | cons i q ih =>
    have h1 := ih fun k hk => h k (List.mem_cons_of_mem _ hk)
    have h2 : 1 ≤ E.sz i ∧ E.sz i ≤ 40 := (S.gp i (h i List.mem_cons_self)).2.2.1
    simp only [List.map_cons, List.sum_cons, List.length_cons]
    omega
theorem sum_snoc (E : RfE) (q : List Nat) {k : Nat} (hk : k < q.length) : ((q.take (k + 1)).map E.sz).sum = ((q.take k).map E.sz).sum + E.sz q[k] := by
  rw [List.take_succ_eq_append_getElem hk, List.map_append, List.sum_append]
  simp
structure TickGo (E : RfE) (x x1 x2 x3 x4 x5 x6 : RawR) : Prop where
  e1 : (List.range' 0 E.f.rides.length).foldl (endS E) x = x1
  g1 : LoopGo E (endS E) noPre (List.range' 0 E.f.rides.length) x
  e2 : (List.range' 0 E.l.length).foldl (offS E) x1 = x2
  g2 : LoopGo E (offS E) noPre (List.range' 0 E.l.length) x1
  e3 : (List.range' 0 E.l.length).foldl (mixR E) x2 = x3
  g3 : LoopGo E (mixR E) noPre (List.range' 0 E.l.length) x2
  e4 : (List.range' 0 E.l.length).foldl (patR E) x3 = x4
  g4 : LoopGo E (patR E) noPre (List.range' 0 E.l.length) x3
  e5 : (List.range' 0 E.f.rides.length).foldl (begR E) x4 = x5
  g5 : LoopGo E (begR E) (begPre E) (List.range' 0 E.f.rides.length) x4
  e6 : (List.range' 0 E.f.rides.length).foldl (linR E) x5 = x6
  g6 : LoopGo E (linR E) noPre (List.range' 0 E.f.rides.length) x5
set_option maxRecDepth 100000 in
set_option maxHeartbeats 4000000 in
theorem rtick_any {E : RfE} {w : World} {x x1 x2 x3 x4 x5 x6 : RawR} (h : RfAt E w x) (S : StatE E) (hgo : TickGo E x x1 x2 x3 x4 x5 x6) :
    Calls Try.prog 67 #[.pointer (some ⟨E.v, 0, none⟩)] w (StepRf E w x6) := by
  have hnr := S.nr
  have hng := S.ng
  have HL := Lib.hid (LpAt.start h (Below.refl E.base w) hgo.e1 hgo.g1)
  have HGO := Lib.hid hgo
  clear h hgo
  go_enter Try.func67, Try.ntmps67
  go_upto_region 1 with fail
  go_loopw [2] (fun jv wr => ∃ (j : Nat) (x' : RawR), jv = .int .i64 j ∧ LpAt E w (endS E) noPre E.f.rides.length x1 j wr x') (fun jv _ => E.f.rides.length - (intOf jv).toNat)
  case atStart => exact ⟨0, x, rfl, HL.out⟩
  case round =>
    clear HL
    obtain ⟨j, x', rfl, hl⟩ := hrel
    obtain ⟨qs, uv, hin⟩ := hl.at_
    have v0 : wr.cell? ⟨E.v, 0, none⟩ = some (.slice E.A E.f.rides.length E.c) := hin.pc.1
    have lv : E.v < wr.heap.size := hin.pl.lt
    by_cases hlt : j < E.f.rides.length
    · as_aux_lemma =>
        have hlt' : (j : Int) < (E.f.rides.length : Int) := by omega
        have e1 : IntKind.i64.wrap ((j : Int) + 1) = (j : Int) + 1 := IntWalk.i64_in _ (by omega)
        obtain ⟨hF, -, hK⟩ := hl.more hlt
        have hnow := hF.now
        have hbe := hF.be j hlt
        have v3 : wr.cell? ⟨E.v, 3, none⟩ = some (.int .i64 x'.now) := hin.pc.2.2.2.1
        have v6 := hin.pB (show 0 < E.f.rides.length by omega)
        have t0 := (hin.tc (k := 0) (by omega) (show j < E.tn 0 from hlt)).1
        have lt0 := (hin.tc (k := 0) (by omega) (show j < E.tn 0 from hlt)).2.1
        obtain ⟨b4, o4, ha4, hb4, -, -, d2, -, -⟩ := hin.rc hlt
        rw [ha4] at v0
        have e2 : IntKind.i64.wrap (x'.now - x'.tab 0 j) = x'.now - x'.tab 0 j := IntWalk.i64_in _ (by omega)
        have hbt : E.bt j = E.f.rides.getD j default := rfl
        rw [← hbt] at d2
        have HES : Hid (endS E x' j = if x'.tab 0 j < 0 ∨ x'.now - x'.tab 0 j ≠ (E.bt j).cycle then x' else (x'.setT 0 j (-1)).setT 1 j x'.now) := rfl
        have HIN := Lib.hid hin
        have HK := Lib.hid hK
        generalize (E.bt j).cycle = cy at d2 HES
        obtain ⟨tb, htb⟩ : ∃ z, z = x'.tab 0 j := ⟨_, rfl⟩
        obtain ⟨nn, hnn⟩ : ∃ z, z = x'.now := ⟨_, rfl⟩
        rw [← htb] at hbe t0 e2 HES
        rw [← hnn] at hnow v3 e2 HES
        have HNN := Lib.hid hnn
        clear hl hin hF hK ha4 hbt htb hnn
        go_upto_region 3 with fail
        go_cut [54] (fun s54 wx => s54 = .bool (decide (tb < 0 ∨ nn - tb ≠ cy)) ∧ Below wr.heap.size wr wx)
        case first =>
          by_cases h1 : tb < 0
          · have hd : Hid (decide (tb < 0 ∨ nn - tb ≠ cy) = true) := decide_eq_true (.inl h1)
            go_quiet (fail)
            go_wp2_with fail
            go_meet
            exact ⟨by rw [hd.out], below_drewN (Below.refl _ _) _⟩
          · have hd1 : decide (tb < 0) = false := decide_eq_false h1
            by_cases h2 : nn - tb = cy
            · have hd : Hid (decide (tb < 0 ∨ nn - tb ≠ cy) = false) := decide_eq_false (fun h => h.elim h1 (fun h => h h2))
              have hd2 : (nn - tb != cy) = false := by rw [h2]; simp
              clear h1 h2
              go_quiet (fail)
              go_wp2_with fail
              go_meet
              exact ⟨by rw [hd.out], below_drewN (Below.refl _ _) _⟩
            · have hd : Hid (decide (tb < 0 ∨ nn - tb ≠ cy) = true) := decide_eq_true (.inr h2)
              have hd2 : (nn - tb != cy) = true := by simpa using h2
              clear h1 h2
              go_quiet (fail)
              go_wp2_with fail
              go_meet
              exact ⟨by rw [hd.out], below_drewN (Below.refl _ _) _⟩
        case rest =>
          obtain ⟨rfl, hbx⟩ := hcut
          have hinx := HIN.out.grow hbx
          have BXC := Lib.hid (hbx.mono HIN.out.bW)
          clear v0 v3 v6 t0 lt0 lv d2 hb4
          by_cases hC : tb < 0 ∨ nn - tb ≠ cy
          · rw [decide_eq_true hC]
            rw [if_pos hC] at HES
            have HR := Lib.hid (HK.out wc ⟨qs, uv, by rw [HES.out]; exact hinx⟩ BXC.out)
            clear hC hinx hbx HK HES BXC HIN
            go_wp2_with fail
            go_roundw
            case rel => exact ⟨j + 1, _, by go_num, HR.out⟩
            case measure => simp [intOf]; omega
          · rw [decide_eq_false hC]
            rw [if_neg hC] at HES
            have lv : E.v < wc.heap.size := hinx.pl.lt
            have v6 := hinx.pB (show 0 < E.f.rides.length by omega)
            have t0 := (hinx.tc (k := 0) (by omega) (show j < E.tn 0 from hlt)).1
            have lt0 := (hinx.tc (k := 0) (by omega) (show j < E.tn 0 from hlt)).2.1
            have f0 := (hinx.tc (k := 0) (by omega) (show j < E.tn 0 from hlt)).2.2 j
            have k1 := hinx.setT (k := 0) (i := j) (by omega) hlt (-1)
            have b1 := BXC.out.setCell (p := ⟨E.T 0, j, none⟩) (hinx.bT 0 (by omega)) (.int .i64 (-1))
            have K1 := Lib.hid k1
            have B1 := Lib.hid b1
            clear hC hinx hbx HIN BXC k1 b1
            go_upto_region 5 with fail
            obtain ⟨X, hX⟩ : ∃ X, X = wc.setCell ⟨E.T 0, j, none⟩ (.int .i64 (-1)) := ⟨_, rfl⟩
            rw [← hX] at K1 B1 ⊢
            clear hX lv v6 t0 lt0 f0
            have k := K1.out
            have v3 : X.cell? ⟨E.v, 3, none⟩ = some (.int .i64 nn) := by rw [HNN.out]; exact k.pc.2.2.2.1
            have lv : E.v < X.heap.size := k.pl.lt
            have v7 := k.pE (show 0 < E.f.rides.length by omega)
            have t1 := (k.tc (k := 1) (by omega) (show j < E.tn 1 from hlt)).1
            have lt1 := (k.tc (k := 1) (by omega) (show j < E.tn 1 from hlt)).2.1
            have f1 := (k.tc (k := 1) (by omega) (show j < E.tn 1 from hlt)).2.2 j
            have k2 := (k.grow (below_drewN (Below.refl _ X) 1)).setT (k := 1) (i := j) (by omega) hlt nn
            have b2 := (below_drewN B1.out 1).setCell (p := ⟨E.T 1, j, none⟩) (k.bT 1 (by omega)) (.int .i64 nn)
            have HR := Lib.hid (HK.out ((X.drewN 1).setCell ⟨E.T 1, j, none⟩ (.int .i64 nn)) ⟨qs, uv, by rw [HES.out]; exact k2⟩ b2)
            clear k k2 b2 K1 B1 HK HES
            refine wp_tail 9 (by kernel_rfl) (by kernel_rfl) ?_
            simp only [List.take_succ_cons, List.take_zero, List.drop_succ_cons, List.drop_zero]
            repeat still_step
            refine wpStill_nil ?_
            go_wp2_with fail
            go_roundw
            case rel => exact ⟨j + 1, _, by go_num, HR.out⟩
            case measure => simp [intOf]; omega
    · have hge : ¬ (j : Int) < (E.f.rides.length : Int) := by omega
      have hx := hl.done hlt
      subst hx
      have HL := Lib.hid (LpAt.start hl.at_ hl.b HGO.out.e2 HGO.out.g2)
      clear hl hin
      go_upto_region 7 with fail
      clear hge hlt v0 lv
      go_loopw [3] (fun jv wr => ∃ (j : Nat) (x' : RawR), jv = .int .i64 j ∧ LpAt E w (offS E) noPre E.l.length x2 j wr x') (fun jv _ => E.l.length - (intOf jv).toNat)
      case atStart => exact ⟨0, _, rfl, HL.out⟩
      case round =>
        clear HL
        obtain ⟨j, x', rfl, hl⟩ := hrel
        obtain ⟨qs, uv, hin⟩ := hl.at_
        have lv : E.v < wr.heap.size := hin.pl.lt
        have v2 : wr.cell? ⟨E.v, 2, none⟩ = some (.slice E.A2 E.l.length E.c2) := hin.pc.2.2.1
        by_cases hlt : j < E.l.length
        · as_aux_lemma =>
            have hlt' : (j : Int) < (E.l.length : Int) := by omega
            have e1 : IntKind.i64.wrap ((j : Int) + 1) = (j : Int) + 1 := IntWalk.i64_in _ (by omega)
            obtain ⟨hF, -, hK⟩ := hl.more hlt
            have hnow := hF.now
            have hsi := hF.si j hlt
            have v4 := hin.pG (show 0 < E.l.length by omega)
            have g0 := (hin.gc hlt).1
            have g1 := (hin.gc hlt).2.1
            have g2 := (hin.gc hlt).2.2.1
            have g3 := (hin.gc hlt).2.2.2.1
            have lG := (hin.gc hlt).2.2.2.2
            obtain ⟨W, hW⟩ : ∃ W, W = wr.alloc (.cells #[.int .i64 (x'.gu j 0), .int .i64 (x'.gu j 1), .int .i64 (x'.gu j 2), .int .i64 (x'.gu j 3)] 86) := ⟨_, rfl⟩
            have bW : Below wr.heap.size wr W := by rw [hW]; exact (Below.refl _ _).alloc (Nat.le_refl _) _
            have hinW := hin.grow bW
            obtain ⟨gb, hgb⟩ : ∃ g, g = wr.heap.size := ⟨_, rfl⟩
            have rb : Row W gb 86 [.int .i64 (x'.gu j 0), .int .i64 (x'.gu j 1), .int .i64 (x'.gu j 2), .int .i64 (x'.gu j 3)] := by rw [hW, hgb]; exact Row.new wr _ _
            have BW : Hid (Below E.base wr W) := bW.mono hin.bW
            have HIN := Lib.hid hinW
            have HK := Lib.hid hK
            have HF := Lib.hid hF
            have HRB := Lib.hid rb
            clear hl hF hK bW hinW hin rb
            go_upto_region 10 with fail
            rw [← hW, ← hgb]
            clear hW hgb lv v2 v4 g0 g1 g2 g3 lG

            have hinW := HIN.out
            have p0 : W.cell? ⟨gb, 0, none⟩ = some (.int .i64 (x'.gu j 0)) := HRB.out.cell (j := 0) (by simp)
            have lgb := HRB.out.lt
            have lv : E.v < W.heap.size := hinW.pl.lt
            obtain ⟨wh, hwh⟩ : ∃ z, z = x'.gu j 0 := ⟨_, rfl⟩
            have HWH := Lib.hid hwh
            rw [← hwh] at p0
            have HES : Hid (offS E x' j = if wh = 3 ∧ x'.tab 1 (E.goal j (x'.gu j 1)) = x'.now then onR E x' j else x') := by show _ = _; rw [hwh]; rfl
            clear hwh hinW
            obtain ⟨c, hc0⟩ : ∃ c, c = decide (wh = 3 ∧ x'.tab 1 (E.goal j (x'.gu j 1)) = x'.now) := ⟨_, rfl⟩
            have HCD := Lib.hid hc0
            clear hc0
            go_cut [114] (fun s114 wx => s114 = .bool c ∧ Below W.heap.size W wx)
            case first =>
              as_aux_lemma =>
                by_cases h1 : wh = 3
                · have hat := HF.out.at_ j hlt (.inr (.inr (HWH.out.symm.trans h1)))
                  have hinW := HIN.out
                  have v2 : W.cell? ⟨E.v, 2, none⟩ = some (.slice E.A2 E.l.length E.c2) := hinW.pc.2.2.1
                  have v3 : W.cell? ⟨E.v, 3, none⟩ = some (.int .i64 x'.now) := hinW.pc.2.2.2.1
                  obtain ⟨b, o, k, hk, hkl, he, hb, hc, hr⟩ := hinW.wish hlt (S.gp j hlt).2.2.2.2 hat.1 hat.2
                  have hwl := (S.gp j hlt).2.2.2.1
                  have p1 : W.cell? ⟨gb, 1, none⟩ = some (.int .i64 (x'.gu j 1)) := HRB.out.cell (j := 1) (by simp)
                  obtain ⟨b2, o2, ha2, hb2, -, -, -, l3, -⟩ := hinW.lc hlt
                  rw [ha2] at v2
                  rw [he] at l3
                  obtain ⟨r, hrr⟩ : ∃ r, r = E.goal j (x'.gu j 1) := ⟨_, rfl⟩
                  rw [← hrr] at hr hc HCD
                  rw [hk] at p1
                  have v7 := hinW.pE (show 0 < E.f.rides.length by omega)
                  have t1 := (hinW.tc (k := 1) (by omega) (show r < E.tn 1 from hr)).1
                  have lt1 := (hinW.tc (k := 1) (by omega) (show r < E.tn 1 from hr)).2.1
                  have hr' : (r : Int) < (E.f.rides.length : Int) := by omega
                  generalize (E.l.getD j default).wants.length = nw at hkl hwl l3
                  have hkl' : (k : Int) < (nw : Int) := by omega
                  rw [h1] at p0
                  obtain ⟨en, hen⟩ : ∃ z, z = x'.tab 1 r := ⟨_, rfl⟩
                  obtain ⟨nn, hnn⟩ : ∃ z, z = x'.now := ⟨_, rfl⟩
                  rw [← hen] at t1 HCD
                  rw [← hnn] at v3 hnow HCD
                  clear hat hinW hk he ha2 hrr HWH HES hen hnn HIN HRB HF HK
                  by_cases h2 : en = nn
                  · have hd : Hid (c = true) := HCD.out.trans (decide_eq_true ⟨h1, h2⟩)
                    rw [h2] at t1
                    clear h2 h1 HCD
                    go_quiet (fail)
                    go_wp2_with fail
                    go_meet
                    exact ⟨by rw [hd.out], below_drewN (Below.refl _ _) _⟩
                  · have hd : Hid (c = false) := HCD.out.trans (decide_eq_false (fun h => h2 h.2))
                    have hd2 : (en == nn) = false := by simpa using h2
                    clear h2 h1 HCD
                    go_quiet (fail)
                    go_wp2_with fail
                    go_meet
                    exact ⟨by rw [hd.out], below_drewN (Below.refl _ _) _⟩
                · have hd : Hid (c = false) := HCD.out.trans (decide_eq_false (fun h => h1 h.1))
                  have hd1 : (wh == 3) = false := by simpa using h1
                  clear h1 HCD HIN HRB HF HK HES HWH
                  go_quiet (fail)
                  go_wp2_with fail
                  go_meet
                  exact ⟨by rw [hd.out], below_drewN (Below.refl _ _) _⟩
            case rest =>
              as_aux_lemma =>
                obtain ⟨rfl, hbx⟩ := hcut
                have hinx := HIN.out.grow hbx
                have BXC := Lib.hid (BW.out.trans (hbx.mono HIN.out.bW))
                clear p0 lgb lv
                by_cases hC : wh = 3 ∧ x'.tab 1 (E.goal j (x'.gu j 1)) = x'.now
                · rw [HCD.out.trans (decide_eq_true hC)]
                  rw [if_pos hC] at HES
                  have HC : Hid (Calls Try.prog 80 #[.pointer (some ⟨E.v, 0, none⟩), .int .i64 j] wc (StepRf E wc (onR E x' j))) := ron_any ⟨_, _, hinx⟩ S hlt (HF.out.w j hlt) HF.out.q
                  clear hC HCD hinx hbx HIN HRB HWH HF
                  go_wp2_with (go_at_call 80; refine HC.out.mono ?_; rintro e w9 ⟨rfl, hb9, hr9⟩; have HR := Lib.hid (HK.out w9 (by rw [HES.out]; exact hr9) (BXC.out.trans hb9)); clear hb9 hr9 HC HK HES BXC)
                  go_roundw
                  case rel => exact ⟨j + 1, _, by go_num, HR.out⟩
                  case measure => simp [intOf]; omega
                · rw [HCD.out.trans (decide_eq_false hC)]
                  rw [if_neg hC] at HES
                  have HR := Lib.hid (HK.out wc ⟨_, _, by rw [HES.out]; exact hinx⟩ BXC.out)
                  clear hC HCD hinx hbx HK HES BXC HIN HRB HWH HF
                  go_wp2_with fail
                  go_roundw
                  case rel => exact ⟨j + 1, _, by go_num, HR.out⟩
                  case measure => simp [intOf]; omega
        · have hge : ¬ (j : Int) < (E.l.length : Int) := by omega
          have hx := hl.done hlt
          subst hx
          have HL := Lib.hid (LpAt.start hl.at_ hl.b HGO.out.e3 HGO.out.g3)
          clear hl hin
          go_upto_region 13 with fail
          clear hge hlt v2 lv
          go_loopw [5] (fun jv wr => ∃ (j : Nat) (x' : RawR), jv = .int .i64 j ∧ LpAt E w (mixR E) noPre E.l.length x3 j wr x') (fun jv _ => E.l.length - (intOf jv).toNat)
          case atStart => exact ⟨0, _, rfl, HL.out⟩
          case round =>
            clear HL
            obtain ⟨j, x', rfl, hl⟩ := hrel
            obtain ⟨qs, uv, hin⟩ := hl.at_
            have lv : E.v < wr.heap.size := hin.pl.lt
            have v2 : wr.cell? ⟨E.v, 2, none⟩ = some (.slice E.A2 E.l.length E.c2) := hin.pc.2.2.1
            by_cases hlt : j < E.l.length
            · as_aux_lemma =>
                have hlt' : (j : Int) < (E.l.length : Int) := by omega
                have e1 : IntKind.i64.wrap ((j : Int) + 1) = (j : Int) + 1 := IntWalk.i64_in _ (by omega)
                obtain ⟨hF, -, hK⟩ := hl.more hlt
                have hnow := hF.now
                have hsi := hF.si j hlt
                have v4 := hin.pG (show 0 < E.l.length by omega)
                have g0 := (hin.gc hlt).1
                have g1 := (hin.gc hlt).2.1
                have g2 := (hin.gc hlt).2.2.1
                have g3 := (hin.gc hlt).2.2.2.1
                have lG := (hin.gc hlt).2.2.2.2
                obtain ⟨W, hW⟩ : ∃ W, W = wr.alloc (.cells #[.int .i64 (x'.gu j 0), .int .i64 (x'.gu j 1), .int .i64 (x'.gu j 2), .int .i64 (x'.gu j 3)] 86) := ⟨_, rfl⟩
                have bW : Below wr.heap.size wr W := by rw [hW]; exact (Below.refl _ _).alloc (Nat.le_refl _) _
                have hinW := hin.grow bW
                obtain ⟨gb, hgb⟩ : ∃ g, g = wr.heap.size := ⟨_, rfl⟩
                have rb : Row W gb 86 [.int .i64 (x'.gu j 0), .int .i64 (x'.gu j 1), .int .i64 (x'.gu j 2), .int .i64 (x'.gu j 3)] := by rw [hW, hgb]; exact Row.new wr _ _
                have BW : Hid (Below E.base wr W) := bW.mono hin.bW
                have HIN := Lib.hid hinW
                have HK := Lib.hid hK
                have HF := Lib.hid hF
                have HRB := Lib.hid rb
                clear hl hF hK bW hinW hin rb
                go_upto_region 16 with fail
                rw [← hW, ← hgb]
                clear hW hgb lv v2 v4 g0 g1 g2 g3 lG

                have hinW := HIN.out
                have p0 : W.cell? ⟨gb, 0, none⟩ = some (.int .i64 (x'.gu j 0)) := HRB.out.cell (j := 0) (by simp)
                have lgb := HRB.out.lt
                have lv : E.v < W.heap.size := hinW.pl.lt
                have v2 : W.cell? ⟨E.v, 2, none⟩ = some (.slice E.A2 E.l.length E.c2) := hinW.pc.2.2.1
                have v3 : W.cell? ⟨E.v, 3, none⟩ = some (.int .i64 x'.now) := hinW.pc.2.2.2.1
                obtain ⟨b2, o2, ha2, hb2, l0, -, -, -, -⟩ := hinW.lc hlt
                rw [ha2] at v2
                obtain ⟨wh, hwh⟩ : ∃ z, z = x'.gu j 0 := ⟨_, rfl⟩
                obtain ⟨si, hsi2⟩ : ∃ z, z = x'.gu j 2 := ⟨_, rfl⟩
                obtain ⟨nn, hnn⟩ : ∃ z, z = x'.now := ⟨_, rfl⟩
                obtain ⟨at0, hat0⟩ : ∃ z, z = (E.l.getD j default).at_ := ⟨_, rfl⟩
                have HWH := Lib.hid hwh
                have HSI := Lib.hid hsi2
                have HNN := Lib.hid hnn
                rw [← hwh] at p0
                rw [← hsi2] at hsi
                rw [← hnn] at v3 hnow
                rw [← hat0] at l0
                have HES : Hid (mixR E x' j = if wh = 0 ∧ at0 = nn then onR E x' j else if wh = 1 ∧ nn - si = E.f.walk then standR E x' j else x') := by show _ = _; rw [hwh, hsi2, hnn, hat0]; rfl
                clear hwh hsi2 hnn hat0 hinW ha2
                obtain ⟨c, hc0⟩ : ∃ c, c = decide (wh = 0 ∧ at0 = nn) := ⟨_, rfl⟩
                have HCD := Lib.hid hc0
                clear hc0
                go_cut [151] (fun s151 wx => s151 = .bool c ∧ Below W.heap.size W wx)
                case first =>
                  as_aux_lemma =>
                    clear HES HSI HNN HF HK HIN HRB
                    by_cases h1 : wh = 0
                    · clear HWH
                      rw [h1] at p0
                      by_cases h2 : at0 = nn
                      · have hd : Hid (c = true) := HCD.out.trans (decide_eq_true ⟨h1, h2⟩)
                        rw [h2] at l0
                        clear h2 h1 HCD
                        go_quiet (fail)
                        go_wp2_with fail
                        go_meet
                        exact ⟨by rw [hd.out], below_drewN (Below.refl _ _) _⟩
                      · have hd : Hid (c = false) := HCD.out.trans (decide_eq_false (fun h => h2 h.2))
                        have hd2 : (at0 == nn) = false := by simpa using h2
                        clear h2 h1 HCD
                        go_quiet (fail)
                        go_wp2_with fail
                        go_meet
                        exact ⟨by rw [hd.out], below_drewN (Below.refl _ _) _⟩
                    · have hd : Hid (c = false) := HCD.out.trans (decide_eq_false (fun h => h1 h.1))
                      have hd1 : (wh == 0) = false := by simpa using h1
                      clear h1 HCD
                      go_quiet (fail)
                      go_wp2_with fail
                      go_meet
                      exact ⟨by rw [hd.out], below_drewN (Below.refl _ _) _⟩
                case rest =>
                  as_aux_lemma =>
                    obtain ⟨rfl, hbx⟩ := hcut
                    have hinx := HIN.out.grow hbx
                    have BXC := Lib.hid (BW.out.trans (hbx.mono HIN.out.bW))
                    have HRC := Lib.hid (HRB.out.below hbx HRB.out.lt)
                    clear p0 lgb lv v2 v3 l0 hb2 HRB
                    by_cases hC : wh = 0 ∧ at0 = nn
                    · rw [HCD.out.trans (decide_eq_true hC)]
                      rw [if_pos hC] at HES
                      have HC : Hid (Calls Try.prog 80 #[.pointer (some ⟨E.v, 0, none⟩), .int .i64 j] wc (StepRf E wc (onR E x' j))) := ron_any ⟨_, _, hinx⟩ S hlt (HF.out.w j hlt) HF.out.q
                      clear hC HCD hinx hbx HIN HRC HWH HF
                      go_wp2_with (go_at_call 80; refine HC.out.mono ?_; rintro e w9 ⟨rfl, hb9, hr9⟩; have HR := Lib.hid (HK.out w9 (by rw [HES.out]; exact hr9) (BXC.out.trans hb9)); clear hb9 hr9 HC HK HES BXC)
                      go_roundw
                      case rel => exact ⟨j + 1, _, by go_num, HR.out⟩
                      case measure => simp [intOf]; omega
                    · rw [HCD.out.trans (decide_eq_false hC)]
                      rw [if_neg hC] at HES
                      have p0 : wc.cell? ⟨gb, 0, none⟩ = some (.int .i64 wh) := by rw [HWH.out]; exact HRC.out.cell (j := 0) (by simp)
                      have p2 : wc.cell? ⟨gb, 2, none⟩ = some (.int .i64 si) := by rw [HSI.out]; exact HRC.out.cell (j := 2) (by simp)
                      have lgb := HRC.out.lt
                      have v1 : wc.cell? ⟨E.v, 1, none⟩ = some (.int .i64 E.f.walk) := hinx.pc.2.1
                      have v3 : wc.cell? ⟨E.v, 3, none⟩ = some (.int .i64 nn) := by rw [HNN.out]; exact hinx.pc.2.2.2.1
                      have lv : E.v < wc.heap.size := hinx.pl.lt
                      have e2 : IntKind.i64.wrap (nn - si) = nn - si := IntWalk.i64_in _ (by omega)
                      have HIX := Lib.hid hinx
                      generalize E.f.walk = wk at v1 HES
                      clear hinx hbx hC HIN HRC
                      go_upto_region 18 with fail
                      obtain ⟨c, hc0⟩ : ∃ c, c = decide (wh = 1 ∧ nn - si = wk) := ⟨_, rfl⟩
                      have HCD := Lib.hid hc0
                      clear hc0
                      go_cut [172] (fun s172 wx => s172 = .bool c ∧ Below wc.heap.size wc wx)
                      case first =>
                        as_aux_lemma =>
                          clear HES HSI HNN HF HK HIX
                          by_cases h1 : wh = 1
                          · clear HWH
                            rw [h1] at p0
                            by_cases h2 : nn - si = wk
                            · have hd : Hid (c = true) := HCD.out.trans (decide_eq_true ⟨h1, h2⟩)
                              have hd2 : (nn - si == wk) = true := by simpa using h2
                              clear h2 h1 HCD
                              go_quiet (fail)
                              go_wp2_with fail
                              go_meet
                              exact ⟨by rw [hd.out], below_drewN (Below.refl _ _) _⟩
                            · have hd : Hid (c = false) := HCD.out.trans (decide_eq_false (fun h => h2 h.2))
                              have hd2 : (nn - si == wk) = false := by simpa using h2
                              clear h2 h1 HCD
                              go_quiet (fail)
                              go_wp2_with fail
                              go_meet
                              exact ⟨by rw [hd.out], below_drewN (Below.refl _ _) _⟩
                          · have hd : Hid (c = false) := HCD.out.trans (decide_eq_false (fun h => h1 h.1))
                            have hd1 : (wh == 1) = false := by simpa using h1
                            clear h1 HCD
                            go_quiet (fail)
                            go_wp2_with fail
                            go_meet
                            exact ⟨by rw [hd.out], below_drewN (Below.refl _ _) _⟩
                      case rest =>
                        as_aux_lemma =>
                          obtain ⟨rfl, hbx⟩ := hcut
                          have hinx := HIX.out.grow hbx
                          have BXD := Lib.hid (BXC.out.trans (hbx.mono HIX.out.bW))
                          clear p0 p2 lgb lv v1 v3
                          by_cases hC : wh = 1 ∧ nn - si = wk
                          · rw [HCD.out.trans (decide_eq_true hC)]
                            rw [if_pos hC] at HES
                            have hat := HF.out.at_ j hlt (.inl (HWH.out.symm.trans hC.1))
                            have HC : Hid (Calls Try.prog 81 #[.pointer (some ⟨E.v, 0, none⟩), .int .i64 j] wc (StepRf E wc (standR E x' j))) := rstand_any ⟨_, _, hinx⟩ S hlt hat.1 hat.2 HF.out.q
                            clear hC HCD hinx hbx hat HIX HWH HF
                            go_wp2_with (go_at_call 81; refine HC.out.mono ?_; rintro e w9 ⟨rfl, hb9, hr9⟩; have HR := Lib.hid (HK.out w9 (by rw [HES.out]; exact hr9) (BXD.out.trans hb9)); clear hb9 hr9 HC HK HES BXD)
                            go_roundw
                            case rel => exact ⟨j + 1, _, by go_num, HR.out⟩
                            case measure => simp [intOf]; omega
                          · rw [HCD.out.trans (decide_eq_false hC)]
                            rw [if_neg hC] at HES
                            have HR := Lib.hid (HK.out wc ⟨_, _, by rw [HES.out]; exact hinx⟩ BXD.out)
                            clear hC HCD hinx hbx HK HES BXD HIX HWH HF
                            go_wp2_with fail
                            go_roundw
                            case rel => exact ⟨j + 1, _, by go_num, HR.out⟩
                            case measure => simp [intOf]; omega
            · have hge : ¬ (j : Int) < (E.l.length : Int) := by omega
              have hx := hl.done hlt
              subst hx
              have HL := Lib.hid (LpAt.start hl.at_ hl.b HGO.out.e4 HGO.out.g4)
              clear hl hin
              go_upto_region 21 with fail
              clear hge hlt v2 lv
              go_loopw [7] (fun jv wr => ∃ (j : Nat) (x' : RawR), jv = .int .i64 j ∧ LpAt E w (patR E) noPre E.l.length x4 j wr x') (fun jv _ => E.l.length - (intOf jv).toNat)
              case atStart => exact ⟨0, _, rfl, HL.out⟩
              case round =>
                clear HL
                obtain ⟨j, x', rfl, hl⟩ := hrel
                obtain ⟨qs, uv, hin⟩ := hl.at_
                have lv : E.v < wr.heap.size := hin.pl.lt
                have v2 : wr.cell? ⟨E.v, 2, none⟩ = some (.slice E.A2 E.l.length E.c2) := hin.pc.2.2.1
                by_cases hlt : j < E.l.length
                · as_aux_lemma =>
                    have hlt' : (j : Int) < (E.l.length : Int) := by omega
                    have e1 : IntKind.i64.wrap ((j : Int) + 1) = (j : Int) + 1 := IntWalk.i64_in _ (by omega)
                    obtain ⟨hF, -, hK⟩ := hl.more hlt
                    have hnow := hF.now
                    have hsi := hF.si j hlt
                    have v4 := hin.pG (show 0 < E.l.length by omega)
                    have g0 := (hin.gc hlt).1
                    have g1 := (hin.gc hlt).2.1
                    have g2 := (hin.gc hlt).2.2.1
                    have g3 := (hin.gc hlt).2.2.2.1
                    have lG := (hin.gc hlt).2.2.2.2
                    obtain ⟨W, hW⟩ : ∃ W, W = wr.alloc (.cells #[.int .i64 (x'.gu j 0), .int .i64 (x'.gu j 1), .int .i64 (x'.gu j 2), .int .i64 (x'.gu j 3)] 86) := ⟨_, rfl⟩
                    have bW : Below wr.heap.size wr W := by rw [hW]; exact (Below.refl _ _).alloc (Nat.le_refl _) _
                    have hinW := hin.grow bW
                    obtain ⟨gb, hgb⟩ : ∃ g, g = wr.heap.size := ⟨_, rfl⟩
                    have rb : Row W gb 86 [.int .i64 (x'.gu j 0), .int .i64 (x'.gu j 1), .int .i64 (x'.gu j 2), .int .i64 (x'.gu j 3)] := by rw [hW, hgb]; exact Row.new wr _ _
                    have BW : Hid (Below E.base wr W) := bW.mono hin.bW
                    have HIN := Lib.hid hinW
                    have HK := Lib.hid hK
                    have HF := Lib.hid hF
                    have HRB := Lib.hid rb
                    clear hl hF hK bW hinW hin rb
                    go_upto_region 24 with fail
                    rw [← hW, ← hgb]
                    clear hW hgb lv v2 v4 g0 g1 g2 g3 lG

                    have hinW := HIN.out
                    have p0 : W.cell? ⟨gb, 0, none⟩ = some (.int .i64 (x'.gu j 0)) := HRB.out.cell (j := 0) (by simp)
                    have p2 : W.cell? ⟨gb, 2, none⟩ = some (.int .i64 (x'.gu j 2)) := HRB.out.cell (j := 2) (by simp)
                    have lgb := HRB.out.lt
                    have lv : E.v < W.heap.size := hinW.pl.lt
                    have v2 : W.cell? ⟨E.v, 2, none⟩ = some (.slice E.A2 E.l.length E.c2) := hinW.pc.2.2.1
                    have v3 : W.cell? ⟨E.v, 3, none⟩ = some (.int .i64 x'.now) := hinW.pc.2.2.2.1
                    obtain ⟨b2, o2, ha2, hb2, -, -, -, -, l4⟩ := hinW.lc hlt
                    rw [ha2] at v2
                    obtain ⟨wh, hwh⟩ : ∃ z, z = x'.gu j 0 := ⟨_, rfl⟩
                    obtain ⟨si, hsi2⟩ : ∃ z, z = x'.gu j 2 := ⟨_, rfl⟩
                    obtain ⟨nn, hnn⟩ : ∃ z, z = x'.now := ⟨_, rfl⟩
                    obtain ⟨pa, hpa⟩ : ∃ z, z = (E.l.getD j default).patience := ⟨_, rfl⟩
                    have HWH := Lib.hid hwh
                    rw [← hwh] at p0
                    rw [← hsi2] at hsi p2
                    rw [← hnn] at v3 hnow
                    rw [← hpa] at l4
                    have e2 : IntKind.i64.wrap (nn - si) = nn - si := IntWalk.i64_in _ (by omega)
                    have HES : Hid (patR E x' j = if wh = 2 ∧ pa < nn - si then leaveR E x' j false else x') := by show _ = _; rw [hwh, hsi2, hnn, hpa]; rfl
                    clear hwh hsi2 hnn hpa hinW ha2
                    obtain ⟨c, hc0⟩ : ∃ c, c = decide (wh = 2 ∧ pa < nn - si) := ⟨_, rfl⟩
                    have HCD := Lib.hid hc0
                    clear hc0
                    go_cut [212] (fun s212 wx => s212 = .bool c ∧ Below W.heap.size W wx)
                    case first =>
                      as_aux_lemma =>
                        clear HES HF HK HIN HRB
                        by_cases h1 : wh = 2
                        · clear HWH
                          rw [h1] at p0
                          by_cases h2 : pa < nn - si
                          · have hd : Hid (c = true) := HCD.out.trans (decide_eq_true ⟨h1, h2⟩)
                            go_quiet (fail)
                            go_wp2_with fail
                            go_meet
                            exact ⟨by rw [hd.out], below_drewN (Below.refl _ _) _⟩
                          · have hd : Hid (c = false) := HCD.out.trans (decide_eq_false (fun h => h2 h.2))
                            have hd2 : decide (pa < nn - si) = false := decide_eq_false h2
                            clear h2 h1 HCD
                            go_quiet (fail)
                            go_wp2_with fail
                            go_meet
                            exact ⟨by rw [hd.out], below_drewN (Below.refl _ _) _⟩
                        · have hd : Hid (c = false) := HCD.out.trans (decide_eq_false (fun h => h1 h.1))
                          have hd1 : (wh == 2) = false := by simpa using h1
                          clear h1 HCD
                          go_quiet (fail)
                          go_wp2_with fail
                          go_meet
                          exact ⟨by rw [hd.out], below_drewN (Below.refl _ _) _⟩
                    case rest =>
                      as_aux_lemma =>
                        obtain ⟨rfl, hbx⟩ := hcut
                        have hinx := HIN.out.grow hbx
                        have BXC := Lib.hid (BW.out.trans (hbx.mono HIN.out.bW))
                        clear p0 p2 lgb lv v2 v3 l4 hb2 HRB
                        by_cases hC : wh = 2 ∧ pa < nn - si
                        · rw [HCD.out.trans (decide_eq_true hC)]
                          rw [if_pos hC] at HES
                          have hat := HF.out.at_ j hlt (.inr (.inl (HWH.out.symm.trans hC.1)))
                          have HC : Hid (Calls Try.prog 82 #[.pointer (some ⟨E.v, 0, none⟩), .int .i64 j, .bool false] wc (StepRf E wc (leaveR E x' j false))) := rleave_any ⟨_, _, hinx⟩ S false hlt hat.1 hat.2 HF.out.q HF.out.v (HF.out.t j hlt) HF.out.tk
                          clear hC HCD hinx hbx hat HIN HWH HF
                          go_wp2_with (go_at_call 82; refine HC.out.mono ?_; rintro e w9 ⟨rfl, hb9, hr9⟩; have HR := Lib.hid (HK.out w9 (by rw [HES.out]; exact hr9) (BXC.out.trans hb9)); clear hb9 hr9 HC HK HES BXC)
                          go_roundw
                          case rel => exact ⟨j + 1, _, by go_num, HR.out⟩
                          case measure => simp [intOf]; omega
                        · rw [HCD.out.trans (decide_eq_false hC)]
                          rw [if_neg hC] at HES
                          have HR := Lib.hid (HK.out wc ⟨_, _, by rw [HES.out]; exact hinx⟩ BXC.out)
                          clear hC HCD hinx hbx HK HES BXC HIN HWH HF
                          go_wp2_with fail
                          go_roundw
                          case rel => exact ⟨j + 1, _, by go_num, HR.out⟩
                          case measure => simp [intOf]; omega
                · have hge : ¬ (j : Int) < (E.l.length : Int) := by omega
                  have hx := hl.done hlt
                  subst hx
                  have HL := Lib.hid (LpAt.start hl.at_ hl.b HGO.out.e5 HGO.out.g5)
                  clear hl hin
                  go_upto_region 27 with fail
                  clear hge hlt v2 lv
                  go_loopw [9] (fun jv wr => ∃ (j : Nat) (x' : RawR), jv = .int .i64 j ∧ LpAt E w (begR E) (begPre E) E.f.rides.length x5 j wr x') (fun jv _ => E.f.rides.length - (intOf jv).toNat)
                  case atStart => exact ⟨0, _, rfl, HL.out⟩
                  case round =>
                    clear HL
                    obtain ⟨j, x', rfl, hl⟩ := hrel
                    obtain ⟨qs, uv, hin⟩ := hl.at_
                    have lv : E.v < wr.heap.size := hin.pl.lt
                    have v0 : wr.cell? ⟨E.v, 0, none⟩ = some (.slice E.A E.f.rides.length E.c) := hin.pc.1
                    by_cases hlt : j < E.f.rides.length
                    · as_aux_lemma =>
                        have hlt' : (j : Int) < (E.f.rides.length : Int) := by omega
                        have e1 : IntKind.i64.wrap ((j : Int) + 1) = (j : Int) + 1 := IntWalk.i64_in _ (by omega)
                        obtain ⟨hF, hpre, hK⟩ := hl.more hlt
                        have hnow := hF.now
                        have hen := hF.en j hlt
                        have v3 : wr.cell? ⟨E.v, 3, none⟩ = some (.int .i64 x'.now) := hin.pc.2.2.2.1
                        have v6 := hin.pB (show 0 < E.f.rides.length by omega)
                        have v7 := hin.pE (show 0 < E.f.rides.length by omega)
                        have t0 := (hin.tc (k := 0) (by omega) (show j < E.tn 0 from hlt)).1
                        have lt0 := (hin.tc (k := 0) (by omega) (show j < E.tn 0 from hlt)).2.1
                        have t1 := (hin.tc (k := 1) (by omega) (show j < E.tn 1 from hlt)).1
                        have lt1 := (hin.tc (k := 1) (by omega) (show j < E.tn 1 from hlt)).2.1
                        obtain ⟨b4, o4, ha4, hb4, -, -, -, d3, -⟩ := hin.rc hlt
                        rw [ha4] at v0
                        have e2 : IntKind.i64.wrap (x'.now - x'.tab 1 j) = x'.now - x'.tab 1 j := IntWalk.i64_in _ (by omega)
                        have hbt : E.bt j = E.f.rides.getD j default := rfl
                        rw [← hbt] at d3
                        obtain ⟨tb, htb⟩ : ∃ z, z = x'.tab 0 j := ⟨_, rfl⟩
                        obtain ⟨en, hen2⟩ : ∃ z, z = x'.tab 1 j := ⟨_, rfl⟩
                        obtain ⟨nn, hnn⟩ : ∃ z, z = x'.now := ⟨_, rfl⟩
                        obtain ⟨pz, hpz⟩ : ∃ z, z = (E.bt j).pause := ⟨_, rfl⟩
                        have HBQ : Hid (begQ E x' j ↔ (0 ≤ tb ∨ 0 ≤ en ∧ nn - en < pz)) := by show _ ↔ _; rw [htb, hen2, hnn, hpz]; exact Iff.rfl
                        rw [← htb] at t0
                        rw [← hen2] at hen t1 e2
                        rw [← hnn] at hnow v3 e2
                        rw [← hpz] at d3
                        have HIN := Lib.hid hin
                        have HK := Lib.hid hK
                        have HF := Lib.hid hF
                        have HPRE := Lib.hid hpre
                        clear hl hin hF hK ha4 hbt htb hen2 hnn hpz hpre
                        go_upto_region 29 with fail
                        obtain ⟨c, hc0⟩ : ∃ c, c = decide (0 ≤ tb ∨ 0 ≤ en ∧ nn - en < pz) := ⟨_, rfl⟩
                        have HCD := Lib.hid hc0
                        clear hc0
                        go_cut [267] (fun s267 wx => s267 = .bool c ∧ Below wr.heap.size wr wx)
                        case first =>
                          as_aux_lemma =>
                            clear HIN HK HF HPRE HBQ
                            by_cases h1 : 0 ≤ tb
                            · have hd : Hid (c = true) := HCD.out.trans (decide_eq_true (.inl h1))
                              have hd1 : decide (0 ≤ tb) = true := decide_eq_true h1
                              go_quiet (fail)
                              go_wp2_with fail
                              go_meet
                              exact ⟨by rw [hd.out], below_drewN (Below.refl _ _) _⟩
                            · have hd1 : decide (0 ≤ tb) = false := decide_eq_false h1
                              by_cases h2 : 0 ≤ en
                              · have hd2 : decide (0 ≤ en) = true := decide_eq_true h2
                                by_cases h3 : nn - en < pz
                                · have hd : Hid (c = true) := HCD.out.trans (decide_eq_true (.inr ⟨h2, h3⟩))
                                  have hd3 : decide (nn - en < pz) = true := decide_eq_true h3
                                  clear h1
                                  go_quiet (fail)
                                  go_wp2_with fail
                                  go_meet
                                  exact ⟨by rw [hd.out], below_drewN (Below.refl _ _) _⟩
                                · have hd : Hid (c = false) := HCD.out.trans (decide_eq_false (fun h => h.elim h1 (fun h => h3 h.2)))
                                  have hd3 : decide (nn - en < pz) = false := decide_eq_false h3
                                  clear h1 h3
                                  go_quiet (fail)
                                  go_wp2_with fail
                                  go_meet
                                  exact ⟨by rw [hd.out], below_drewN (Below.refl _ _) _⟩
                              · have hd2 : decide (0 ≤ en) = false := decide_eq_false h2
                                have hd : Hid (c = false) := HCD.out.trans (decide_eq_false (fun h => h.elim h1 (fun h => h2 h.1)))
                                clear h1 h2
                                go_quiet (fail)
                                go_wp2_with fail
                                go_meet
                                exact ⟨by rw [hd.out], below_drewN (Below.refl _ _) _⟩
                        case rest =>
                          as_aux_lemma =>
                            obtain ⟨rfl, hbx⟩ := hcut
                            have hinx := HIN.out.grow hbx
                            have BXC := Lib.hid (hbx.mono HIN.out.bW)
                            clear v0 v3 v6 v7 t0 lt0 t1 lt1 lv d3 hb4
                            by_cases hC : 0 ≤ tb ∨ 0 ≤ en ∧ nn - en < pz
                            · rw [HCD.out.trans (decide_eq_true hC)]
                              have HES : Hid (begR E x' j = x') := if_pos (HBQ.out.2 hC)
                              have HR := Lib.hid (HK.out wc ⟨qs, uv, by rw [HES.out]; exact hinx⟩ BXC.out)
                              clear hC HCD hinx hbx HK HES BXC HIN HF HPRE HBQ
                              go_wp2_with fail
                              go_roundw
                              case rel => exact ⟨j + 1, _, by go_num, HR.out⟩
                              case measure => simp [intOf]; omega
                            · rw [HCD.out.trans (decide_eq_false hC)]
                              have hnq : ¬ begQ E x' j := fun h => hC (HBQ.out.1 h)
                              have HES : Hid (begR E x' j = if (fillLR E j (x'.q j) (E.bt j).seats x').2 < (E.bt j).seats then (fillLR E j (x'.q j) (E.bt j).seats x').1.setT 0 j (fillLR E j (x'.q j) (E.bt j).seats x').1.now else (fillLR E j (x'.q j) (E.bt j).seats x').1) := if_neg hnq
                              have hfill := rfill_any ⟨_, _, hinx⟩ S hlt (HF.out.q j hlt) (HPRE.out hnq)
                              obtain ⟨y, hy⟩ : ∃ y, y = fillLR E j (x'.q j) (E.bt j).seats x' := ⟨_, rfl⟩
                              rw [← hy] at hfill HES
                              obtain ⟨c, hc⟩ : ∃ c, c = decide (y.2 < (E.bt j).seats) := ⟨_, rfl⟩
                              rw [← hc] at hfill
                              have HCC := Lib.hid hc
                              have HC := Lib.hid hfill
                              clear hC HCD hinx hbx HIN HF HPRE HBQ hnq hy hfill hc
                              go_upto_if 270 with (go_at_call 83; refine HC.out.mono ?_; rintro e w9 ⟨rfl, hb9, hr9⟩; have HB9 := Lib.hid (BXC.out.trans hb9); have HR9 := Lib.hid hr9; clear hb9 hr9 HC BXC)
                              cases c with
                              | false =>
                                have hyl : ¬ y.2 < (E.bt j).seats := of_decide_eq_false HCC.out.symm
                                rw [if_neg hyl] at HES
                                have HR := Lib.hid (HK.out w9 (by rw [HES.out]; exact HR9.out) HB9.out)
                                clear HK HES HB9 HR9 hyl HCC
                                go_wp2_with fail
                                go_roundw
                                case rel => exact ⟨j + 1, _, by go_num, HR.out⟩
                                case measure => simp [intOf]; omega
                              | true =>
                                have hyl : y.2 < (E.bt j).seats := of_decide_eq_true HCC.out.symm
                                rw [if_pos hyl] at HES
                                obtain ⟨qs2, uv2, k⟩ := HR9.out
                                have v3 : w9.cell? ⟨E.v, 3, none⟩ = some (.int .i64 y.1.now) := k.pc.2.2.2.1
                                have lv : E.v < w9.heap.size := k.pl.lt
                                have v6 := k.pB (show 0 < E.f.rides.length by omega)
                                have t0 := (k.tc (k := 0) (by omega) (show j < E.tn 0 from hlt)).1
                                have lt0 := (k.tc (k := 0) (by omega) (show j < E.tn 0 from hlt)).2.1
                                have f0 := (k.tc (k := 0) (by omega) (show j < E.tn 0 from hlt)).2.2 j
                                have k2 := (k.grow (below_drewN (Below.refl _ w9) 1)).setT (k := 0) (i := j) (by omega) hlt y.1.now
                                have b2 := (below_drewN HB9.out 1).setCell (p := ⟨E.T 0, j, none⟩) (k.bT 0 (by omega)) (.int .i64 y.1.now)
                                have HR := Lib.hid (HK.out ((w9.drewN 1).setCell ⟨E.T 0, j, none⟩ (.int .i64 y.1.now)) ⟨qs2, uv2, by rw [HES.out]; exact k2⟩ b2)
                                clear k k2 b2 HB9 HR9 HK HES hyl HCC
                                go_upto_region 31 with fail
                                refine wp_tail 9 (by kernel_rfl) (by kernel_rfl) ?_
                                simp only [List.take_succ_cons, List.take_zero, List.drop_succ_cons, List.drop_zero]
                                repeat still_step
                                refine wpStill_nil ?_
                                go_wp2_with fail
                                go_roundw
                                case rel => exact ⟨j + 1, _, by go_num, HR.out⟩
                                case measure => simp [intOf]; omega
                    · have hge : ¬ (j : Int) < (E.f.rides.length : Int) := by omega
                      have hx := hl.done hlt
                      subst hx
                      have HL := Lib.hid (LpAt.start hl.at_ hl.b HGO.out.e6 HGO.out.g6)
                      clear hl hin
                      go_upto_region 33 with fail
                      clear hge hlt v0 lv
                      go_loopw [10] (fun jv wr => ∃ (j : Nat) (x' : RawR), jv = .int .i64 j ∧ LpAt E w (linR E) noPre E.f.rides.length x6 j wr x') (fun jv _ => E.f.rides.length - (intOf jv).toNat)
                      case atStart => exact ⟨0, _, rfl, HL.out⟩
                      case round =>
                        clear HL
                        obtain ⟨j, x', rfl, hl⟩ := hrel
                        obtain ⟨qs, uv, hin⟩ := hl.at_
                        have lv : E.v < wr.heap.size := hin.pl.lt
                        have v0 : wr.cell? ⟨E.v, 0, none⟩ = some (.slice E.A E.f.rides.length E.c) := hin.pc.1
                        by_cases hlt : j < E.f.rides.length
                        · as_aux_lemma =>
                            have hlt' : (j : Int) < (E.f.rides.length : Int) := by omega
                            have e1 : IntKind.i64.wrap ((j : Int) + 1) = (j : Int) + 1 := IntWalk.i64_in _ (by omega)
                            obtain ⟨hF, -, hK⟩ := hl.more hlt
                            have hq := hF.q j hlt
                            have HQI := Lib.hid (hF.qi j hlt)
                            obtain ⟨qA, qC, hqs⟩ := own_slice (hin.q j hlt)
                            have HQS := Lib.hid hqs
                            have HIN := Lib.hid hin
                            have HK := Lib.hid hK
                            clear hl hin hF hK hqs
                            go_upto_region 37 with fail
                            clear v0 lv
                            go_loopw [11, 12] (fun nv kv wx => ∃ k : Nat, k ≤ (x'.q j).length ∧ nv = .int .i64 (((x'.q j).take k).map E.sz).sum ∧ kv = .int .i64 k ∧ Below wr.heap.size wr wx) (fun _ kv _ => (x'.q j).length - (intOf kv).toNat)
                            case atStart => exact ⟨0, Nat.zero_le _, by simp, rfl, Below.refl _ _⟩
                            case round =>
                              obtain ⟨k, hkq, rfl, rfl, hbw⟩ := hrel
                              have hinx := HIN.out.grow hbw
                              have HBW := Lib.hid hbw
                              have lv := hinx.pl.lt
                              have v5 := hinx.pQ (show 0 < E.f.rides.length by omega)
                              have cq := (hinx.qc hlt).1
                              rw [HQS.out] at cq
                              have lQ := (hinx.qc hlt).2
                              have hsb := sum_bd S ((x'.q j).take k) (fun i hi => HQI.out i (List.mem_of_mem_take hi))
                              have hlen : ((x'.q j).take k).length = k := by rw [List.length_take]; omega
                              rw [hlen] at hsb
                              by_cases hk : k < (x'.q j).length
                              · as_aux_lemma =>
                                  have hk' : (k : Int) < ((x'.q j).length : Int) := by omega
                                  have e2 : IntKind.i64.wrap ((k : Int) + 1) = (k : Int) + 1 := IntWalk.i64_in _ (by omega)
                                  have hqo := hinx.q j hlt
                                  rw [HQS.out] at hqo
                                  obtain ⟨g, cap, cur, hA, -, hcur, -, -, -, htk⟩ := own_row3 hqo (by omega)
                                  injection hA with h1 h2 h3
                                  subst h1
                                  have cj := line_cell hcur htk hk
                                  have lg := (Array.getElem?_eq_some_iff.1 hcur).1
                                  have hi := HQI.out _ (List.getElem_mem hk)
                                  have HSN := Lib.hid (sum_snoc E (x'.q j) hk)
                                  obtain ⟨i, hii⟩ : ∃ i, i = (x'.q j)[k] := ⟨_, rfl⟩
                                  rw [← hii] at cj hi HSN
                                  have v2 : wr.cell? ⟨E.v, 2, none⟩ = some (.slice E.A2 E.l.length E.c2) := hinx.pc.2.2.1
                                  obtain ⟨b2, o2, ha2, hb2, l1⟩ : ∃ b o, E.A2 = some ⟨b, o, none⟩ ∧ b < wr.heap.size ∧ wr.cell? ⟨b, o + i * 5 + 1, none⟩ = some (.int .i64 (E.sz i)) := by
                                    obtain ⟨b, o, h1, h2, -, h3, -⟩ := hinx.lc hi
                                    exact ⟨b, o, h1, h2, h3⟩
                                  rw [ha2] at v2
                                  have hi' : (i : Int) < (E.l.length : Int) := by omega
                                  have hszb : 1 ≤ E.sz i ∧ E.sz i ≤ 40 := (S.gp i hi).2.2.1
                                  generalize (((x'.q j).take k).map E.sz).sum = N0 at hsb HSN ⊢
                                  generalize E.sz i = sz at hszb l1 HSN
                                  have e3 : IntKind.i64.wrap (N0 + sz) = N0 + sz := IntWalk.i64_in _ (by omega)
                                  clear hinx hbw hqo h2 h3 hcur htk hii ha2 HQI HQS HIN HK hlen
                                  go_upto_region 39 with fail
                                  go_quiet (fail)
                                  go_wp2_with fail
                                  go_roundw
                                  case rel => exact ⟨k + 1, hk, by rw [HSN.out], by go_num, below_drewN HBW.out _⟩
                                  case measure => simp [intOf]; omega
                              · have hge : ¬ (k : Int) < ((x'.q j).length : Int) := by omega
                                obtain rfl : k = (x'.q j).length := by omega
                                rw [List.take_length] at hsb ⊢
                                have HLR : Hid (linR E x' j = x'.setT 3 j (max (x'.tab 3 j) ((x'.q j).map E.sz).sum)) := rfl
                                obtain ⟨N0, hN0⟩ : ∃ z, z = ((x'.q j).map E.sz).sum := ⟨_, rfl⟩
                                obtain ⟨lo, hlo⟩ : ∃ z, z = x'.tab 3 j := ⟨_, rfl⟩
                                rw [← hN0] at hsb HLR ⊢
                                have v10 := hinx.pL (show 0 < E.f.rides.length by omega)
                                have t3 := (hinx.tc (k := 3) (by omega) (show j < E.tn 3 from hlt)).1
                                have lt3 := (hinx.tc (k := 3) (by omega) (show j < E.tn 3 from hlt)).2.1
                                have f3 := (hinx.tc (k := 3) (by omega) (show j < E.tn 3 from hlt)).2.2 j
                                rw [← hlo] at t3 HLR
                                have k2 := (hinx.grow (below_drewN (Below.refl _ wr) 1)).setT (k := 3) (i := j) (by omega) hlt (max lo N0)
                                have b2 := (below_drewN (HBW.out.mono HIN.out.bW) 1).setCell (p := ⟨E.T 3, j, none⟩) (hinx.bT 3 (by omega)) (.int .i64 (max lo N0))
                                have HR := Lib.hid (HK.out ((wr.drewN 1).setCell ⟨E.T 3, j, none⟩ (.int .i64 (max lo N0))) ⟨qs, uv, by rw [HLR.out]; exact k2⟩ b2)
                                clear hinx hbw k2 b2 hN0 hlo HLR HK HIN HBW HQI HQS hlen
                                go_upto_region 40 with fail
                                clear v5 cq lQ hge hk
                                refine wp_tail 14 (by kernel_rfl) (by kernel_rfl) ?_
                                simp only [List.take_succ_cons, List.take_zero, List.drop_succ_cons, List.drop_zero]
                                repeat still_step
                                refine wpStill_nil ?_
                                go_wp2_with fail
                                go_roundw
                                case rel => exact ⟨j + 1, _, by go_num, HR.out⟩
                                case measure => simp [intOf]; omega
                        · have hge : ¬ (j : Int) < (E.f.rides.length : Int) := by omega
                          have hx := hl.done hlt
                          have HA := Lib.hid hl.at_
                          have HB := Lib.hid hl.b
                          have HX := Lib.hid hx
                          clear hl hin hx
                          go_wp2_with fail
                          go_end0
                          exact ⟨rfl, HB.out, by rw [← HX.out]; exact HA.out⟩
end Go.Proofs.Ytijbhcdnbaaobaa
