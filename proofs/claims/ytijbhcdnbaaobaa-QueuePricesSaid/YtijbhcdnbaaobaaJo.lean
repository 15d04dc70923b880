/- Contract of queue's beginRides: the walk. Conditions: a valid evening that lies in memory, in a moment of it. -/
import Derived.Test.YtijbhcdnbaaobaaJm
/- Contract of queue's beginRides. Conditions: a valid evening that lies in memory, in a moment of it. -/
namespace Go.Proofs.Ytijbhcdnbaaobaa
open Go.RowKit

theorem rdy_modR (s : EvS) (i r : Nat) (f : RdS → RdS) (hf : ∀ x, (f x).ready = x.ready) : ((s.modR i f).rd r).ready = (s.rd r).ready := by
  by_cases hi : i < s.rides.length
  · rw [rd_modR s i r f hi]
    split
    · rename_i e; rw [e]; exact hf _
    · rfl
  · unfold EvS.modR EvS.rd
    rw [List.modify_eq_self (by omega)]
theorem rdy_stand (s : EvS) (i r : Nat) : ((standS s i).rd r).ready = (s.rd r).ready := by
  unfold standS
  rw [rd_modG]
  exact rdy_modR s _ r _ fun _ => rfl
theorem rdy_goOn (s : EvS) (i r : Nat) : ((goOnS s i).rd r).ready = (s.rd r).ready := by
  unfold goOnS
  dsimp only
  split
  · rfl
  · split
    · rw [rdy_stand]; rfl
    · rfl
theorem rdy_leave (s : EvS) (i r : Nat) (on : Bool) : ((leaveS s i on).rd r).ready = (s.rd r).ready := rdy_modR s _ r _ fun _ => rfl
theorem rdy_giveUp (s : EvS) (i r : Nat) : ((giveUpS s i).rd r).ready = (s.rd r).ready := (rdy_goOn _ _ _).trans (rdy_leave _ _ _ _)
theorem rdy_getOn (s : EvS) (i r : Nat) : ((getOnS s i).rd r).ready = (s.rd r).ready := by
  unfold getOnS
  dsimp only
  refine (rdy_modR _ _ _ _ ?_).trans ?_
  · intro _; rfl
  · exact rdy_leave s i r true
theorem rdy_fill (r j : Nat) : ∀ (l : List Nat) (left : Int) (s : EvS), ((fillS r l left s).1.rd j).ready = (s.rd j).ready := by
  intro l
  induction l with
  | nil => intro _ _; rfl
  | cons i l ih =>
    intro left s
    simp only [fillS]
    split
    · rw [ih, rdy_giveUp]
    · split
      · rw [ih, rdy_getOn]
      · split
        · rfl
        · rw [ih]
theorem fill_both {a : EvS} (hv : ValS a) (r : Nat) : ∀ (l : List Nat) (left : Int) (s : EvS), FillOk a s r l → BothS a (fillS r l left s).1 := by
  intro l
  induction l with
  | nil => intro _ s h; exact h.1
  | cons i l ih =>
    intro left s h
    simp only [fillS]
    split
    · exact ih _ _ (fok_give hv h)
    · rename_i hc
      split
      · exact ih _ _ (fok_get hv h (by omega))
      · split
        · exact h.1
        · exact ih _ _ (fok_skip h)
theorem rbeg_yes {s : EvS} {r : Nat} (h : (s.rd r).ready ≤ s.now) : rbegS s r = if (fillS r (s.rd r).q (s.rd r).b.seats s).2 < (s.rd r).b.seats then (fillS r (s.rd r).q (s.rd r).b.seats s).1.modR r fun x => { x with ready := s.now + x.b.cycle + x.b.pause } else (fillS r (s.rd r).q (s.rd r).b.seats s).1 := by
  unfold rbegS
  rw [if_pos h]
theorem rbeg_no {s : EvS} {r : Nat} (h : ¬ (s.rd r).ready ≤ s.now) : rbegS s r = s := by
  unfold rbegS
  rw [if_neg h]
theorem both_modR {a s : EvS} (h : BothS a s) (r : Nat) (f : RdS → RdS) (hb : ∀ z, (f z).b = z.b) (hq : ∀ z, (f z).q = z.q) (ht : ∀ z, (f z).taken = z.taken) : BothS a (s.modR r f) :=
  ⟨wf_modR h.1 hb hq ht, fun i hi => his_same (h.2 i hi) rfl rfl rfl⟩
theorem rbeg_both {a s : EvS} (hv : ValS a) (h : BothS a s) (r : Nat) : BothS a (rbegS s r) := by
  by_cases hr : (s.rd r).ready ≤ s.now
  · rw [rbeg_yes hr]
    have h2 := fill_both hv r (s.rd r).q (s.rd r).b.seats s ⟨h, h.1.nod r, fun j hj => (by obtain ⟨h1, _, h3, h4⟩ := h.1.que r j hj; exact ⟨h1, h3, h4⟩)⟩
    split
    · exact both_modR h2 _ _ (fun _ => rfl) (fun _ => rfl) (fun _ => rfl)
    · exact h2
  · rw [rbeg_no hr]; exact h
/-- The rides up to the k-th have begun. -/
def begK (s : EvS) (k : Nat) : EvS := (List.range k).foldl rbegS s
theorem begK_succ (s : EvS) (k : Nat) : begK s (k + 1) = rbegS (begK s k) k := by
  unfold begK
  rw [List.range_succ, List.foldl_append]
  rfl
theorem begK_both {a s : EvS} (hv : ValS a) (h : BothS a s) (k : Nat) : BothS a (begK s k) ∧ (begK s k).now = s.now ∧ (begK s k).rides.length = s.rides.length := by
  induction k with
  | zero => exact ⟨h, rfl, rfl⟩
  | succ k ih =>
    rw [begK_succ]
    have h2 := rbeg_both hv ih.1 k
    refine ⟨h2, (now_rbeg _ _).trans ih.2.1, ?_⟩
    rw [(fix_len h2.1.fix).2, ← (fix_len h.1.fix).2]
end Go.Proofs.Ytijbhcdnbaaobaa
namespace Go.Proofs.Ytijbhcdnbaaobaa
open Go.RowKit

theorem EvIn.v2 {E : EvE} {w : World} {s : EvS} {qs : Nat → Value} {uv : Value} (h : EvIn E w s qs uv) : w.cell? ⟨E.v, 2, none⟩ = some (.slice (slA E.R s.rides.length) s.rides.length E.cR) := h.ev.cell (j := 2) (by simp [evL])
theorem EvIn.v3 {E : EvE} {w : World} {s : EvS} {qs : Nat → Value} {uv : Value} (h : EvIn E w s qs uv) : w.cell? ⟨E.v, 3, none⟩ = some (.slice (slA E.G s.groups.length) s.groups.length E.cG) := h.ev.cell (j := 3) (by simp [evL])
set_option maxRecDepth 100000 in
set_option maxHeartbeats 4000000 in
theorem beginRides_any {a : EvS} (hB : BigS a) {E : EvE} {w : World} {s : EvS} (h : EvAt E w s) (hb : BothS a s) (hn : 0 ≤ s.now ∧ s.now ≤ 4000) :
    Calls Try.prog 94 #[.pointer (some ⟨E.v, 0, none⟩)] w (StepTo E w (rbegsS s)) := by
  have HE := Lib.hid h
  obtain ⟨qs, uv, h⟩ := h
  have v2 := h.v2
  have l1 := h.vc.2.2.2
  have hnr := (fit_of hB hb).nr
  have hbas := h.bas
  have HK : Hid (∀ k, BothS a (begK s k) ∧ (begK s k).now = s.now ∧ (begK s k).rides.length = s.rides.length) := fun k => begK_both hB.wish hb k
  have HR : Hid (rbegsS s = begK s s.rides.length) := rfl
  clear h hb
  generalize hnn : s.rides.length = n at *
  clear hnn
  go_enter Try.func94, Try.ntmps94
  go_wp2_with fail
  go_loopw [9] (fun ix wr => ∃ k : Nat, k ≤ n ∧ ix = .int .i64 k ∧ Hid (Below E.base w wr) ∧ Hid (EvAt E wr (begK s k))) (fun ix _ => n - (intOf ix).toNat)
  case atStart => exact ⟨0, Nat.zero_le _, rfl, Below.refl _ _, HE.out⟩
  case round =>
    clear v2 l1 HE
    obtain ⟨k, hk, rfl, HBk, HEk⟩ := hrel
    by_cases hlt : k < n
    · obtain ⟨hbk, hnk, hlk⟩ := HK.out k
      have hf := fit_of hB hbk
      obtain ⟨qk, uk, hin⟩ := HEk.out
      have hrk : k < (begK s k).rides.length := by omega
      have hrd := hf.rd k hrk
      have hnn : 0 ≤ (begK s k).now ∧ (begK s k).now ≤ 4000 := by rw [hnk]; exact hn
      have HS := Lib.hid (begK_succ s k)
      have Hfi : Hid (∀ X, Below wr.heap.size wr X → Calls Try.prog 111 #[.pointer (some ⟨E.v, 0, none⟩), .pointer (some ⟨E.R, k * 9, none⟩)] X (FillTo E X (fillS k ((begK s k).rd k).q ((begK s k).rd k).b.seats (begK s k)))) := fun X hX => fill_any hB (hin.grow hX).at_ hbk hnn hrk
      have hrdy := rdy_fill k k ((begK s k).rd k).q ((begK s k).rd k).b.seats (begK s k)
      have hnow := now_fill k ((begK s k).rd k).q ((begK s k).rd k).b.seats (begK s k)
      have hbt := fill_both hB.wish k ((begK s k).rd k).q ((begK s k).rd k).b.seats (begK s k) ⟨hbk, hbk.1.nod k, fun j hj => (by obtain ⟨h1, _, h3, h4⟩ := hbk.1.que k j hj; exact ⟨h1, h3, h4⟩)⟩
      have hry := Lib.hid (fun h => rbeg_yes (s := begK s k) (r := k) h)
      have hrn := Lib.hid (fun h => rbeg_no (s := begK s k) (r := k) h)
      have v2 := hin.vR hrk
      obtain ⟨_, v1, _, l1⟩ := hin.vc
      obtain ⟨c0, _, c2, c3, _, _, c6, _, _, lR⟩ := hin.rc hrk
      rw [hlk] at v2
      generalize begK s k = sk at *
      generalize fillS k (sk.rd k).q (sk.rd k).b.seats sk = tt at *
      obtain ⟨t, tl⟩ := tt
      have hft := fit_of hB hbt
      have htl : t.rides.length = n := by rw [(fix_len hbt.1.fix).2, ← (fix_len hbk.1.fix).2, hlk]
      have htb : (t.rd k).b = (sk.rd k).b := by rw [fix_rd hbt.1.fix, fix_rd hbk.1.fix]
      dsimp only at hrdy hnow hry
      have hkn : (k : Int) < (n : Int) := by omega
      have hk0 : (0 : Int) ≤ (k : Int) := by omega
      have e1 : IntKind.i64.wrap ((k : Int) + 1) = (k : Int) + 1 := IntWalk.i64_in _ (by omega)
      have HEn : Hid (∀ m, EvAt E (wr.drewN m) sk) := fun m => (hin.grow (below_drewN (Below.refl _ _) m)).at_
      clear hin hf hbk hbt hft
      by_cases hrd1 : (sk.rd k).ready ≤ sk.now
      · have d1 : decide ((sk.rd k).ready ≤ sk.now) = true := by simpa using hrd1
        have Hy := Lib.hid (hry.out hrd1)
        clear hrd1 hry hrn
        have HFX := Lib.hid (Hfi.out wr.drew (Below.refl _ _).drew)
        clear Hfi
        have hi2 : t.now = sk.now := hnow
        have hkt : k < t.rides.length := by omega
        have HC : Hid (∀ X, EvAt E X t → X.cell? ⟨E.v, 1, none⟩ = some (.int .i64 sk.now) ∧ X.cell? ⟨E.R, k * 9 + 6, none⟩ = some (.int .i64 (sk.rd k).ready) ∧ X.cell? ⟨E.R, k * 9, none⟩ = some (.int .i64 (sk.rd k).b.seats) ∧ E.v < X.heap.size ∧ E.R < X.heap.size) := fun X hX => by
          obtain ⟨q1, u1, h1⟩ := hX
          obtain ⟨_, x1, _, x2⟩ := h1.vc
          obtain ⟨y0, _, _, _, _, _, y6, _, _, y9⟩ := h1.rc hkt
          rw [hnow] at x1
          rw [hrdy] at y6
          rw [htb] at y0
          exact ⟨x1, y6, y0, x2, y9⟩
        by_cases hsl : tl < (sk.rd k).b.seats
        · have d2 : decide (tl < (sk.rd k).b.seats) = true := by simpa using hsl
          have Hz : Hid (rbegS sk k = t.modR k fun x => { x with ready := sk.now + (sk.rd k).b.cycle + (sk.rd k).b.pause }) := by
            show _ = _
            rw [Hy.out, if_pos hsl]
            exact modR_congr _ _ _ _ (by rw [htb])
          have HT := Lib.hid htb
          have HN := Lib.hid hnow
          clear hsl Hy hi2 hrdy hnow htb htl hlk hnk
          go_upto_region 4 with (fail)
          go_region_held3 (fun y => y.cell? ⟨E.v, 1, none⟩ = some (.int .i64 sk.now) ∧ y.cell? ⟨E.R, k * 9 + 6, none⟩ = some (.int .i64 (sk.rd k).ready) ∧ y.cell? ⟨E.R, k * 9, none⟩ = some (.int .i64 (sk.rd k).b.seats)) (first | go_keep | exact ⟨K1, K2, K3⟩) (first
            | (go_at_call 111; refine HFX.out.mono ?_; rintro e X ⟨rfl, hbX, heX⟩; obtain ⟨K1, K2, K3, K4, K5⟩ := HC.out X heX; have HbX := Lib.hid hbX; have HeX := Lib.hid heX; clear hbX heX))
          obtain ⟨q1, u1, hX⟩ := HeX.out
          have x2 := (hX.rc hkt).2.2.1
          have x3 := (hX.rc hkt).2.2.2.1
          have x6 := (hX.rc hkt).2.2.2.2.2.2.1
          have f6 := hX.frR hkt (k * 9 + 6)
          rw [HT.out] at x2 x3
          have e2 : IntKind.i64.wrap (sk.now + (sk.rd k).b.cycle) = sk.now + (sk.rd k).b.cycle := IntWalk.i64_in _ (by omega)
          have e3 : IntKind.i64.wrap (sk.now + (sk.rd k).b.cycle + (sk.rd k).b.pause) = sk.now + (sk.rd k).b.cycle + (sk.rd k).b.pause := IntWalk.i64_in _ (by omega)
          have hY := (hX.grow (below_drewN (Below.refl _ X) 1)).setR (j := 6) (u := .int .i64 (sk.now + (sk.rd k).b.cycle + (sk.rd k).b.pause)) hkt (by omega) (fun x => { x with ready := sk.now + (sk.rd k).b.cycle + (sk.rd k).b.pause }) (fun _ => rfl) (fun _ => lt_nine rfl rfl rfl rfl rfl rfl rfl rfl rfl)
          have bY : Below E.base w ((X.drewN 1).setCell ⟨E.R, k * 9 + 6, none⟩ (.int .i64 (sk.now + (sk.rd k).b.cycle + (sk.rd k).b.pause))) := (below_drewN ((HBk.out.drew).trans HbX.out) 1).setCell hbas.2.1 _
          have HY := Lib.hid hY
          have HBY := Lib.hid bY
          clear hX hY bY K2 K3 HC HFX HEn
          go_wp2_with fail
          refine wp_tail 19 (by kernel_rfl) (by kernel_rfl) ?_
          simp only [List.take_succ_cons, List.take_zero, List.drop_succ_cons, List.drop_zero]
          repeat still_step
          refine wpStill_nil ?_
          go_wp2_with fail
          go_roundw
          case rel => exact ⟨k + 1, by omega, by go_num, HBY.out, _, _, by rw [HS.out, Hz.out]; exact HY.out⟩
          case measure => simp [intOf]; omega
        · have d2 : decide (tl < (sk.rd k).b.seats) = false := by simpa using hsl
          have Hz : Hid (rbegS sk k = t) := by
            show _ = _
            rw [Hy.out, if_neg hsl]
          clear hsl Hy hi2 hrdy hnow htb htl hlk hnk
          go_upto_region 4 with (fail)
          go_region_held3 (fun y => y.cell? ⟨E.v, 1, none⟩ = some (.int .i64 sk.now) ∧ y.cell? ⟨E.R, k * 9 + 6, none⟩ = some (.int .i64 (sk.rd k).ready) ∧ y.cell? ⟨E.R, k * 9, none⟩ = some (.int .i64 (sk.rd k).b.seats)) (first | go_keep | exact ⟨K1, K2, K3⟩) (first
            | (go_at_call 111; refine HFX.out.mono ?_; rintro e X ⟨rfl, hbX, heX⟩; obtain ⟨K1, K2, K3, K4, K5⟩ := HC.out X heX; have HbX := Lib.hid hbX; have HeX := Lib.hid heX; clear hbX heX))
          go_wp2_with fail
          go_roundw
          case rel => exact ⟨k + 1, by omega, by go_num, (HBk.out.drew).trans HbX.out, by show EvAt _ _ _; rw [HS.out, Hz.out]; exact HeX.out⟩
          case measure => simp [intOf]; omega
      · have d1 : decide ((sk.rd k).ready ≤ sk.now) = false := by simpa using hrd1
        have Hn := Lib.hid (hrn.out hrd1)
        clear hrd1 hry hrn hrdy hnow htl htb hlk hnk
        go_wp2_with fail
        go_quiet (fail)
        go_wp2_with fail
        go_roundw
        case rel => exact ⟨k + 1, by omega, by go_num, below_drewN HBk.out _, by show EvAt _ _ _; rw [HS.out, Hn.out]; exact HEn.out _⟩
        case measure => simp [intOf]; omega
    · obtain rfl : k = n := by omega
      clear HK
      go_wp2_with fail
      go_end0
      exact ⟨rfl, HBk.out, by rw [HR.out]; exact HEk.out⟩
end Go.Proofs.Ytijbhcdnbaaobaa
