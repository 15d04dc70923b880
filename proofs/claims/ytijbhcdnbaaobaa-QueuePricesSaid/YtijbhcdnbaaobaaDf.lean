/- Contract of the specification's fill. Conditions: the play lies in memory. -/
import Derived.Test.YtijbhcdnbaaobaaDe
namespace Go.Proofs.Ytijbhcdnbaaobaa
open Go.RowKit

/-- What leave asks. -/
structure LeavePre (E : RfE) (x : RawR) (i : Nat) : Prop where
  h0 : 0 ≤ x.gu i 1
  h1 : x.gu i 1 < ((E.l.getD i default).wants.length : Int)
  q : ∀ r, r < E.f.rides.length → (x.q r).length ≤ 1000
  v : x.vis.length ≤ 100000
  t : -1000000000 ≤ x.gu i 3 ∧ x.gu i 3 ≤ 1000000000
  k : ∀ r, r < E.f.rides.length → -1000000000 ≤ x.tab 2 r ∧ x.tab 2 r ≤ 1000000000
def RfE.sz (E : RfE) (i : Nat) : Int := (E.l.getD i default).size
def RfE.bt (E : RfE) (r : Nat) : Bth := E.f.rides.getD r default
def fillLR (E : RfE) (r : Nat) : List Nat → Int → RawR → RawR × Int
  | [], left, x => (x, left)
  | i :: l, left, x =>
    if (E.bt r).seats < E.sz i ∨ x.gu i 3 < E.sz i * (E.bt r).price then fillLR E r l left (leaveR E x i false)
    else if E.sz i ≤ left then fillLR E r l (left - E.sz i) (leaveR E x i true)
    else if (E.bt r).fill = false then (x, left)
    else fillLR E r l left x
def FillGo (E : RfE) (r : Nat) : List Nat → Int → RawR → Prop
  | [], _, _ => True
  | i :: l, left, x => (i < E.l.length ∧ LeavePre E x i) ∧
    (if (E.bt r).seats < E.sz i ∨ x.gu i 3 < E.sz i * (E.bt r).price then FillGo E r l left (leaveR E x i false)
    else if E.sz i ≤ left then FillGo E r l (left - E.sz i) (leaveR E x i true)
    else if (E.bt r).fill = false then True
    else FillGo E r l left x)
theorem own_row3 {w : World} {base size n : Nat} {e : TypeId} {v : Value} {xs : List Value} (h : w.ownsRow base e size v n xs) (h0 : 0 < n) : ∃ g cap cur, v = .slice (some ⟨g, 0, none⟩) n cap ∧ base ≤ g ∧ w.heap[g]? = some (.cells cur e (0, 0)) ∧ n ≤ cap ∧ cap ≤ maxLen ∧ cur.size = cap * size ∧ cur.toList.take (n * size) = xs := by
  rcases h.2 with ⟨-, rfl⟩ | h
  · omega
  · exact h
theorem line_cell {w : World} {g n : Nat} {cur : Array Value} {q : List Nat} (h : w.heap[g]? = some (.cells cur 3 (0, 0))) (ht : cur.toList.take (n * 1) = qL q) {j : Nat} (hj : j < q.length) : w.cell? ⟨g, j, none⟩ = some (.int .i64 (q[j] : Int)) := by
  rw [cell_of_row w g _ cur _ (0, 0) h]
  have h1 : (qL q)[j]? = some (.int .i64 (q[j] : Int)) := by unfold qL; rw [List.getElem?_map, List.getElem?_eq_getElem hj]; rfl
  rw [← ht, List.getElem?_take] at h1
  split at h1
  · simpa using h1
  · cases h1
set_option maxRecDepth 100000 in
set_option maxHeartbeats 4000000 in
theorem rfill_any {E : RfE} {w : World} {x : RawR} (h : RfAt E w x) (S : StatE E) {r : Nat} (hr : r < E.f.rides.length) (hq : (x.q r).length ≤ 1000) (hok : FillGo E r (x.q r) (E.bt r).seats x) :
    Calls Try.prog 83 #[.pointer (some ⟨E.v, 0, none⟩), .int .i64 r] w fun e w' => e = .returned (.bool (decide ((fillLR E r (x.q r) (E.bt r).seats x).2 < (E.bt r).seats))) ∧ Below E.base w w' ∧ RfAt E w' (fillLR E r (x.q r) (E.bt r).seats x).1 := by
  obtain ⟨qs, uv, h⟩ := h
  obtain ⟨i0, hinf, hz0, hz1, hz2⟩ := info_parts Try.info_int
  have hnr := S.nr
  have hng := S.ng
  have hr' : (r : Int) < (E.f.rides.length : Int) := by omega
  obtain ⟨⟨sb1, sb2⟩, ⟨pb1, pb2⟩, -, -⟩ := S.rd r hr
  obtain ⟨b4, o4, ha4, hb4, d0, d1, d2, d3, d4⟩ := h.rc hr
  obtain ⟨v0, -, -, -, -, lv⟩ := h.pc
  rw [ha4] at v0
  have hbt : E.bt r = E.f.rides.getD r default := rfl
  rw [← hbt] at sb1 sb2 pb1 pb2 d0 d1 d2 d3 d4
  obtain ⟨se, hse⟩ : ∃ z, z = (E.bt r).seats := ⟨_, rfl⟩
  obtain ⟨pr, hpr⟩ : ∃ z, z = (E.bt r).price := ⟨_, rfl⟩
  obtain ⟨fl, hfl⟩ : ∃ z, z = (E.bt r).fill := ⟨_, rfl⟩
  generalize (E.bt r).cycle = cy at d2
  generalize (E.bt r).pause = pz at d3
  rw [← hse] at sb1 sb2 d0 hok ⊢
  rw [← hpr] at pb1 pb2 d1
  rw [← hfl] at d4
  have HSE := Lib.hid hse
  have HPR := Lib.hid hpr
  have HFL := Lib.hid hfl
  obtain ⟨W, hW⟩ : ∃ W, W = w.alloc (.cells #[.int .i64 se, .int .i64 pr, .int .i64 cy, .int .i64 pz, .bool fl] 47) := ⟨_, rfl⟩
  have bW : Below w.heap.size w W := by rw [hW]; exact (Below.refl _ _).alloc (Nat.le_refl _) _
  have k1 := h.more (Nat.le_refl _) bW (o := .cells #[.int .i64 se, .int .i64 pr, .int .i64 cy, .int .i64 pz, .bool fl] 47) (by rw [hW]; exact heap_alloc_new _ _)
  obtain ⟨gb, hgb⟩ : ∃ g, g = w.heap.size := ⟨_, rfl⟩
  have rb : Row W gb 47 [.int .i64 se, .int .i64 pr, .int .i64 cy, .int .i64 pz, .bool fl] := by rw [hW, hgb]; exact Row.new w _ _
  have BW : Hid (Below E.base w W) := bW.mono h.bW
  obtain ⟨ob, hob⟩ : ∃ o, o = Obj.cells #[.int .i64 se, .int .i64 pr, .int .i64 cy, .int .i64 pz, .bool fl] 47 := ⟨_, rfl⟩
  rw [← hob, ← hgb] at k1
  have HOB := Lib.hid hob
  have K1 := Lib.hid k1
  have hqo := k1.q r hr
  obtain ⟨qA, qC, hqs⟩ := own_slice hqo
  rw [hqs] at hqo
  have cq : W.cell? ⟨E.Q, r, none⟩ = some (qs r) := (k1.qc hr).1
  have lq : E.Q < W.heap.size := (k1.qc hr).2
  have v5 : W.cell? ⟨E.v, 5, none⟩ = some (.slice (some ⟨E.Q, 0, none⟩) E.f.rides.length E.cQ) := k1.pQ (show 0 < E.f.rides.length by omega)
  have lv1 : E.v < W.heap.size := k1.pl.lt
  rw [hqs] at cq
  clear hse hpr hfl ha4 hbt k1 hob bW h hqs
  obtain ⟨res, hres⟩ : ∃ p, p = fillLR E r (x.q r) se x := ⟨_, rfl⟩
  rw [← hres]
  have HRES := Lib.hid hres
  clear hres
  go_enter Try.func83, Try.ntmps83
  go_upto_region 2 with (fail)
  rw [← hW, ← hgb]
  clear hW v0 lv d0 d1 d2 d3 d4 hb4
  have p0 : W.cell? ⟨gb, 0, none⟩ = some (.int .i64 se) := rb.cell (j := 0) (by simp)
  have lgb := rb.lt
  have bA := (Below.refl W.heap.size W).alloc (Nat.le_refl _) (.cells #[] 3)
  have hE : isEmpty W.heap.size 3 1 (.slice (some ⟨W.heap.size, 0, none⟩) 0 0) (W.alloc (.cells #[] 3)) := new_empty (Nat.le_refl _)
  have hrA := (own_rdz hqo).below bA
  have po : ∀ u ∈ qL (x.q r), u.oneCell' = true := fun u hu => by obtain ⟨a, _, rfl⟩ := List.mem_map.1 hu; rfl
  have m1 : 0 + (x.q r).length ≤ maxLen := by unfold maxLen; omega
  have m2 : (0 + (x.q r).length) * 8 ≤ 140737488355328 := by omega
  have m3 := bA.size
  have HbA := Lib.hid bA
  have HRB := Lib.hid rb
  clear bA rb hgb hqo
  go_upto_region 4 with (at_builtin; refine wpList_app _ rfl _ _ 37 rfl W.heap.size 3 i0 _ 1 8 Try.underlying37 hinf hz0 hz1 hz2 rfl (by decide) (.slice (some ⟨W.heap.size, 0, none⟩) 0 0) 0 [] rfl hE.2.1 W.heap.size qA (x.q r).length qC (qL (x.q r)) rfl hrA po m1 m2 m3 ?_)
  intro v X ho hb
  have ho' : X.ownsRow W.heap.size 3 1 v (x.q r).length (qL (x.q r)) := by simpa using ho
  have hbX : Below W.heap.size W X := HbA.out.trans (hb.mono (by first | exact Nat.le_refl _ | omega))
  clear ho hb hE hrA po m1 m2 m3 HbA cq lq v5 lv1 p0 lgb
  go_upto_region 4 with (fail)
  have BX : Hid (Below E.base w X) := BW.out.trans (hbX.mono K1.out.bW)
  rcases Nat.eq_zero_or_pos (x.q r).length with h0 | h0
  · obtain ⟨A, c, rfl⟩ := own_slice ho'
    have hq0 : x.q r = [] := List.eq_nil_of_length_eq_zero h0
    have hf : fillLR E r (x.q r) se x = (x, se) := by rw [hq0]; rfl
    have KX : Hid (RfAt E X x) := RfAt.less (k := gb) (o := ob) ⟨_, _, K1.out.grow hbX⟩
    have HRX := Lib.hid (HRB.out.below hbX HRB.out.lt)
    have HF : Hid (res = (x, se)) := HRES.out.trans hf
    rw [h0]
    clear ho' hbX hf hq0 h0 hok
    go_upto_region 5 with fail
    go_loopw [6, 8] (fun lv jv wr => lv = .int .i64 se ∧ jv = .int .i64 0 ∧ wr = X) (fun _ _ _ => 0)
    case atStart => exact ⟨rfl, rfl, rfl⟩
    case round =>
      obtain ⟨rfl, rfl, rfl⟩ := hrel
      have p0 : wr.cell? ⟨gb, 0, none⟩ = some (.int .i64 se) := HRX.out.cell (j := 0) (by simp)
      have lgb := HRX.out.lt
      have hge : ¬ (0 : Int) < ((0 : Nat) : Int) := by omega
      go_wp2_with fail
      go_ret
      exact ⟨by rw [HF.out]; simp, BX.out, by rw [HF.out]; exact KX.out⟩
  · obtain ⟨g, cap, cur, rfl, hg, hcur, -, -, -, htk⟩ := own_row3 ho' h0
    have hlt0 := (Array.getElem?_eq_some_iff.1 hcur).1
    obtain ⟨lo, hlo⟩ : ∃ o, o = Obj.cells cur 3 (0, 0) := ⟨_, rfl⟩
    have K2 : Hid (RfAt ((E.with gb ob).with g lo) X x) := ⟨_, _, K1.out.more hg hbX (by rw [hlo]; exact hcur)⟩
    have S2 : StatE ((E.with gb ob).with g lo) := ⟨S.nr, S.ng, S.walk, S.gp, S.rd⟩
    have HLO := Lib.hid hlo
    have HTK := Lib.hid htk
    clear ho' hbX hcur hlo htk hg hlt0
    go_upto_region 5 with fail
    go_loopw [6, 8] (fun lv jv wr => ∃ (j : Nat) (left : Int) (x' : RawR), j ≤ (x.q r).length ∧ jv = .int .i64 j ∧ lv = .int .i64 left ∧ (0 ≤ left ∧ left ≤ se) ∧ RfAt ((E.with gb ob).with g lo) wr x' ∧ Below E.base w wr ∧ fillLR E r ((x.q r).drop j) left x' = res ∧ FillGo E r ((x.q r).drop j) left x') (fun _ jv _ => (x.q r).length - (intOf jv).toNat)
    case atStart => exact ⟨0, se, x, Nat.zero_le _, rfl, rfl, ⟨by omega, Int.le_refl _⟩, K2.out, BX.out, HRES.out.symm, hok⟩
    case round =>
      obtain ⟨j, left, x', hj, rfl, rfl, ⟨hl0, hl1⟩, hat, hbw, heq, hgo⟩ := hrel
      have hgb : wr.heap[gb]? = some ob := hat.less.have_
      have hlg : wr.heap[g]? = some lo := hat.have_
      rw [HOB.out] at hgb
      rw [HLO.out] at hlg
      have rb : Row wr gb 47 [.int .i64 se, .int .i64 pr, .int .i64 cy, .int .i64 pz, .bool fl] := ⟨_, hgb, by simp, fun j _ => by simp⟩
      have p0 : wr.cell? ⟨gb, 0, none⟩ = some (.int .i64 se) := rb.cell (j := 0) (by simp)
      have p1 : wr.cell? ⟨gb, 1, none⟩ = some (.int .i64 pr) := rb.cell (j := 1) (by simp)
      have lgb := rb.lt
      have lg := (Array.getElem?_eq_some_iff.1 hlg).1
      have HBW := Lib.hid hbw
      by_cases hlt : j < (x.q r).length
      · have hlt' : (j : Int) < ((x.q r).length : Int) := by omega
        have e1 : IntKind.i64.wrap ((j : Int) + 1) = (j : Int) + 1 := IntWalk.i64_in _ (by omega)
        have cj := line_cell hlg HTK.out hlt
        rw [List.drop_eq_getElem_cons hlt] at heq hgo
        generalize (x.q r)[j] = i at cj heq hgo
        simp only [FillGo, fillLR] at heq hgo
        rw [← HSE.out, ← HPR.out, ← HFL.out] at heq hgo
        obtain ⟨⟨hi, hpre⟩, hgo⟩ := hgo
        obtain ⟨qs', uv', hin⟩ := hat
        obtain ⟨b5, o5, ha5, hb5, s1⟩ : ∃ b o, E.A2 = some ⟨b, o, none⟩ ∧ b < wr.heap.size ∧ wr.cell? ⟨b, o + i * 5 + 1, none⟩ = some (.int .i64 (E.sz i)) := by
          obtain ⟨b, o, h1, h2, -, h3, -⟩ := hin.lc hi
          exact ⟨b, o, h1, h2, h3⟩
        have v2 : wr.cell? ⟨E.v, 2, none⟩ = some (.slice E.A2 E.l.length E.c2) := hin.pc.2.2.1
        rw [ha5] at v2
        have lv : E.v < wr.heap.size := hin.pl.lt
        have v4 : wr.cell? ⟨E.v, 4, none⟩ = some (.slice (some ⟨E.G, 0, none⟩) E.l.length E.cG) := hin.pG (show 0 < E.l.length by omega)
        have g3 : wr.cell? ⟨E.G, i * 4 + 3, none⟩ = some (.int .i64 (x'.gu i 3)) := (hin.gc hi).2.2.2.1
        have lG : E.G < wr.heap.size := (hin.gc hi).2.2.2.2
        have hii : (i : Int) < (E.l.length : Int) := by omega
        have hszb : 1 ≤ E.sz i ∧ E.sz i ≤ 40 := (S.gp i hi).2.2.1
        obtain ⟨sz, hsz⟩ : ∃ z, z = E.sz i := ⟨_, rfl⟩
        obtain ⟨tk, htk⟩ : ∃ z, z = x'.gu i 3 := ⟨_, rfl⟩
        rw [← hsz] at s1 heq hgo hszb
        rw [← htk] at g3 heq hgo
        have hm1 : 0 ≤ sz * pr := Int.mul_nonneg (by omega) pb1
        have hm2 : sz * pr ≤ 40 * 100 := Int.mul_le_mul hszb.2 pb2 (by omega) (by omega)
        have e2 : IntKind.i64.wrap (sz * pr) = sz * pr := IntWalk.i64_in _ (by omega)
        have HEQ := Lib.hid heq
        have HGO := Lib.hid hgo
        have HIN := Lib.hid hin
        have HPRE := Lib.hid hpre
        clear heq hgo hin hpre hsz htk hgb hlg ha5 hbw rb
        go_upto_region 9 with (fail)
        go_cut [48] (fun s48 wx => s48 = .bool (decide (se < sz ∨ tk < sz * pr)) ∧ Below wr.heap.size wr wx)
        case first =>
          by_cases h1 : se < sz
          · have hd : Hid (decide (se < sz ∨ tk < sz * pr) = true) := decide_eq_true (.inl h1)
            go_quiet (fail)
            go_wp2_with fail
            go_meet
            exact ⟨by rw [hd.out], below_drewN (Below.refl _ _) _⟩
          · have hd1 : decide (se < sz) = false := decide_eq_false h1
            by_cases h2 : tk < sz * pr
            · have hd : Hid (decide (se < sz ∨ tk < sz * pr) = true) := decide_eq_true (.inr h2)
              clear h1
              go_quiet (fail)
              go_wp2_with fail
              go_meet
              exact ⟨by rw [hd.out], below_drewN (Below.refl _ _) _⟩
            · have hd : Hid (decide (se < sz ∨ tk < sz * pr) = false) := decide_eq_false (fun h => h.elim h1 h2)
              have hd2 : decide (tk < sz * pr) = false := decide_eq_false h2
              clear h1 h2
              go_quiet (fail)
              go_wp2_with fail
              go_meet
              exact ⟨by rw [hd.out], below_drewN (Below.refl _ _) _⟩
        case rest =>
          obtain ⟨rfl, hbx⟩ := hcut
          have hinx := HIN.out.grow hbx
          have BXC := Lib.hid (HBW.out.trans (hbx.mono HIN.out.bW))
          clear p0 p1 lgb lg cj v2 lv v4 g3 lG hb5 s1
          by_cases hC : se < sz ∨ tk < sz * pr
          · rw [decide_eq_true hC]
            have heq := HEQ.out
            have hgo := HGO.out
            rw [if_pos hC] at heq hgo
            have HLV : Hid (Calls Try.prog 82 #[.pointer (some ⟨E.v, 0, none⟩), .int .i64 i, .bool false] wc fun e w' => e = .returned (.tuple #[]) ∧ Below E.base wc w' ∧ RfAt ((E.with gb ob).with g lo) w' (leaveR E x' i false)) := rleave_any (E := (E.with gb ob).with g lo) ⟨_, _, hinx⟩ S2 false hi HPRE.out.h0 HPRE.out.h1 HPRE.out.q HPRE.out.v HPRE.out.t HPRE.out.k
            have HEQ2 := Lib.hid heq
            have HGO2 := Lib.hid hgo
            clear heq hgo hC hinx hbx HEQ HGO
            go_wp2_with (go_at_call 82; refine HLV.out.mono ?_; rintro e w9 ⟨rfl, hb9, hr9⟩; have HB9 := Lib.hid (BXC.out.trans hb9); have HR9 := Lib.hid hr9; clear hb9 hr9)
            go_roundw
            case rel => exact ⟨j + 1, left, _, by omega, by go_num, rfl, ⟨hl0, hl1⟩, HR9.out, HB9.out, HEQ2.out, HGO2.out⟩
            case measure => simp [intOf]; omega
          · rw [decide_eq_false hC]
            have heq := HEQ.out
            have hgo := HGO.out
            rw [if_neg hC] at heq hgo
            by_cases hle : sz ≤ left
            · rw [if_pos hle] at heq hgo
              have HLV : Hid (Calls Try.prog 82 #[.pointer (some ⟨E.v, 0, none⟩), .int .i64 i, .bool true] wc fun e w' => e = .returned (.tuple #[]) ∧ Below E.base wc w' ∧ RfAt ((E.with gb ob).with g lo) w' (leaveR E x' i true)) := rleave_any (E := (E.with gb ob).with g lo) ⟨_, _, hinx⟩ S2 true hi HPRE.out.h0 HPRE.out.h1 HPRE.out.q HPRE.out.v HPRE.out.t HPRE.out.k
              have e3 : IntKind.i64.wrap (left - sz) = left - sz := IntWalk.i64_in _ (by omega)
              have HEQ2 := Lib.hid heq
              have HGO2 := Lib.hid hgo
              clear heq hgo hC hinx hbx HEQ HGO
              go_wp2_with (go_at_call 82; refine HLV.out.mono ?_; rintro e w9 ⟨rfl, hb9, hr9⟩; have HB9 := Lib.hid (BXC.out.trans hb9); have HR9 := Lib.hid hr9; clear hb9 hr9)
              go_roundw
              case rel => exact ⟨j + 1, left - sz, _, by omega, by go_num, rfl, ⟨by omega, by omega⟩, HR9.out, HB9.out, HEQ2.out, HGO2.out⟩
              case measure => simp [intOf]; omega
            · rw [if_neg hle] at heq hgo
              have KC : Hid (RfAt ((E.with gb ob).with g lo) wc x') := ⟨_, _, hinx⟩
              have hgb : wc.heap[gb]? = some ob := KC.out.less.have_
              rw [HOB.out] at hgb
              have rb : Row wc gb 47 [.int .i64 se, .int .i64 pr, .int .i64 cy, .int .i64 pz, .bool fl] := ⟨_, hgb, by simp, fun j _ => by simp⟩
              have p0 : wc.cell? ⟨gb, 0, none⟩ = some (.int .i64 se) := rb.cell (j := 0) (by simp)
              have p4 : wc.cell? ⟨gb, 4, none⟩ = some (.bool fl) := rb.cell (j := 4) (by simp)
              have lgb := rb.lt
              clear hinx hbx hgb rb HEQ HGO hC
              cases fl with
              | false =>
                rw [if_pos rfl] at heq
                have HEQ2 := Lib.hid heq
                clear heq hgo
                go_wp2_with fail
                go_ret
                exact ⟨by rw [← HEQ2.out]; rfl, BXC.out, by rw [← HEQ2.out]; exact KC.out.less.less⟩
              | true =>
                rw [if_neg (by decide)] at heq hgo
                have HEQ2 := Lib.hid heq
                have HGO2 := Lib.hid hgo
                clear heq hgo
                go_wp2_with fail
                go_roundw
                case rel => exact ⟨j + 1, left, x', by omega, by go_num, rfl, ⟨hl0, hl1⟩, KC.out, BXC.out, HEQ2.out, HGO2.out⟩
                case measure => simp [intOf]; omega
      · have hge : ¬ (j : Int) < ((x.q r).length : Int) := by omega
        rw [List.drop_eq_nil_of_le (by omega)] at heq
        have HEQ2 : Hid ((x', left) = res) := heq
        have KC := Lib.hid hat
        clear heq hgo hat hgb hlg rb hbw
        go_wp2_with fail
        go_ret
        exact ⟨by rw [← HEQ2.out]; rfl, HBW.out, by rw [← HEQ2.out]; exact KC.out.less.less⟩
end Go.Proofs.Ytijbhcdnbaaobaa
