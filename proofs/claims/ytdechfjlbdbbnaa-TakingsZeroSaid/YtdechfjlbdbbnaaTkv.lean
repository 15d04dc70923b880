/- Contracts of takings' pay and Claims. Conditions: numbers that read as data. -/
import Derived.Test.YtdechfjlbdbbnaaTks
import Derived.Test.YtdechfjlbdbbnaaTku
namespace Go.Proofs.Ytdechfjlbdbbnaa
open Go.RowKit Go.Shelf

def paidK (c : Int) (cl : List Int) (k : Nat) : List Int := (List.range k).map fun k => min (wAt cl k) (remZ c cl k)
theorem paidK_snoc (c : Int) (cl : List Int) (k : Nat) : (paidK c cl (k + 1)).map (Value.int .i64) = (paidK c cl k).map (Value.int .i64) ++ [.int .i64 (min (wAt cl k) (remZ c cl k))] := by
  unfold paidK
  rw [List.range_succ, List.map_append, List.map_append]; rfl
/-- A list and a number. -/
def TkPay (w : World) (c : Int) (cl : List Int) (e : Ending) (w' : World) : Prop :=
  ∃ A' c', e = .returned (.tuple #[.slice A' cl.length c', .int .i64 (remZ c cl cl.length)]) ∧ Reads w' w'.heap.size 1 A' cl.length ((paidL c cl).map (Value.int .i64)) ∧ Below w.heap.size w w'
set_option maxHeartbeats 4000000 in
set_option maxRecDepth 100000 in
theorem pay_any (c : Int) (cl : List Int) (h0 : 0 ≤ c) (h1 : c ≤ 1000000000) (hc : ∀ i, i < cl.length → 0 ≤ wAt cl i) (hn : cl.length ≤ 10) (A : Option Addr) (ca B : Nat) (w : World) (hB : B ≤ w.heap.size) (hr : Reads w B 1 A cl.length (cl.map (Value.int .i64))) :
    Calls Try.prog 44 #[.int .i64 c, .slice A cl.length ca] w (TkPay w c cl) := by
  obtain ⟨i0, hi, hz0, hz1, hz2⟩ := info_parts Try.info_intT
  have hrd := Lib.hid hr
  have HRb := Lib.hid (rem_bd h0 hc)
  clear hr
  go_enter Try.func44, Try.ntmps44
  go_wp2_with fail
  go_loopw [0, 4, 10] (fun cv v i wr => ∃ k : Nat, k ≤ cl.length ∧ i = .int .i64 k ∧ cv = .int .i64 (remZ c cl k) ∧ wr.ownsRow w.heap.size 3 1 v k ((paidK c cl k).map (Value.int .i64)) ∧ Below w.heap.size w wr) (fun _ _ i _ => cl.length - (intOf i).toNat)
  case atStart => exact ⟨0, Nat.zero_le _, rfl, rfl, owns_nil _ _ _ _, Below.refl _ _⟩
  case round =>
    obtain ⟨k, hk, rfl, rfl, hown, hbel⟩ := hrel
    by_cases hlt : k < cl.length
    · have hlt' : (k : Int) < (cl.length : Int) := by omega
      have i0' : ¬ (k : Int) < 0 := by omega
      obtain ⟨b, o, rfl, hbB, hc2⟩ := hrd.out.at1 hlt
      have hck := hc2 k hlt
      have lb : b < w.heap.size := by omega
      have cw : wr.cell? ⟨b, o + k, none⟩ = some (.int .i64 (wAt cl k)) := by rw [hbel.cell (p := ⟨b, o + k, none⟩) lb]; exact hck
      have lbr : b < wr.heap.size := Nat.lt_of_lt_of_le lb hbel.size
      have ew : IntKind.i64.wrap ((k : Int) + 1) = (k : Int) + 1 := IntWalk.i64_in _ (by omega)
      have Hsn := Lib.hid (paidK_snoc c cl k)
      have hs := hbel.size
      have Hbe := Lib.hid hbel
      have hrb := HRb.out k (by omega)
      have HR1 : Hid (remZ c cl (k + 1) = remZ c cl k - min (wAt cl k) (remZ c cl k)) := rfl
      have hx0 := hc k hlt
      have m1 : k + 1 ≤ maxLen := by unfold maxLen; omega
      have m2 : (k + 1) * 8 ≤ 140737488355328 := by omega
      clear hc2 hck hbel
      generalize remZ c cl k = r at hrb HR1 Hsn
      generalize wAt cl k = x at cw Hsn HR1 hx0
      have ews : IntKind.i64.wrap (r - min x r) = r - min x r := IntWalk.i64_in _ (by omega)
      clear hrb hx0
      go_wp2_with (at_builtin; refine wpList_app _ rfl _ _ 22 rfl w.heap.size 3 i0 (.int .i64 0) 1 8 Try.underlying22 hi hz0 hz1 hz2 rfl (by decide) u4 k ((paidK c cl k).map (Value.int .i64)) rfl ?qo (wr.heap.size + 1) (some ⟨wr.heap.size, 0, none⟩) 1 1 [.int .i64 (min x r)] rfl ?qr ?q1 m1 m2 ?qb ?_)
      case qo => first | exact owns_alloc hown _ | exact owns_alloc (owns_drewN hown _) _ | exact owns_drewN (owns_alloc hown _) _
      case qr =>
        refine Row.reads (t := 3) ?_ rfl (by simp)
        exact Row.new wr 3 #[.int .i64 (min x r)]
      case q1 => first | rfl | (intro u hu; simp at hu; subst hu; rfl)
      case qb => first | omega | (simp; omega)
      intro v' w1 hown' hbel'
      go_wp2_with fail
      go_roundw
      case rel =>
        refine ⟨k + 1, by omega, by go_num, by rw [HR1.out], by rw [Hsn.out]; exact hown', Below.trans ?_ hbel'⟩
        repeat (first | (with_reducible exact Hbe.out) | (with_reducible exact hs) | (with_reducible refine below_drewN ?_ _) | (with_reducible refine Below.alloc ?_ ?_ _) | (simp; omega))
      case measure => simp [intOf]; omega
    · have ek : k = cl.length := by omega
      obtain ⟨A', c', hv, hrd'⟩ := nown_rdT hown
      subst hv
      rw [ek] at hrd'
      have HRd := Lib.hid hrd'
      have Hbe := Lib.hid hbel
      have Hk := Lib.hid ek
      have hge : ¬ (k : Int) < (cl.length : Int) := by omega
      clear hrd' hbel hown ek
      go_wp2_with fail
      go_ret2
      exact ⟨A', c', by rw [← Hk.out]; rfl, HRd.out, Hbe.out⟩
/-- What Claims returns. -/
def clmB (c : Int) (cl : List Int) : Bool := inB c 0 1000000000 && decide (cl.length ≤ 10) && allB cl 0 1000000000
def clmR (c : Int) (cl ws : List Int) : List Int × List Int × Int := if clmB c cl = false then ([], [], 1) else if wOk ws = false then ([], [], 110) else (paidL c cl, splitZ (remZ c cl cl.length) ws, 0)
/-- Two lists and an error. -/
def TkTo2 (w : World) (L M : List Int) (e0 : Int) (e : Ending) (w' : World) : Prop :=
  ∃ A' c' A2 c2, e = .returned (.tuple #[.slice A' L.length c', .slice A2 M.length c2, .int .i64 e0]) ∧ Reads w' w'.heap.size 1 A' L.length (L.map (Value.int .i64)) ∧ Reads w' w'.heap.size 1 A2 M.length (M.map (Value.int .i64)) ∧ Below w.heap.size w w'
set_option maxHeartbeats 4000000 in
set_option maxRecDepth 100000 in
theorem Claims_any (c : Int) (cl ws : List Int) (A A2 : Option Addr) (ca c2 B : Nat) (w : World) (hB : B ≤ w.heap.size) (hr : Reads w B 1 A cl.length (cl.map (Value.int .i64))) (hm : cl.length ≤ maxLen) (hr2 : Reads w B 1 A2 ws.length (ws.map (Value.int .i64))) (hm2 : ws.length ≤ maxLen) :
    Calls Try.prog 18 #[.int .i64 c, .slice A cl.length ca, .slice A2 ws.length c2] w (TkTo2 w (clmR c cl ws).1 (clmR c cl ws).2.1 (clmR c cl ws).2.2) := by
  have HV : Hid (clmR c cl ws = if clmB c cl = false then ([], [], 1) else if wOk ws = false then ([], [], 110) else (paidL c cl, splitZ (remZ c cl cl.length) ws, 0)) := rfl
  have HVB : Hid (clmB c cl = (inB c 0 1000000000 && decide (cl.length ≤ 10) && allB cl 0 1000000000)) := rfl
  obtain ⟨W, hW⟩ : ∃ W, W = w.alloc (.cells #[.int .i64 c] 3) := ⟨_, rfl⟩
  have bW : Below w.heap.size w W := by subst hW; exact (Below.refl _ _).alloc (Nat.le_refl _) _
  have H1 : Hid (∀ k, Calls Try.prog 38 #[.slice (some ⟨w.heap.size, 0, none⟩) 1 k] (w.alloc (.cells #[.int .i64 c] 3)) fun e w' => e = .returned (.bool (inB c 0 1000000000)) ∧ w' = W) := fun k => by
    rw [hW]
    exact (am_new w k c).mono fun e w' h => ⟨h.1, h.2.symm⟩
  have H2 := Lib.hid (areAmounts_any cl A cl.length ca B W (hr.below (bW.mono hB)) hm)
  have H3 : Hid (Calls Try.prog 39 #[.slice A2 ws.length c2] W fun e w' => e = .returned (.bool (wOk ws)) ∧ Below w.heap.size w w') := (validWeights_any ws A2 c2 B W (Nat.le_trans hB bW.size) (hr2.below (bW.mono hB)) hm2).mono fun e w' h => ⟨h.1, bW.trans (h.2.mono bW.size)⟩
  have HRD : Hid (∀ X, Below w.heap.size w X → Reads X B 1 A cl.length (cl.map (Value.int .i64)) ∧ Reads X B 1 A2 ws.length (ws.map (Value.int .i64)) ∧ B ≤ X.heap.size) := fun X hX => ⟨hr.below (hX.mono hB), hr2.below (hX.mono hB), Nat.le_trans hB hX.size⟩
  have HB := Lib.hid bW
  unfold maxLen at hm
  clear hW bW hr hr2 hm2
  by_cases hb : clmB c cl = false
  · rw [if_pos hb] at HV
    rw [HV.out]
    rw [HVB.out] at hb
    clear HV HVB H3
    cases h1 : inB c 0 1000000000 with
    | false =>
      rw [h1] at H1
      clear hb h1
      go_enter Try.func18, Try.ntmps18
      go_wp2_with (go_at_call 38; with_reducible refine (H1.out _).mono ?_; rintro e w' ⟨rfl, rfl⟩)
      go_ret3
      exact ⟨none, 0, none, 0, rfl, Reads.none_, Reads.none_, HB.out⟩
    | true =>
      rw [h1] at H1 hb
      by_cases h10 : cl.length ≤ 10
      · have h2 : allB cl 0 1000000000 = false := by simpa [h10] using hb
        have hz : ¬ (10 : Int) < (cl.length : Int) := by omega
        rw [h2] at H2
        clear hb h1 h2
        go_enter Try.func18, Try.ntmps18
        go_wp2_with (first | (go_at_call 38; with_reducible refine (H1.out _).mono ?_; rintro e w' ⟨rfl, rfl⟩) | (go_at_call 38; with_reducible refine H2.out.mono ?_; rintro e w' ⟨rfl, rfl⟩))
        go_ret3
        exact ⟨none, 0, none, 0, rfl, Reads.none_, Reads.none_, HB.out⟩
      · have hz : (10 : Int) < (cl.length : Int) := by omega
        clear hb h1
        go_enter Try.func18, Try.ntmps18
        go_wp2_with (go_at_call 38; with_reducible refine (H1.out _).mono ?_; rintro e w' ⟨rfl, rfl⟩)
        go_ret3
        exact ⟨none, 0, none, 0, rfl, Reads.none_, Reads.none_, HB.out⟩
  have hb' : (inB c 0 1000000000 && decide (cl.length ≤ 10) && allB cl 0 1000000000) = true := by rw [← HVB.out]; simpa using hb
  rw [if_neg hb] at HV
  simp only [Bool.and_eq_true, decide_eq_true_eq] at hb'
  obtain ⟨⟨h1, h10⟩, h2⟩ := hb'
  have hc := inB_le h1
  have hz : ¬ (10 : Int) < (cl.length : Int) := by omega
  have HL := Lib.hid (fun i hi => allB_at (i := i) h2 hi)
  rw [h1] at H1
  rw [h2] at H2
  clear hb h1 h2 HVB
  by_cases hw : wOk ws = false
  · rw [if_pos hw] at HV
    rw [HV.out]
    rw [hw] at H3
    clear HV hw
    go_enter Try.func18, Try.ntmps18
    go_wp2_with (first | (go_at_call 38; with_reducible refine (H1.out _).mono ?_; rintro e w' ⟨rfl, rfl⟩) | (go_at_call 38; with_reducible refine H2.out.mono ?_; rintro e w' ⟨rfl, rfl⟩) | (go_at_call 39; with_reducible refine H3.out.mono ?_; rintro e w' ⟨rfl, hx⟩; have HX := Lib.hid hx; clear hx H3))
    go_ret3
    exact ⟨none, 0, none, 0, rfl, Reads.none_, Reads.none_, HX.out⟩
  rw [if_neg hw] at HV
  have hwt : wOk ws = true := by simpa using hw
  have hok := wOk_of hwt
  rw [HV.out]
  rw [hwt] at H3
  have hrb := rem_bd hc.1 (fun i hi => (HL.out i hi).1) cl.length (Nat.le_refl _)
  have HP : Hid (∀ X, Below w.heap.size w X → Calls Try.prog 44 #[.int .i64 c, .slice A cl.length ca] X (TkPay X c cl)) := fun X hX => pay_any c cl hc.1 hc.2 (fun i hi => (HL.out i hi).1) h10 A ca B X (HRD.out X hX).2.2 (HRD.out X hX).1
  have HSp : Hid (∀ X, Below w.heap.size w X → Calls Try.prog 40 #[.int .i64 (remZ c cl cl.length), .slice A2 ws.length c2] X fun e w' => ∃ g ca', e = .returned (.slice (some ⟨g, 0, none⟩) ws.length ca') ∧ X.heap.size ≤ g ∧ Row w' g 3 ((splitZ (remZ c cl cl.length) ws).map (Value.int .i64)) ∧ Below X.heap.size X w') := fun X hX => split_any _ ws hok hrb.1 (by omega) A2 c2 B X (HRD.out X hX).2.2 (HRD.out X hX).2.1
  have hl1 := paidL_len c cl
  have hl2 := splitZ_ln (remZ c cl cl.length) ws
  have HL1 := Lib.hid hl1
  have HL2 := Lib.hid hl2
  clear HV hw hwt hok hrb hc hl1 hl2
  go_enter Try.func18, Try.ntmps18
  go_upto_region 5 with (first | (go_at_call 38; with_reducible refine (H1.out _).mono ?_; rintro e w' ⟨rfl, rfl⟩) | (go_at_call 38; with_reducible refine H2.out.mono ?_; rintro e w' ⟨rfl, rfl⟩) | (go_at_call 39; with_reducible refine H3.out.mono ?_; rintro e w' ⟨rfl, hx⟩; have HX := Lib.hid hx; clear hx H3))
  go_upto_region 6 with (go_at_call 44; refine (HP.out _ HX.out).mono ?_; rintro e Y ⟨A3, c3, rfl, hr3, hY⟩)
  have HY := Lib.hid (HX.out.trans (hY.mono HX.out.size))
  have HR3 := Lib.hid hr3
  clear hY hr3 HP
  go_wp2_with (go_at_call 40; refine (HSp.out _ HY.out).mono ?_; rintro e Z ⟨g, c4, rfl, hg, hrow, hZ⟩; have HZ := Lib.hid (HY.out.trans (hZ.mono HY.out.size)); have HRW := Lib.hid hrow; have HR4 := Lib.hid ((HR3.out.below hZ).more hZ.size); clear hZ hrow HSp)
  go_ret3
  refine ⟨A3, c3, some ⟨g, 0, none⟩, c4, ?_, ?_, ?_, HZ.out⟩
  · simp only [HL1.out, HL2.out]; rfl
  · simp only [HL1.out]; exact HR4.out
  · exact HRW.out.reads (by simp) HRW.out.lt
end Go.Proofs.Ytdechfjlbdbbnaa
