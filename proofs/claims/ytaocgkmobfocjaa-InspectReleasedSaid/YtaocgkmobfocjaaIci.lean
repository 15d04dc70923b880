/- The walk of InspectReleased. Conditions: arguments that read as data. -/
import Derived.Test.YtaocgkmobfocjaaIcg
import Derived.Test.YtaocgkmobfocjaaIam
namespace Go.Proofs.Ytaocgkmobfocjaa
open Go.RowKit

def WlTo (w : World) (wl : Nat) (e : Ending) (w' : World) : Prop := (∃ A2 c2, e = .returned (.tuple #[.slice A2 wl c2, .int .i64 0])) ∧ Below w.heap.size w w'
/-- No accident, or where one is. -/
def LaI (u : List EntZ) (n : Nat) (la : Int) : Prop := la = -1 ∨ ∃ j : Nat, la = (j : Int) ∧ j < u.length ∧ (u.getD j default).kind = 6 ∧ (u.getD j default).a = (n : Int)
theorem LaI.low {u : List EntZ} {n : Nat} {la : Int} (h : LaI u n la) : -1 ≤ la ∧ la < (u.length : Int) := by
  rcases h with h | ⟨j, h1, h2, -⟩ <;> omega
theorem LaI.less {u : List EntZ} {n : Nat} {la : Int} (h : LaI u n la) {i : Nat} (hk : (u.getD i default).kind ≠ 6) (hno : ∀ j, i < j → j < u.length → ¬ ((u.getD j default).kind = 6 ∧ (u.getD j default).a = (n : Int))) : la < (i : Int) := by
  rcases h with h | ⟨j, h1, h2, h3, h4⟩
  · omega
  · rcases Nat.lt_trichotomy i j with q | q | q
    · exact absurd ⟨h3, h4⟩ (hno j q h2)
    · rw [q] at hk; exact absurd h3 hk
    · omega
set_option maxRecDepth 100000 in
set_option maxHeartbeats 4000000 in
theorem released_walk {w : World} (k : BookZ) (R : BkR) (hk : BkIn w w.heap.size k R) (l : List EntZ) (A : Option Addr) (c : Nat) (hr : Reads w w.heap.size 5 A l.length (entCells l)) (hl : l.length ≤ maxLen) (hlc : l.length ≤ c) (day : Int) :
    Calls Try.prog 9 #[bookV k R, .slice A l.length c, .int .i64 day] w (TrueI w) := by
  obtain ⟨W, hW⟩ : ∃ W, W = w.alloc (.cells #[.slice R.A1 k.rules.length R.c1, .slice R.A2 k.ranks.length R.c2, .slice R.A3 k.insured.length R.c3] 25) := ⟨_, rfl⟩
  have bW : Below w.heap.size w W := by subst hW; exact (Below.refl _ _).alloc (Nat.le_refl _) _
  have r0 : Row W w.heap.size 25 [.slice R.A1 k.rules.length R.c1, .slice R.A2 k.ranks.length R.c2, .slice R.A3 k.insured.length R.c3] := by subst hW; exact Row.new w _ _
  obtain ⟨zb, hzb⟩ : ∃ z, z = w.heap.size := ⟨_, rfl⟩
  rw [← hzb] at r0
  have gW0 : W.cell? ⟨zb, 0, none⟩ = some (.slice R.A1 k.rules.length R.c1) := r0.cell (j := 0) (by simp)
  have gW1 : W.cell? ⟨zb, 1, none⟩ = some (.slice R.A2 k.ranks.length R.c2) := r0.cell (j := 1) (by simp)
  have gW2 : W.cell? ⟨zb, 2, none⟩ = some (.slice R.A3 k.insured.length R.c3) := r0.cell (j := 2) (by simp)
  have lW := r0.lt
  have HBW := Lib.hid bW
  have HGW := Lib.hid r0
  have HW : Hid (∀ X, Below w.heap.size w X → Calls Try.prog 17 #[] X fun e w' => e = .returned (.bool true) ∧ Below w.heap.size w w') := fun X hX => (works_any X).mono fun e w' h => ⟨h.1, hX.trans (h.2.mono hX.size)⟩
  have HL := Lib.hid (long_any A l.length c W)
  have H3 : Hid (∀ X, Below w.heap.size w X → Calls Try.prog 25 #[bookV k R, .slice A l.length c, .int .i64 day] X (LsTo X (onE k l day) (lsE (onE k l day) (relS k (upL l day) day)))) := fun X hX => Released_any k R l A c w.heap.size day X hX.size hl hlc (hr.below hX) (hk.below hX)
  have H4 : Hid (∀ X, Below w.heap.size w X → Calls Try.prog 23 #[bookV k R, .slice A l.length c, .int .i64 day] X (LsTo X (onE k l day) (lsE (onE k l day) (openL (upL l day))))) := fun X hX => Open_any k R l A c w.heap.size day X hX.size hl hlc (hr.below hX) (hk.below hX)
  have HUp : Hid (∀ (X : World), Below w.heap.size w X → Calls Try.prog 40 #[.slice A l.length c, .int .i64 day] X fun e w' => e = .returned (.slice A (upL l day).length c) ∧ w' = X) := fun X hX => rUpto_any l A c w.heap.size day X hX.size hl hlc (hr.below hX)
  have HWy : Hid (onE k l day = 0 → ∀ n : Nat, n < k.insured.length → ∀ X, Below w.heap.size w X → Calls Try.prog 27 #[bookV k R, .slice A l.length c, .int .i64 (n : Int), .int .i64 day] X (WlTo X (whyS k (upL l day) n day).length)) := fun h0 n hn X hX => by
    have h := Why_any k R l A c w.heap.size (n : Int) day X hX.size hl hlc (hr.below hX) (hk.below hX)
    have hok := onE_ok h0
    rw [rideE_in hok.1 hok.2 ⟨by omega, by omega⟩] at h
    exact h.mono fun e w' ⟨h1, A2, c2, h2, _⟩ => ⟨⟨A2, c2, h2⟩, h1⟩
  have HEt : Hid (∀ (i : Nat) (hi : i < (upL l day).length) (X : World), Below w.heap.size w X → ∃ b o, A = some ⟨b, o, none⟩ ∧ b < X.heap.size ∧ X.cell? ⟨b, o + i * 5, none⟩ = some (.int .i64 (upL l day)[i].day) ∧ X.cell? ⟨b, o + i * 5 + 1, none⟩ = some (.int .i64 (upL l day)[i].kind) ∧ X.cell? ⟨b, o + i * 5 + 2, none⟩ = some (.int .i64 (upL l day)[i].a) ∧ X.cell? ⟨b, o + i * 5 + 3, none⟩ = some (.int .i64 (upL l day)[i].b) ∧ X.cell? ⟨b, o + i * 5 + 4, none⟩ = some (.int .i64 (upL l day)[i].c)) := fun i hi X hX => (ent_cells (ents_take hr (upN_le l day))).out i hi X hX hX.size
  have HRr : Hid (∀ (i : Nat) (hi : i < k.rules.length) (X : World), Below w.heap.size w X → ∃ b o, R.A1 = some ⟨b, o, none⟩ ∧ b < X.heap.size ∧ X.cell? ⟨b, o + i * 4, none⟩ = some (.int .i64 k.rules[i].ride) ∧ X.cell? ⟨b, o + i * 4 + 1, none⟩ = some (.int .i64 k.rules[i].every)) := fun i hi X hX => by
    obtain ⟨b, o, h1, h2, h3, h4, -, -⟩ := ru_at (hk.rules.below hX) hi
    exact ⟨b, o, h1, by have := hX.size; omega, h3, h4⟩
  have HOk := Lib.hid (fun h => onE_ok (k := k) (l := l) (day := day) h)
  have hul := upL_len (l := l) (day := day)
  have HUo : Hid (LogOk k l → LogOk k (upL l day)) := fun h => h.up day
  have hl1 := hk.l1
  have hl3 := hk.l3
  unfold maxLen at hl1 hl3
  have HLE : Hid (∀ E (L : List Int), E = 0 → lsE E L = L) := fun E L h => if_pos h
  generalize onE k l day = E at H3 H4 HWy HOk
  generalize upL l day = u at H3 H4 HUp HWy HEt hul HUo
  generalize (decide (30 < l.length) && decide (l.length ≤ 100)) = lg at HL
  unfold bookV at *
  clear bW r0 hk hr hl hlc
  go_enter Try.func9, Try.ntmps9
  go_upto_region 1 with fail
  rw [← hW, ← hzb]
  clear hW hzb
  cases lg with
  | true =>
    go_wp2_with (first | (go_at_call 16; refine HL.out.mono ?_; rintro e w' ⟨rfl, hw⟩; rw [hw]; clear hw) | (go_at_call 17; refine (HW.out _ HBW.out).mono ?_; rintro e w' ⟨rfl, hb⟩; have BW := Lib.hid hb; clear hb))
    go_ret
    exact ⟨rfl, BW.out⟩
  | false =>
    go_upto_region 3 with (go_at_call 16; refine HL.out.mono ?_; rintro e w' ⟨rfl, hw⟩; rw [hw]; clear hw)
    clear HL
    go_upto_region 4 with (go_at_call 25; refine (H3.out W HBW.out).mono ?_; rintro e X1 ⟨hX1, Aa, ca, rfl, hra⟩)
    have HBX1 := Lib.hid (HBW.out.trans (hX1.mono HBW.out.size))
    have sX1 := HGW.out.below hX1 HGW.out.lt
    have gX10 : X1.cell? ⟨zb, 0, none⟩ = some (.slice R.A1 k.rules.length R.c1) := sX1.cell (j := 0) (by simp)
    have gX11 : X1.cell? ⟨zb, 1, none⟩ = some (.slice R.A2 k.ranks.length R.c2) := sX1.cell (j := 1) (by simp)
    have gX12 : X1.cell? ⟨zb, 2, none⟩ = some (.slice R.A3 k.insured.length R.c3) := sX1.cell (j := 2) (by simp)
    have lX1 := sX1.lt
    have HGX1 := Lib.hid sX1
    have HRa := Lib.hid hra
    clear hX1 hra sX1 gW0 gW1 gW2 lW
    go_upto_region 5 with (go_at_call 23; refine (H4.out X1 HBX1.out).mono ?_; rintro e X2 ⟨hX2, Ab, cb, rfl, hrb⟩)
    have HBX2 := Lib.hid (HBX1.out.trans (hX2.mono HBX1.out.size))
    have sX2 := HGX1.out.below hX2 HGX1.out.lt
    have gX20 : X2.cell? ⟨zb, 0, none⟩ = some (.slice R.A1 k.rules.length R.c1) := sX2.cell (j := 0) (by simp)
    have gX21 : X2.cell? ⟨zb, 1, none⟩ = some (.slice R.A2 k.ranks.length R.c2) := sX2.cell (j := 1) (by simp)
    have gX22 : X2.cell? ⟨zb, 2, none⟩ = some (.slice R.A3 k.insured.length R.c3) := sX2.cell (j := 2) (by simp)
    have lX2 := sX2.lt
    have HGX2 := Lib.hid sX2
    have HRb := Lib.hid hrb
    have HRa_X2 := Lib.hid ((HRa.out.below hX2).more hX2.size)
    clear HRa
    have HRa := HRa_X2
    clear HRa_X2
    clear hX2 hrb sX2 gX10 gX11 gX12 lX1
    clear H3 H4
    by_cases h0 : E = 0
    · have hok := HOk.out h0
      have HOu := Lib.hid (HUo.out hok.1)
      have hlen := HOu.out.len
      have hday := hok.2
      have HWn := Lib.hid (HWy.out h0)
      rw [HLE.out E _ h0] at HRa HRb
      rw [HLE.out E _ h0, HLE.out E _ h0, h0]
      clear HOk HUo HWy HLE hok h0
      have HUx := Lib.hid (HUp.out X2 HBX2.out)
      clear HUp
      go_upto_region 8 with (go_at_call 40; with_reducible refine HUx.out.mono ?_; rintro e w' ⟨rfl, hw⟩; rw [hw]; clear hw)
      clear HUx
      go_upto_region 9 with fail
      clear gX20 gX21 gX22 lX2
      go_loopw [12] (fun q wr => ∃ n : Nat, n ≤ k.insured.length ∧ q = .int .i64 n ∧ Below X2.heap.size X2 wr) (fun q _ => k.insured.length - (intOf q).toNat)
      case atStart => exact ⟨0, Nat.zero_le _, rfl, Below.refl _ _⟩
      case round =>
        as_aux_lemma =>
          obtain ⟨n, hn, rfl, hbel⟩ := hrel
          have HBL := Lib.hid hbel
          have HBr := Lib.hid (HBX2.out.trans (hbel.mono HBX2.out.size))
          have HGr := Lib.hid (HGX2.out.below hbel HGX2.out.lt)
          have HRc := Lib.hid ((HRa.out.below hbel).more hbel.size)
          clear hbel
          have sG := HGr.out
          have g0 : wr.cell? ⟨zb, 0, none⟩ = some (.slice R.A1 k.rules.length R.c1) := sG.cell (j := 0) (by simp)
          have g1 : wr.cell? ⟨zb, 1, none⟩ = some (.slice R.A2 k.ranks.length R.c2) := sG.cell (j := 1) (by simp)
          have g2 : wr.cell? ⟨zb, 2, none⟩ = some (.slice R.A3 k.insured.length R.c3) := sG.cell (j := 2) (by simp)
          have lG := sG.lt
          clear sG
          by_cases hlt : n < k.insured.length
          · have n1 : (n : Int) < (k.insured.length : Int) := by omega
            have en : IntKind.i64.wrap ((n : Int) + 1) = (n : Int) + 1 := IntWalk.i64_in _ (by omega)
            have HWx := Lib.hid (HWn.out n hlt wr HBr.out)
            go_upto_region 12 with (go_at_call 27; refine HWx.out.mono ?_; rintro e Y ⟨⟨Aw, cw, rfl⟩, hY⟩)
            have HBY := Lib.hid (HBr.out.trans (hY.mono HBr.out.size))
            have HBLY := Lib.hid (HBL.out.trans (hY.mono HBL.out.size))
            have HGY := Lib.hid (HGr.out.below hY HGr.out.lt)
            have hhas := has_any (relS k u day) Aa ca (n : Int) Y (Nat.le_trans (numsL_len _ _) (by unfold maxLen; omega)) ((HRc.out.below hY).more hY.size)
            have hiff : ((n : Int) ∈ relS k u day) ↔ (whyS k u n day).length = 0 := by
              unfold relS
              rw [numsL_mem]
              constructor
              · rintro ⟨i, hi, hp, he⟩
                obtain rfl : n = i := by omega
                exact of_decide_eq_true hp
              · intro h; exact ⟨n, hlt, decide_eq_true h, rfl⟩
            clear hY HWx g0 g1 g2 lG
            by_cases hz : (whyS k u n day).length = 0
            · have HZ := Lib.hid hz
              rw [decide_eq_true (hiff.2 hz)] at hhas
              have HH := Lib.hid hhas
              rw [hz]
              clear hhas hiff hz
              go_upto_region 17 with (go_at_call 41; with_reducible refine HH.out.mono ?_; rintro e w' ⟨rfl, hw⟩; rw [hw]; clear hw)
              have ht := rel_tested HZ.out
              obtain ⟨i0, hi0, hk0, ha0, hd0, hno0⟩ := ht
              have HK0 := Lib.hid hk0
              have HA0 := Lib.hid ha0
              have HD0 := Lib.hid hd0
              have HNo := Lib.hid hno0
              clear hk0 ha0 hd0 hno0 HH
              go_loopw [15, 16] (fun v q wz => ∃ m : Nat, m ≤ u.length ∧ q = .int .i64 m ∧ (∃ la : Int, v = .int .i64 la ∧ Hid (LaI u n la)) ∧ wz = Y) (fun _ q _ => u.length - (intOf q).toNat)
              case atStart => exact ⟨0, Nat.zero_le _, rfl, ⟨-1, rfl, .inl rfl⟩, rfl⟩
              case round =>
                as_aux_lemma =>
                  obtain ⟨m, hm, rfl, ⟨la, rfl, hla⟩, rfl⟩ := hrel
                  by_cases hml : m < u.length
                  · have m1 : (m : Int) < (u.length : Int) := by omega
                    have m0 : ¬ (m : Int) < 0 := by omega
                    have em : IntKind.i64.wrap ((m : Int) + 1) = (m : Int) + 1 := IntWalk.i64_in _ (by omega)
                    obtain ⟨b, o, hA, lb, x0, x1, x2, x3, x4⟩ := HEt.out m hml wr HBY.out
                    have HX := Lib.hid (ent_getD hml)
                    generalize u[m] = x at x0 x1 x2 x3 x4 HX
                    subst hA
                    by_cases h6 : x.kind = 6
                    · have H6 := Lib.hid h6
                      rw [h6] at x1
                      clear h6
                      by_cases ha : x.a = (n : Int)
                      · have HLa : Hid (LaI u n (m : Int)) := .inr ⟨m, rfl, hml, by rw [HX.out]; exact H6.out, by rw [HX.out]; exact ha⟩
                        rw [ha] at x2
                        clear ha
                        go_wp2_with fail
                        go_roundw
                        case rel => exact ⟨m + 1, by omega, by go_num, ⟨m, rfl, HLa⟩, (by first | rfl | trivial)⟩
                        case measure => simp [intOf]; omega
                      · have a1 : decide (x.a = (n : Int)) = false := decide_eq_false ha
                        have a2 : (x.a == (n : Int)) = false := by simpa using ha
                        clear ha
                        go_wp2_with fail
                        go_roundw
                        case rel => exact ⟨m + 1, by omega, by go_num, ⟨la, rfl, hla⟩, (by first | rfl | trivial)⟩
                        case measure => simp [intOf]; omega
                    · have a1 : decide (x.kind = 6) = false := decide_eq_false h6
                      have a2 : (x.kind == 6) = false := by simpa using h6
                      clear h6
                      go_wp2_with fail
                      go_roundw
                      case rel => exact ⟨m + 1, by omega, by go_num, ⟨la, rfl, hla⟩, (by first | rfl | trivial)⟩
                      case measure => simp [intOf]; omega
                  · have m1 : ¬ (m : Int) < (u.length : Int) := by omega
                    have hlow := hla.out.low
                    have hless := hla.out.less (i := i0) (by rw [HK0.out]; decide) HNo.out
                    have ela : IntKind.i64.wrap (la + 1) = la + 1 := IntWalk.i64_in _ (by omega)
                    clear hml hm
                    go_upto_region 23 with fail
                    clear m1
                    go_loopw [17, 18] (fun v q wz => ∃ (m : Nat) (tb : Bool), m ≤ u.length ∧ q = .int .i64 m ∧ v = .bool tb ∧ Hid (i0 < m → tb = true) ∧ wz = wr) (fun _ q _ => u.length - (intOf q).toNat)
                    case atStart => exact ⟨(la + 1).toNat, false, by omega, int_eqI (by omega), rfl, fun h => by omega, rfl⟩
                    case round =>
                      as_aux_lemma =>
                        obtain ⟨m, tb, hm, rfl, rfl, htb, rfl⟩ := hrel
                        by_cases hml : m < u.length
                        · have m1 : (m : Int) < (u.length : Int) := by omega
                          have m0 : ¬ (m : Int) < 0 := by omega
                          have em : IntKind.i64.wrap ((m : Int) + 1) = (m : Int) + 1 := IntWalk.i64_in _ (by omega)
                          obtain ⟨b, o, hA, lb, x0, x1, x2, x3, x4⟩ := HEt.out m hml wr HBY.out
                          have HX := Lib.hid (ent_getD hml)
                          generalize u[m] = x at x0 x1 x2 x3 x4 HX
                          subst hA
                          clear ela
                          cases tb with
                          | true =>
                            go_wp2_with fail
                            go_roundw
                            case rel => exact ⟨m + 1, true, by omega, by go_num, rfl, fun _ => rfl, (by first | rfl | trivial)⟩
                            case measure => simp [intOf]; omega
                          | false =>
                            have hmi : m ≤ i0 := by
                              rcases Nat.lt_or_ge i0 m with q | q
                              · exact absurd (htb.out q) (by decide)
                              · exact q
                            by_cases h4 : x.kind = 4
                            · rw [h4] at x1
                              clear h4
                              by_cases ha : x.a = (n : Int)
                              · have HT : Hid (i0 < m + 1 → decide (x.day = day) = true) := fun h => by
                                  obtain rfl : m = i0 := by omega
                                  rw [← HX.out]; exact decide_eq_true HD0.out
                                rw [ha] at x2
                                clear ha
                                go_wp2_with fail
                                go_roundw
                                case rel => exact ⟨m + 1, _, by omega, by go_num, rfl, HT, (by first | rfl | trivial)⟩
                                case measure => simp [intOf]; omega
                              · have HT : Hid (i0 < m + 1 → false = true) := fun h => by
                                  obtain rfl : m = i0 := by omega
                                  exact absurd (by rw [← HX.out]; exact HA0.out) ha
                                have a1 : decide (x.a = (n : Int)) = false := decide_eq_false ha
                                have a2 : (x.a == (n : Int)) = false := by simpa using ha
                                clear ha
                                go_wp2_with fail
                                go_roundw
                                case rel => exact ⟨m + 1, false, by omega, by go_num, rfl, HT, (by first | rfl | trivial)⟩
                                case measure => simp [intOf]; omega
                            · have HT : Hid (i0 < m + 1 → false = true) := fun h => by
                                obtain rfl : m = i0 := by omega
                                exact absurd (by rw [← HX.out]; exact HK0.out) h4
                              have a1 : decide (x.kind = 4) = false := decide_eq_false h4
                              have a2 : (x.kind == 4) = false := by simpa using h4
                              clear h4
                              go_wp2_with fail
                              go_roundw
                              case rel => exact ⟨m + 1, false, by omega, by go_num, rfl, HT, (by first | rfl | trivial)⟩
                              case measure => simp [intOf]; omega
                        · have m1 : ¬ (m : Int) < (u.length : Int) := by omega
                          obtain rfl : tb = true := htb.out (by omega)
                          clear hml hm htb
                          go_upto_region 29 with fail
                          go_loopw [19] (fun q wz => ∃ r : Nat, r ≤ k.rules.length ∧ q = .int .i64 r ∧ Below X2.heap.size X2 wz) (fun q _ => k.rules.length - (intOf q).toNat)
                          case atStart => exact ⟨0, Nat.zero_le _, rfl, HBLY.out⟩
                          case round =>
                            as_aux_lemma =>
                              clear HBY HBLY HGY
                              obtain ⟨r, hrn, rfl, hbel⟩ := hrel
                              have HL4 := Lib.hid hbel
                              have HB4 := Lib.hid (HBX2.out.trans (hbel.mono HBX2.out.size))
                              have HG4 := Lib.hid (HGX2.out.below hbel HGX2.out.lt)
                              clear hbel
                              have sG := HG4.out
                              have g0 : wr.cell? ⟨zb, 0, none⟩ = some (.slice R.A1 k.rules.length R.c1) := sG.cell (j := 0) (by simp)
                              have g1 : wr.cell? ⟨zb, 1, none⟩ = some (.slice R.A2 k.ranks.length R.c2) := sG.cell (j := 1) (by simp)
                              have g2 : wr.cell? ⟨zb, 2, none⟩ = some (.slice R.A3 k.insured.length R.c3) := sG.cell (j := 2) (by simp)
                              have lG := sG.lt
                              clear sG
                              by_cases hrl : r < k.rules.length
                              · have r1 : (r : Int) < (k.rules.length : Int) := by omega
                                have r0 : ¬ (r : Int) < 0 := by omega
                                have er : IntKind.i64.wrap ((r : Int) + 1) = (r : Int) + 1 := IntWalk.i64_in _ (by omega)
                                obtain ⟨br, or, hR, lr, y0, y1⟩ := HRr.out r hrl wr HB4.out
                                have hck := Lib.hid (rel_checked HOu.out hday.1 HZ.out hrl)
                                rw [rules_at hrl] at hck
                                have HRv := Lib.hid (HRr.out r hrl)
                                generalize k.rules[r] = v at y0 y1 hck HRv
                                rw [hR] at g0
                                clear hR
                                by_cases hv : v.ride = (n : Int)
                                · obtain ⟨j0, hj0, hjk, hja, hjd, hjn⟩ := hck.out hv
                                  have hless2 := hla.out.less (i := j0) (by rw [hjk]; decide) hjn
                                  have HJK := Lib.hid hjk
                                  have HJA := Lib.hid hja
                                  have HJD := Lib.hid hjd
                                  rw [hv] at y0
                                  clear hv hjk hja hjd hjn hck
                                  go_upto_region 33 with fail
                                  clear g0 g1 g2 lG y0 y1 lr
                                  go_loopw [20, 21] (fun v q wz => ∃ (m : Nat) (cb : Bool), m ≤ u.length ∧ q = .int .i64 m ∧ v = .bool cb ∧ Hid (j0 < m → cb = true) ∧ Below X2.heap.size X2 wz) (fun _ q _ => u.length - (intOf q).toNat)
                                  case atStart => exact ⟨(la + 1).toNat, false, by omega, int_eqI (by omega), rfl, fun h => by omega, HL4.out⟩
                                  case round =>
                                    as_aux_lemma =>
                                      clear HL4 HB4 HG4
                                      obtain ⟨m, cb, hm, rfl, rfl, hcb, hbel⟩ := hrel
                                      have HL4 := Lib.hid hbel
                                      have HB4 := Lib.hid (HBX2.out.trans (hbel.mono HBX2.out.size))
                                      have HG4 := Lib.hid (HGX2.out.below hbel HGX2.out.lt)
                                      clear hbel
                                      by_cases hml : m < u.length
                                      · have m1 : (m : Int) < (u.length : Int) := by omega
                                        have m0 : ¬ (m : Int) < 0 := by omega
                                        have em : IntKind.i64.wrap ((m : Int) + 1) = (m : Int) + 1 := IntWalk.i64_in _ (by omega)
                                        obtain ⟨b, o, hA, lb, x0, x1, x2, x3, x4⟩ := HEt.out m hml wr HB4.out
                                        have HX := Lib.hid (ent_getD hml)
                                        have hxd := HOu.out.day (List.getElem_mem hml)
                                        generalize u[m] = x at x0 x1 x2 x3 x4 HX hxd
                                        subst hA
                                        clear ela
                                        have bY := HL4.out.alloc HL4.out.size (.cells #[.int .i64 x.day, .int .i64 x.kind, .int .i64 x.a, .int .i64 x.b, .int .i64 x.c] 54)
                                        have rY := Row.new wr 54 #[.int .i64 x.day, .int .i64 x.kind, .int .i64 x.a, .int .i64 x.b, .int .i64 x.c]
                                        go_upto_region 36 with fail
                                        generalize wr.alloc (.cells #[.int .i64 x.day, .int .i64 x.kind, .int .i64 x.a, .int .i64 x.b, .int .i64 x.c] 54) = Yb at bY rY ⊢
                                        generalize wr.heap.size = ze at rY ⊢
                                        have e0 : Yb.cell? ⟨ze, 0, none⟩ = some (.int .i64 x.day) := rY.cell (j := 0) (by simp)
                                        have e1 : Yb.cell? ⟨ze, 1, none⟩ = some (.int .i64 x.kind) := rY.cell (j := 1) (by simp)
                                        have e2 : Yb.cell? ⟨ze, 2, none⟩ = some (.int .i64 x.a) := rY.cell (j := 2) (by simp)
                                        have lY := rY.lt
                                        have HBYb := Lib.hid bY
                                        have HGb := Lib.hid (HGX2.out.below bY HGX2.out.lt)
                                        have HBb := Lib.hid (HBX2.out.trans (bY.mono HBX2.out.size))
                                        clear bY rY x0 x1 x2 x3 x4 lb
                                        obtain ⟨br, or, hR, lr, y0, y1⟩ := HRv.out Yb HBb.out
                                        have sG := HGb.out
                                        have g0 : Yb.cell? ⟨zb, 0, none⟩ = some (.slice R.A1 k.rules.length R.c1) := sG.cell (j := 0) (by simp)
                                        have g1 : Yb.cell? ⟨zb, 1, none⟩ = some (.slice R.A2 k.ranks.length R.c2) := sG.cell (j := 1) (by simp)
                                        have g2 : Yb.cell? ⟨zb, 2, none⟩ = some (.slice R.A3 k.insured.length R.c3) := sG.cell (j := 2) (by simp)
                                        have lG := sG.lt
                                        clear sG
                                        rw [hR] at g0
                                        clear hR
                                        have ew : IntKind.i64.wrap (day - x.day) = day - x.day := IntWalk.i64_in _ (by omega)
                                        by_cases h1 : x.kind = 1
                                        · have H1 := Lib.hid h1
                                          rw [h1] at e1
                                          clear h1
                                          by_cases ha : x.a = (r : Int)
                                          · have H2 := Lib.hid ha
                                            rw [ha] at e2
                                            clear ha
                                            by_cases hd : day - x.day < v.every
                                            · have c1 : decide (day - x.day < v.every) = true := decide_eq_true hd
                                              have HU : Hid (j0 < (m + 1) → true = true) := fun _ => rfl
                                              go_quiet (fail)
                                              go_wp2_with fail
                                              go_roundw
                                              case rel => exact ⟨m + 1, true, by omega, by go_num, rfl, HU, below_drewN HBYb.out _⟩
                                              case measure => simp [intOf]; omega
                                            · have c1 : decide (day - x.day < v.every) = false := decide_eq_false hd
                                              have HU : Hid (j0 < (m + 1) → cb = true) := (fun h => by
                                                rcases Nat.lt_or_ge j0 m with q | q
                                                · exact hcb.out q
                                                · obtain rfl : m = j0 := by omega
                                                  exact absurd (by rw [← HX.out]; exact HJD.out) hd)
                                              clear hd
                                              go_quiet (fail)
                                              go_wp2_with fail
                                              go_roundw
                                              case rel => exact ⟨m + 1, cb, by omega, by go_num, rfl, HU, below_drewN HBYb.out _⟩
                                              case measure => simp [intOf]; omega
                                          · have a1 : decide (x.a = (r : Int)) = false := decide_eq_false ha
                                            have a2 : (x.a == (r : Int)) = false := by simpa using ha
                                            have HU : Hid (j0 < (m + 1) → cb = true) := (fun h => by
                                              rcases Nat.lt_or_ge j0 m with q | q
                                              · exact hcb.out q
                                              · obtain rfl : m = j0 := by omega
                                                exact absurd (by rw [← HX.out]; exact HJA.out) ha)
                                            clear ha
                                            go_quiet (fail)
                                            go_wp2_with fail
                                            go_roundw
                                            case rel => exact ⟨m + 1, cb, by omega, by go_num, rfl, HU, below_drewN HBYb.out _⟩
                                            case measure => simp [intOf]; omega
                                        · have a1 : decide (x.kind = 1) = false := decide_eq_false h1
                                          have a2 : (x.kind == 1) = false := by simpa using h1
                                          have HU : Hid (j0 < (m + 1) → cb = true) := (fun h => by
                                            rcases Nat.lt_or_ge j0 m with q | q
                                            · exact hcb.out q
                                            · obtain rfl : m = j0 := by omega
                                              exact absurd (by rw [← HX.out]; exact HJK.out) h1)
                                          clear h1
                                          go_quiet (fail)
                                          go_wp2_with fail
                                          go_roundw
                                          case rel => exact ⟨m + 1, cb, by omega, by go_num, rfl, HU, below_drewN HBYb.out _⟩
                                          case measure => simp [intOf]; omega
                                      · have m1 : ¬ (m : Int) < (u.length : Int) := by omega
                                        obtain rfl : cb = true := hcb.out (by omega)
                                        clear hml hm hcb
                                        go_wp2_with fail
                                        go_roundw
                                        case rel => exact ⟨r + 1, by omega, by go_num, HL4.out⟩
                                        case measure => simp [intOf]; omega
                                · have v1 : decide (v.ride = (n : Int)) = false := decide_eq_false hv
                                  have v2 : (v.ride == (n : Int)) = false := by simpa using hv
                                  have v3 : (v.ride != (n : Int)) = true := by simpa using hv
                                  clear hv hck
                                  go_upto_region 33 with fail
                                  clear g0 g1 g2 lG y0 y1 lr
                                  go_loopw [20, 21] (fun v q wz => ∃ (m : Nat) (cb : Bool), m ≤ u.length ∧ q = .int .i64 m ∧ v = .bool cb ∧ Hid (True → cb = true) ∧ Below X2.heap.size X2 wz) (fun _ q _ => u.length - (intOf q).toNat)
                                  case atStart => exact ⟨(la + 1).toNat, true, by omega, int_eqI (by omega), rfl, fun _ => rfl, HL4.out⟩
                                  case round =>
                                    as_aux_lemma =>
                                      clear HL4 HB4 HG4
                                      obtain ⟨m, cb, hm, rfl, rfl, hcb, hbel⟩ := hrel
                                      have HL4 := Lib.hid hbel
                                      have HB4 := Lib.hid (HBX2.out.trans (hbel.mono HBX2.out.size))
                                      have HG4 := Lib.hid (HGX2.out.below hbel HGX2.out.lt)
                                      clear hbel
                                      by_cases hml : m < u.length
                                      · have m1 : (m : Int) < (u.length : Int) := by omega
                                        have m0 : ¬ (m : Int) < 0 := by omega
                                        have em : IntKind.i64.wrap ((m : Int) + 1) = (m : Int) + 1 := IntWalk.i64_in _ (by omega)
                                        obtain ⟨b, o, hA, lb, x0, x1, x2, x3, x4⟩ := HEt.out m hml wr HB4.out
                                        have HX := Lib.hid (ent_getD hml)
                                        have hxd := HOu.out.day (List.getElem_mem hml)
                                        generalize u[m] = x at x0 x1 x2 x3 x4 HX hxd
                                        subst hA
                                        clear ela
                                        have bY := HL4.out.alloc HL4.out.size (.cells #[.int .i64 x.day, .int .i64 x.kind, .int .i64 x.a, .int .i64 x.b, .int .i64 x.c] 54)
                                        have rY := Row.new wr 54 #[.int .i64 x.day, .int .i64 x.kind, .int .i64 x.a, .int .i64 x.b, .int .i64 x.c]
                                        go_upto_region 36 with fail
                                        generalize wr.alloc (.cells #[.int .i64 x.day, .int .i64 x.kind, .int .i64 x.a, .int .i64 x.b, .int .i64 x.c] 54) = Yb at bY rY ⊢
                                        generalize wr.heap.size = ze at rY ⊢
                                        have e0 : Yb.cell? ⟨ze, 0, none⟩ = some (.int .i64 x.day) := rY.cell (j := 0) (by simp)
                                        have e1 : Yb.cell? ⟨ze, 1, none⟩ = some (.int .i64 x.kind) := rY.cell (j := 1) (by simp)
                                        have e2 : Yb.cell? ⟨ze, 2, none⟩ = some (.int .i64 x.a) := rY.cell (j := 2) (by simp)
                                        have lY := rY.lt
                                        have HBYb := Lib.hid bY
                                        have HGb := Lib.hid (HGX2.out.below bY HGX2.out.lt)
                                        have HBb := Lib.hid (HBX2.out.trans (bY.mono HBX2.out.size))
                                        clear bY rY x0 x1 x2 x3 x4 lb
                                        obtain ⟨br, or, hR, lr, y0, y1⟩ := HRv.out Yb HBb.out
                                        have sG := HGb.out
                                        have g0 : Yb.cell? ⟨zb, 0, none⟩ = some (.slice R.A1 k.rules.length R.c1) := sG.cell (j := 0) (by simp)
                                        have g1 : Yb.cell? ⟨zb, 1, none⟩ = some (.slice R.A2 k.ranks.length R.c2) := sG.cell (j := 1) (by simp)
                                        have g2 : Yb.cell? ⟨zb, 2, none⟩ = some (.slice R.A3 k.insured.length R.c3) := sG.cell (j := 2) (by simp)
                                        have lG := sG.lt
                                        clear sG
                                        rw [hR] at g0
                                        clear hR
                                        have ew : IntKind.i64.wrap (day - x.day) = day - x.day := IntWalk.i64_in _ (by omega)
                                        by_cases h1 : x.kind = 1
                                        · have H1 := Lib.hid h1
                                          rw [h1] at e1
                                          clear h1
                                          by_cases ha : x.a = (r : Int)
                                          · have H2 := Lib.hid ha
                                            rw [ha] at e2
                                            clear ha
                                            by_cases hd : day - x.day < v.every
                                            · have c1 : decide (day - x.day < v.every) = true := decide_eq_true hd
                                              have HU : Hid (True → true = true) := fun _ => rfl
                                              go_quiet (fail)
                                              go_wp2_with fail
                                              go_roundw
                                              case rel => exact ⟨m + 1, true, by omega, by go_num, rfl, HU, below_drewN HBYb.out _⟩
                                              case measure => simp [intOf]; omega
                                            · have c1 : decide (day - x.day < v.every) = false := decide_eq_false hd
                                              have HU : Hid (True → cb = true) := (fun _ => hcb.out trivial)
                                              clear hd
                                              go_quiet (fail)
                                              go_wp2_with fail
                                              go_roundw
                                              case rel => exact ⟨m + 1, cb, by omega, by go_num, rfl, HU, below_drewN HBYb.out _⟩
                                              case measure => simp [intOf]; omega
                                          · have a1 : decide (x.a = (r : Int)) = false := decide_eq_false ha
                                            have a2 : (x.a == (r : Int)) = false := by simpa using ha
                                            have HU : Hid (True → cb = true) := (fun _ => hcb.out trivial)
                                            clear ha
                                            go_quiet (fail)
                                            go_wp2_with fail
                                            go_roundw
                                            case rel => exact ⟨m + 1, cb, by omega, by go_num, rfl, HU, below_drewN HBYb.out _⟩
                                            case measure => simp [intOf]; omega
                                        · have a1 : decide (x.kind = 1) = false := decide_eq_false h1
                                          have a2 : (x.kind == 1) = false := by simpa using h1
                                          have HU : Hid (True → cb = true) := (fun _ => hcb.out trivial)
                                          clear h1
                                          go_quiet (fail)
                                          go_wp2_with fail
                                          go_roundw
                                          case rel => exact ⟨m + 1, cb, by omega, by go_num, rfl, HU, below_drewN HBYb.out _⟩
                                          case measure => simp [intOf]; omega
                                      · have m1 : ¬ (m : Int) < (u.length : Int) := by omega
                                        obtain rfl : cb = true := hcb.out trivial
                                        clear hml hm hcb
                                        go_wp2_with fail
                                        go_roundw
                                        case rel => exact ⟨r + 1, by omega, by go_num, HL4.out⟩
                                        case measure => simp [intOf]; omega
                              · have r1 : ¬ (r : Int) < (k.rules.length : Int) := by omega
                                clear hrl hrn ela
                                go_upto_region 41 with fail
                                clear r1 g0 g1 g2 lG
                                go_loopw [23] (fun q wz => ∃ i : Nat, i ≤ (openL u).length ∧ q = .int .i64 i ∧ Below X2.heap.size X2 wz) (fun q _ => (openL u).length - (intOf q).toNat)
                                case atStart => exact ⟨0, Nat.zero_le _, rfl, HL4.out⟩
                                case round =>
                                  as_aux_lemma =>
                                    clear HL4 HB4 HG4
                                    obtain ⟨i, hin, rfl, hbel⟩ := hrel
                                    have HL4 := Lib.hid hbel
                                    have HB4 := Lib.hid (HBX2.out.trans (hbel.mono HBX2.out.size))
                                    have HOp := Lib.hid (HRb.out.below hbel)
                                    clear hbel
                                    have hol : (openL u).length ≤ u.length := numsL_len _ _
                                    by_cases hil : i < (openL u).length
                                    · have i1 : (i : Int) < ((openL u).length : Int) := by omega
                                      have i0' : ¬ (i : Int) < 0 := by omega
                                      have ei : IntKind.i64.wrap ((i : Int) + 1) = (i : Int) + 1 := IntWalk.i64_in _ (by omega)
                                      obtain ⟨bo, oo, hAo, lo, hco⟩ := HOp.out.2 (by omega)
                                      have z0 := hco i _ (show ((openL u).map (Value.int .i64))[i]? = some (.int .i64 (openL u)[i]) by rw [List.getElem?_map, List.getElem?_eq_getElem hil]; rfl)
                                      have lo2 : bo < wr.heap.size := by have := HL4.out.size; omega
                                      have hmem := List.getElem_mem hil
                                      generalize (openL u)[i] = z at z0 hmem
                                      unfold openL at hmem
                                      rw [numsL_mem] at hmem
                                      obtain ⟨iz, hz1, hz2, rfl⟩ := hmem
                                      have hop := rel_open HZ.out hz2
                                      obtain ⟨b, o, hA, lb, x0, x1, x2, x3, x4⟩ := HEt.out iz hz1 wr HB4.out
                                      rw [ent_getD hz1] at hop
                                      generalize u[iz] = x at x0 x1 x2 x3 x4 hop
                                      have z1 : ¬ (iz : Int) < 0 := by omega
                                      have z2 : ¬ (u.length : Int) ≤ (iz : Int) := by omega
                                      have z3 : (iz : Int) < (u.length : Int) := by omega
                                      subst hAo
                                      subst hA
                                      rw [hop.2.1] at x1
                                      have hnb := hop.2.2
                                      clear hop hco hz2 lo
                                      by_cases ha : x.a = (n : Int)
                                      · have hb3 : ¬ x.b = 3 := fun h => hnb ⟨ha, h⟩
                                        have b1 : decide (x.b = 3) = false := decide_eq_false hb3
                                        have b2 : (x.b == 3) = false := by simpa using hb3
                                        rw [ha] at x2
                                        clear ha hnb hb3
                                        go_wp2_with fail
                                        go_roundw
                                        case rel => exact ⟨i + 1, by omega, by go_num, HL4.out⟩
                                        case measure => simp [intOf]; omega
                                      · have a1 : decide (x.a = (n : Int)) = false := decide_eq_false ha
                                        have a2 : (x.a == (n : Int)) = false := by simpa using ha
                                        clear ha hnb
                                        go_wp2_with fail
                                        go_roundw
                                        case rel => exact ⟨i + 1, by omega, by go_num, HL4.out⟩
                                        case measure => simp [intOf]; omega
                                    · have i1 : ¬ (i : Int) < ((openL u).length : Int) := by omega
                                      clear hil hin
                                      go_wp2_with fail
                                      go_roundw
                                      case rel => exact ⟨n + 1, by omega, by go_num, HL4.out⟩
                                      case measure => simp [intOf]; omega
            · have hz1 : decide ((whyS k u n day).length = 0) = false := decide_eq_false hz
              have hz2 : 0 < (whyS k u n day).length := by omega
              rw [decide_eq_false (fun h => hz (hiff.1 h))] at hhas
              have HH := Lib.hid hhas
              clear hhas hiff
              generalize (whyS k u n day).length = wl at hz hz1 hz2 ⊢
              have hz3 : ((wl : Int) == 0) = false := by simpa using hz
              go_wp2_with (go_at_call 41; with_reducible refine HH.out.mono ?_; rintro e w' ⟨rfl, hw⟩; rw [hw]; clear hw)
              go_roundw
              case rel => exact ⟨n + 1, by omega, by go_num, HBLY.out⟩
              case measure => simp [intOf]; omega
          · have n1 : ¬ (n : Int) < (k.insured.length : Int) := by omega
            clear hlt hn HWn HEt HRr
            go_upto_region 46 with fail
            clear n1 g0 g1 g2 lG
            have hrl2 : (relS k u day).length ≤ k.insured.length := numsL_len _ _
            have HIn : Hid (∀ i (h : i < (relS k u day).length), 0 ≤ (relS k u day)[i] ∧ (relS k u day)[i] < (k.insured.length : Int)) := fun i h => numsL_in h
            have HSt : Hid (∀ i j (hj : j < (relS k u day).length) (hij : i + 1 = j), (relS k u day)[i]'(by omega) < (relS k u day)[j]) := fun i j hj hij => by subst hij; exact numsL_step hj
            go_loopw [24] (fun q wz => ∃ i : Nat, i ≤ (relS k u day).length ∧ q = .int .i64 i ∧ Below X2.heap.size X2 wz) (fun q _ => (relS k u day).length - (intOf q).toNat)
            case atStart => exact ⟨0, Nat.zero_le _, rfl, HBL.out⟩
            case round =>
              as_aux_lemma =>
                clear HBL HBr HGr HRc
                obtain ⟨i, hin, rfl, hbel⟩ := hrel
                have HBL := Lib.hid hbel
                have HBr := Lib.hid (HBX2.out.trans (hbel.mono HBX2.out.size))
                have HG4 := Lib.hid (HGX2.out.below hbel HGX2.out.lt)
                have HOp := Lib.hid (HRa.out.below hbel)
                clear hbel
                have sG := HG4.out
                have g0 : wr.cell? ⟨zb, 0, none⟩ = some (.slice R.A1 k.rules.length R.c1) := sG.cell (j := 0) (by simp)
                have g1 : wr.cell? ⟨zb, 1, none⟩ = some (.slice R.A2 k.ranks.length R.c2) := sG.cell (j := 1) (by simp)
                have g2 : wr.cell? ⟨zb, 2, none⟩ = some (.slice R.A3 k.insured.length R.c3) := sG.cell (j := 2) (by simp)
                have lG := sG.lt
                clear sG
                by_cases hil : i < (relS k u day).length
                · have i1 : (i : Int) < ((relS k u day).length : Int) := by omega
                  have i0' : ¬ (i : Int) < 0 := by omega
                  have ei : IntKind.i64.wrap ((i : Int) + 1) = (i : Int) + 1 := IntWalk.i64_in _ (by omega)
                  obtain ⟨bo, oo, hAo, lo, hco⟩ := HOp.out.2 (by omega)
                  have z0 := hco i _ (show ((relS k u day).map (Value.int .i64))[i]? = some (.int .i64 (relS k u day)[i]) by rw [List.getElem?_map, List.getElem?_eq_getElem hil]; rfl)
                  have lo2 : bo < wr.heap.size := by have := HBL.out.size; omega
                  have hzi := HIn.out i hil
                  by_cases hi0 : i = 0
                  · have z4 : decide (0 < i) = false := decide_eq_false (by omega)
                    generalize (relS k u day)[i] = z at z0 hzi
                    have z1 : decide (z < 0) = false := decide_eq_false (by omega)
                    have z2 : decide ((k.insured.length : Int) ≤ z) = false := decide_eq_false (by omega)
                    subst hAo
                    clear hco lo HIn HSt hi0
                    go_upto_region 48 with fail
                    go_quiet (fail)
                    go_wp2_with fail
                    go_roundw
                    case rel => exact ⟨i + 1, by omega, by go_num, below_drewN HBL.out _⟩
                    case measure => simp [intOf]; omega
                  · obtain ⟨i', hi'⟩ : ∃ i', i' + 1 = i := ⟨i - 1, by omega⟩
                    have hst := HSt.out i' i hil hi'
                    have z5 := hco i' _ (show ((relS k u day).map (Value.int .i64))[i']? = some (.int .i64 ((relS k u day)[i']'(by omega))) by rw [List.getElem?_map, List.getElem?_eq_getElem (by omega)]; rfl)
                    generalize (relS k u day)[i']'(by omega) = y at z5 hst
                    generalize (relS k u day)[i] = z at z0 hzi hst
                    have z1 : decide (z < 0) = false := decide_eq_false (by omega)
                    have z2 : decide ((k.insured.length : Int) ≤ z) = false := decide_eq_false (by omega)
                    have z3 : decide (z ≤ y) = false := decide_eq_false (by omega)
                    have z4 : decide (0 < i) = true := decide_eq_true (by omega)
                    have z6 : IntKind.i64.wrap ((i : Int) - 1) = (i' : Int) := by rw [IntWalk.i64_in _ (by omega)]; omega
                    have z7 : (i' : Int) < ((relS k u day).length : Int) := by omega
                    have z8 : ¬ (i' : Int) < 0 := by omega
                    subst hAo
                    clear hco lo HIn HSt hi' hi0
                    go_upto_region 48 with fail
                    go_quiet (fail)
                    go_wp2_with fail
                    go_roundw
                    case rel => exact ⟨i + 1, by omega, by go_num, below_drewN HBL.out _⟩
                    case measure => simp [intOf]; omega
                · have i1 : ¬ (i : Int) < ((relS k u day).length : Int) := by omega
                  clear hil hin HIn HSt
                  go_wp2_with (go_at_call 17; refine (HW.out _ HBr.out).mono ?_; rintro e w' ⟨rfl, hb⟩; have BW := Lib.hid hb; clear hb)
                  go_ret
                  exact ⟨ret_boolI (by simp), BW.out⟩
    · have d1 : decide (E = 0) = false := decide_eq_false h0
      have d2 : (E == 0) = false := by simpa using h0
      have d3 : (E != 0) = true := by simpa using h0
      go_wp2_with (go_at_call 17; refine (HW.out _ HBX2.out).mono ?_; rintro e w' ⟨rfl, hb⟩; have BW := Lib.hid hb; clear hb)
      go_ret
      exact ⟨ret_boolI (by simp), BW.out⟩
end Go.Proofs.Ytaocgkmobfocjaa
