/- Contracts of the small functions of takings that look at numbers. No conditions but that a slice reads as a list. -/
import Derived.Test.YtdechfjlbdbbnaaRows
import Derived.Test.YtdechfjlbdbbnaaMem
import Derived.Test.YtdechfjlbdbbnaaRow
import Derived.Test.YtdechfjlbdbbnaaSpec
import Derived.WalkKit
import Derived.WalkSpells
import Derived.WalkLawsBesides
import Derived.Lib.Hide
import Derived.BigQuiet
import Derived.Deep.RegionWith
import Derived.Deep.DeepFit
import Derived.Deep.DeepMust
import Derived.Deep.QuietTactic
namespace Go.Proofs.Ytdechfjlbdbbnaa
open Go.RowKit

theorem ret_boolT {a b : Bool} (h : a = b) : Ending.returned (.bool a) = .returned (.bool b) := by rw [h]
theorem ret_intT {k : IntKind} {a b : Int} (h : a = b) : Ending.returned (.int k a) = .returned (.int k b) := by rw [h]
theorem allT_snoc (zs : List Int) (k : Nat) (lo hi : Int) (h : k < zs.length) : allB (zs.take (k + 1)) lo hi = (allB (zs.take k) lo hi && inB (zs[k]?.getD 0) lo hi) := by
  unfold allB
  rw [List.take_succ_eq_append_getElem h, List.all_append, List.getElem?_eq_getElem h]; simp
theorem allT_out (zs : List Int) (k : Nat) (lo hi : Int) (hk : k < zs.length) (h : inB (zs[k]?.getD 0) lo hi = false) : allB zs lo hi = false := by
  unfold allB
  rw [List.all_eq_false]
  refine ⟨zs[k], List.getElem_mem hk, ?_⟩
  rw [List.getElem?_eq_getElem hk] at h
  simpa using h
set_option maxHeartbeats 400000 in
theorem tall_any (zs : List Int) (A : Option Addr) (n c B : Nat) (lo hi : Int) (w : World) (hr : Reads w B 1 A n (zs.map (Value.int .i64))) (hn : n ≤ maxLen) :
    Calls Try.prog 49 #[.int .i64 lo, .int .i64 hi, .slice A n c] w fun e w' => e = .returned (.bool (allB zs lo hi)) ∧ w = w' := by
  unfold maxLen at hn
  go_enter Try.func49, Try.ntmps49
  go_wp2_with fail
  go_loop [11] (fun i => ∃ k : Nat, k ≤ n ∧ i = .int .i64 k ∧ Hid (allB (zs.take k) lo hi = true)) (fun i => n - (intOf i).toNat)
  case atStart => exact ⟨0, Nat.zero_le _, rfl, rfl⟩
  case round =>
    obtain ⟨k, hk, rfl, Hall⟩ := hrel
    have hz : zs.length = n := by simpa using hr.1
    by_cases hlt : k < n
    · obtain ⟨b, o, rfl, hb, hc⟩ := hr.at1 hlt
      have hck := hc k hlt
      clear hc
      have Hsn : Hid (allB (zs.take (k + 1)) lo hi = (allB (zs.take k) lo hi && inB (zs[k]?.getD 0) lo hi)) := allT_snoc zs k lo hi (by omega)
      have Hno := Lib.hid (allT_out zs k lo hi (by omega))
      have Hin : Hid (inB (zs[k]?.getD 0) lo hi = (decide (lo ≤ zs[k]?.getD 0) && decide (zs[k]?.getD 0 ≤ hi))) := rfl
      obtain ⟨x, hx⟩ : ∃ x, x = zs[k]?.getD 0 := ⟨_, rfl⟩
      rw [← hx] at hck Hsn Hno Hin
      clear hz hx
      have e1 : IntKind.i64.wrap ((k : Int) + 1) = (k : Int) + 1 := IntWalk.i64_in _ (by omega)
      have hkn : (k : Int) < (n : Int) := by omega
      by_cases h1 : x < lo
      · have d1 : decide (x < lo) = true := by simpa using h1
        go_wp2_with fail
        go_ret
        exact ⟨ret_boolT (Hno.out (by rw [Hin.out]; simp; omega)).symm, rfl⟩
      · have d1 : decide (x < lo) = false := by simpa using h1
        by_cases h2 : hi < x
        · have d2 : decide (hi < x) = true := by simpa using h2
          go_wp2_with fail
          go_ret
          exact ⟨ret_boolT (Hno.out (by rw [Hin.out]; simp; omega)).symm, rfl⟩
        · have d2 : decide (hi < x) = false := by simpa using h2
          go_wp2_with fail
          refine ⟨⟨k + 1, by omega, by go_num, ?_⟩, by simp [intOf]; omega⟩
          show _ = _
          rw [Hsn.out, Hall.out, Hin.out]
          simp
          omega
    · have : k = n := by omega
      subst this
      go_wp2_with fail
      go_ret
      refine ⟨ret_boolT ?_, rfl⟩
      rw [← Hall.out, ← hz, List.take_length]
theorem tall_one (X : World) (g c : Nat) (v lo hi : Int) (hr : Row X g 3 [.int .i64 v]) : Calls Try.prog 49 #[.int .i64 lo, .int .i64 hi, .slice (some ⟨g, 0, none⟩) 1 c] X fun e w' => e = .returned (.bool (inB v lo hi)) ∧ X = w' := by
  have h := tall_any [v] (some ⟨g, 0, none⟩) 1 c X.heap.size lo hi X (hr.reads (n := 1) (size := 1) rfl hr.lt) (by decide)
  refine h.mono ?_
  rintro e w' ⟨rfl, h2⟩
  exact ⟨ret_boolT (by simp [allB]), h2⟩
theorem tall_new (X : World) (c : Nat) (v lo hi : Int) : Calls Try.prog 49 #[.int .i64 lo, .int .i64 hi, .slice (some ⟨X.heap.size, 0, none⟩) 1 c] (X.alloc (.cells #[.int .i64 v] 3)) fun e w' => e = .returned (.bool (inB v lo hi)) ∧ X.alloc (.cells #[.int .i64 v] 3) = w' :=
  tall_one _ _ c v lo hi (Row.new X 3 #[.int .i64 v])
theorem sumW_snocT (zs : List Int) (k : Nat) (h : k < zs.length) : sumW (zs.take (k + 1)) = wrap64 (sumW (zs.take k) + zs[k]?.getD 0) := by
  unfold sumW
  rw [List.take_succ_eq_append_getElem h, List.foldl_append, List.getElem?_eq_getElem h]; rfl
set_option maxHeartbeats 400000 in
theorem total_any (zs : List Int) (A : Option Addr) (n c B : Nat) (w : World) (hr : Reads w B 1 A n (zs.map (Value.int .i64))) (hn : n ≤ maxLen) :
    Calls Try.prog 47 #[.slice A n c] w fun e w' => e = .returned (.int .i64 (sumW zs)) ∧ w = w' := by
  unfold maxLen at hn
  go_enter Try.func47, Try.ntmps47
  go_wp2_with fail
  go_loop [3, 8] (fun s i => ∃ k : Nat, k ≤ n ∧ i = .int .i64 k ∧ s = .int .i64 (sumW (zs.take k))) (fun _ i => n - (intOf i).toNat)
  case atStart => exact ⟨0, Nat.zero_le _, rfl, rfl⟩
  case round =>
    obtain ⟨k, hk, rfl, rfl⟩ := hrel
    have hz : zs.length = n := by simpa using hr.1
    by_cases hlt : k < n
    · obtain ⟨b, o, rfl, hb, hc⟩ := hr.at1 hlt
      have hck := hc k hlt
      clear hc
      have Hsn := Lib.hid (sumW_snocT zs k (by omega))
      clear hz
      go_wp2
      go_round
      case rel => exact ⟨k + 1, by omega, by go_num, by rw [Hsn.out]⟩
      case measure => simp [intOf]; omega
    · have : k = n := by omega
      subst this
      clear hz
      go_wp2
      go_ret
      refine ⟨ret_intT ?_, rfl⟩
      rw [List.take_of_length_le (by have := hr.1; simp at this; omega)]
set_option maxHeartbeats 400000 in
theorem rSum_any (zs : List Int) (A : Option Addr) (n c B : Nat) (w : World) (hr : Reads w B 1 A n (zs.map (Value.int .i64))) (hn : n ≤ maxLen) :
    Calls Try.prog 27 #[.slice A n c] w fun e w' => e = .returned (.int .i64 (sumW zs)) ∧ w = w' := by
  unfold maxLen at hn
  go_enter Try.func27, Try.ntmps27
  go_wp2_with fail
  go_loop [3, 4] (fun s i => ∃ k : Nat, k ≤ n ∧ i = .int .i64 k ∧ s = .int .i64 (sumW (zs.take k))) (fun _ i => n - (intOf i).toNat)
  case atStart => exact ⟨0, Nat.zero_le _, rfl, rfl⟩
  case round =>
    obtain ⟨k, hk, rfl, rfl⟩ := hrel
    have hz : zs.length = n := by simpa using hr.1
    by_cases hlt : k < n
    · obtain ⟨b, o, rfl, hb, hc⟩ := hr.at1 hlt
      have hck := hc k hlt
      clear hc
      have Hsn := Lib.hid (sumW_snocT zs k (by omega))
      clear hz
      go_wp2
      go_round
      case rel => exact ⟨k + 1, by omega, by go_num, by rw [Hsn.out]⟩
      case measure => simp [intOf]; omega
    · have : k = n := by omega
      subst this
      clear hz
      go_wp2
      go_ret
      refine ⟨ret_intT ?_, rfl⟩
      rw [List.take_of_length_le (by have := hr.1; simp at this; omega)]
theorem areAmounts_any (zs : List Int) (A : Option Addr) (n c B : Nat) (w : World) (hr : Reads w B 1 A n (zs.map (Value.int .i64))) (hn : n ≤ maxLen) :
    Calls Try.prog 38 #[.slice A n c] w fun e w' => e = .returned (.bool (allB zs 0 1000000000)) ∧ w = w' := by
  have H1 := Lib.hid (tall_any zs A n c B 0 1000000000 w hr hn)
  go_enter Try.func38, Try.ntmps38
  go_wp2_with (go_at_call 49; refine H1.out.mono ?_; rintro e w' ⟨rfl, rfl⟩)
  go_ret
  exact ⟨rfl, rfl⟩
theorem am_new (X : World) (c : Nat) (v : Int) : Calls Try.prog 38 #[.slice (some ⟨X.heap.size, 0, none⟩) 1 c] (X.alloc (.cells #[.int .i64 v] 3)) fun e w' => e = .returned (.bool (inB v 0 1000000000)) ∧ X.alloc (.cells #[.int .i64 v] 3) = w' := by
  have h := areAmounts_any [v] (some ⟨X.heap.size, 0, none⟩) 1 c (X.heap.size + 1) (X.alloc (.cells #[.int .i64 v] 3)) ((Row.new X 3 #[.int .i64 v]).reads (n := 1) (size := 1) rfl (by omega)) (by decide)
  refine h.mono ?_
  rintro e w' ⟨rfl, h2⟩
  exact ⟨ret_boolT (by simp [allB]), h2⟩
theorem isPercent_any (n : Int) (w : World) : Calls Try.prog 45 #[.int .i64 n] w fun e w' => e = .returned (.bool (inB n 0 100)) ∧ Below w.heap.size w w' := by
  have H1 : Hid (∀ c, Calls Try.prog 49 #[.int .i64 0, .int .i64 100, .slice (some ⟨w.heap.size, 0, none⟩) 1 c] (w.alloc (.cells #[.int .i64 n] 3)) fun e w' => e = .returned (.bool (inB n 0 100)) ∧ w.alloc (.cells #[.int .i64 n] 3) = w') := fun c => tall_new w c n 0 100
  go_enter Try.func45, Try.ntmps45
  go_wp2_with (go_at_call 49; refine (H1.out _).mono ?_; rintro e w' ⟨rfl, rfl⟩)
  go_ret
  exact ⟨rfl, (Below.refl _ w).alloc (Nat.le_refl _) _⟩
/-- The rent of a stall. -/
def rentZ (taken percent least : Int) : Int := min (max (taken * percent / 100) least) taken
theorem rent_any (t p l : Int) (w : World) (ht : 0 ≤ t ∧ t ≤ 1000000000) (hp : 0 ≤ p ∧ p ≤ 100) : Calls Try.prog 46 #[.int .i64 t, .int .i64 p, .int .i64 l] w fun e w' => e = .returned (.int .i64 (rentZ t p l)) ∧ w = w' := by
  have h0 : 0 ≤ t * p := Int.mul_nonneg ht.1 hp.1
  have h1 : t * p ≤ 1000000000 * 100 := Int.mul_le_mul ht.2 hp.2 hp.1 (by decide)
  have e1 : IntKind.i64.wrap (t * p) = t * p := IntWalk.i64_in _ (by omega)
  have e2 : IntKind.i64.wrap ((t * p).tdiv 100) = t * p / 100 := by
    rw [Int.tdiv_eq_ediv_of_nonneg h0]; exact IntWalk.i64_in _ (by omega)
  have HQ : Hid (rentZ t p l = min (max (t * p / 100) l) t) := rfl
  generalize t * p / 100 = q at e2 HQ
  clear h0 h1 ht hp
  go_enter Try.func46, Try.ntmps46
  go_wp2_with fail
  all_goals go_ret
  all_goals refine ⟨ret_intT ?_, rfl⟩
  all_goals rw [HQ.out]
  all_goals omega
/-- Valid weights. -/
def wOk (ws : List Int) : Bool := inB ws.length 1 10 && allB ws 0 1000 && decide (0 < sumW ws)
set_option maxRecDepth 100000 in
theorem validWeights_any (ws : List Int) (A : Option Addr) (c B : Nat) (w : World) (hB : B ≤ w.heap.size) (hr : Reads w B 1 A ws.length (ws.map (Value.int .i64))) (hn : ws.length ≤ maxLen) :
    Calls Try.prog 39 #[.slice A ws.length c] w fun e w' => e = .returned (.bool (wOk ws)) ∧ Below w.heap.size w w' := by
  have hr' := hr.alloc hB (.cells #[.int .i64 (ws.length : Int)] 3)
  have H1 : Hid (∀ c, Calls Try.prog 49 #[.int .i64 1, .int .i64 10, .slice (some ⟨w.heap.size, 0, none⟩) 1 c] (w.alloc (.cells #[.int .i64 (ws.length : Int)] 3)) fun e w' => e = .returned (.bool (inB ws.length 1 10)) ∧ w.alloc (.cells #[.int .i64 (ws.length : Int)] 3) = w') := fun c => tall_new w c _ 1 10
  have H2 := Lib.hid (tall_any ws A ws.length c B 0 1000 _ hr' hn)
  have H3 := Lib.hid (total_any ws A ws.length c B _ hr' hn)
  have HB := Lib.hid ((Below.refl w.heap.size w).alloc (Nat.le_refl _) (.cells #[.int .i64 (ws.length : Int)] 3))
  have HV : Hid (wOk ws = (inB ws.length 1 10 && allB ws 0 1000 && decide (0 < sumW ws))) := rfl
  clear hr hr' hn
  go_enter Try.func39, Try.ntmps39
  cases h1 : inB (ws.length : Int) 1 10 with
  | false =>
    rw [h1] at H1 HV
    go_wp2_with (go_at_call 49; refine (H1.out _).mono ?_; rintro e w' ⟨rfl, rfl⟩)
    go_ret
    exact ⟨ret_boolT (by rw [HV.out]; rfl), HB.out⟩
  | true =>
    rw [h1] at H1 HV
    cases h2 : allB ws 0 1000 with
    | false =>
      rw [h2] at H2 HV
      go_wp2_with (go_at_call 49; (first | with_reducible refine (H1.out _).mono ?_ | refine H2.out.mono ?_); rintro e w' ⟨rfl, rfl⟩)
      go_ret
      exact ⟨ret_boolT (by rw [HV.out]; rfl), HB.out⟩
    | true =>
      rw [h2] at H2 HV
      go_wp2_with (first | (go_at_call 49; (first | with_reducible refine (H1.out _).mono ?_ | refine H2.out.mono ?_); rintro e w' ⟨rfl, rfl⟩) | (go_at_call 47; refine H3.out.mono ?_; rintro e w' ⟨rfl, rfl⟩))
      go_ret
      exact ⟨ret_boolT (by rw [HV.out]; rfl), HB.out⟩
end Go.Proofs.Ytdechfjlbdbbnaa
