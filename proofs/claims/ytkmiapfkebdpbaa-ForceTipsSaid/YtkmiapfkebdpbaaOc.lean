/- Plain facts of the loading with the fewest full seats: what the riders' moments have to do with the rig's. No program beyond the names. -/
import Derived.Test.YtkmiapfkebdpbaaSh
import Derived.Test.YtkmiapfkebdpbaaRow
import Derived.Test.YtkmiapfkebdpbaaZf
import Derived.Lib.SortBridge
import Derived.Lib.SlBuf
import Derived.Lib.Hide
import Derived.Test.YtkmiapfkebdpbaaKu
/- The least sum that n of some numbers have, as the program finds it: leastSum. Conditions: at most 20 numbers, none too great. -/
namespace Go.Proofs.Ytkmiapfkebdpbaa
open Go.RowKit

def lsum (zs : List Int) (n : Nat) : Int := sumZ ((zs.mergeSort fun x y => decide (x ≤ y)).take n)
theorem lsum_min (zs : List Int) {n : Nat} (hn : n ≤ zs.length) : minSel zs n = some (lsum zs n) := by
  rw [minSel_perm (List.mergeSort_perm zs fun x y => decide (x ≤ y)).symm n]
  refine minSel_sorted _ ?_ n (by rw [List.length_mergeSort]; exact hn)
  have h := List.pairwise_mergeSort (le := fun x y : Int => decide (x ≤ y)) (fun a b c h1 h2 => by simp at *; omega) (fun a b => by simp; omega) zs
  exact h.imp fun h => by simpa using h
theorem sum_bd {l : List Int} {M : Int} (hM : ∀ z ∈ l, -M ≤ z ∧ z ≤ M) : ∀ n, n ≤ l.length → -((n : Int) * M) ≤ sumZ (l.take n) ∧ sumZ (l.take n) ≤ (n : Int) * M := by
  intro n
  induction n with
  | zero => intro _; simp [sumZ]
  | succ n ih =>
    intro h
    have h1 := ih (by omega)
    have h2 := sum_take l n (by omega)
    have h3 := hM l[n] (List.getElem_mem _)
    rw [h2]
    have e : ((n + 1 : Nat) : Int) * M = (n : Int) * M + M := by rw [Int.natCast_add, Int.add_mul]; simp
    rw [e]
    omega
theorem below_grow {B : Nat} {a w : World} (h : Below B a w) (hB : B ≤ w.heap.size) (os : Array Obj) : Below B a (Sort.grow w os) :=
  h.trans ⟨rfl, rfl, rfl, by simp [Sort.grow], fun k hk => Sort.heap_grow_old w os (by omega)⟩
set_option maxHeartbeats 1000000 in
theorem leastSum_any (zs : List Int) (b off c n : Nat) (w : World) (hc : ∀ j, j < zs.length → w.cell? ⟨b, off + j, none⟩ = some (.int .i64 (zs.getD j 0))) (hn : n ≤ zs.length) (hl : zs.length ≤ 20) (hM : ∀ z ∈ zs, -800000000000000 ≤ z ∧ z ≤ 800000000000000) :
    Calls Try.prog 91 #[.slice (some ⟨b, off, none⟩) zs.length c, .int .i64 (n : Int)] w fun e w' => e = .returned (.int .i64 (lsum zs n)) ∧ Below w.heap.size w w' := by
  have hcl := Any.slices_Clone_int laysClone b off zs.length c zs w (Nat.le_refl _) (by omega) hc
  rw [List.take_length] at hcl
  change Calls Try.prog 94 _ _ _ at hcl
  clear hc
  unfold lsum
  obtain ⟨ys, hys⟩ : ∃ ys, ys = zs.mergeSort fun x y => decide (x ≤ y) := ⟨_, rfl⟩
  have hyl : ys.length = zs.length := by rw [hys, List.length_mergeSort]
  have hyM : ∀ z ∈ ys, -800000000000000 ≤ z ∧ z ≤ 800000000000000 := fun z hz => by rw [hys, List.mem_mergeSort] at hz; exact hM z hz
  rw [← hys]
  go_enter Try.func91, Try.ntmps91
  go_wp2_with fail
  refine hcl.mono ?_
  clear hcl
  rintro e w1 ⟨v', rfl, hown, hne, hb1⟩
  rcases hown.2 with ⟨h', _⟩ | ⟨g, cap, cur, rfl, hbg, hg, hnc, _, _, _⟩
  · exact absurd h' hne
  obtain ⟨hr1, _⟩ := Row.of_own hown
  have hc1 : ∀ j, j < zs.length → w1.cell? ⟨g, 0 + j, none⟩ = some (.int .i64 (zs.getD j 0)) := fun j hj => by rw [Nat.zero_add, hr1.cell (by simpa using hj)]; simp [hj]
  have hH := Lib.holds_of_ints (Nat.le_refl _) hc1 (fun j _ => hr1.frozen _)
  rw [List.take_length] at hH
  have hso := Any.slices_Sort_int laysSort g 0 cap zs w1 hH hr1.lt (by omega)
  change Calls Try.prog 95 _ _ _ at hso
  rw [← hys] at hso
  have hso2 : Calls Try.prog 95 #[.slice (some ⟨g, 0, none⟩) zs.length cap] w1 fun e w' => e = .returned (.tuple #[]) ∧ Below w.heap.size w w' ∧ ∀ j, j < ys.length → w'.cell? ⟨g, j, none⟩ = some (.int .i64 (ys.getD j 0)) := hso.mono fun e w' ⟨he, q, os, hw⟩ => by
    have hlen : ys.length = zs.toArray.size := by simpa using hyl
    rw [Lib.sorted_world (Value.int .i64) w1 g 0 q zs.toArray ys os hH hlen] at hw
    refine ⟨he, ?_, fun j hj => ?_⟩
    · rw [hw]
      have hb2 := Lib.below_setCells g hbg (ys.map (Value.int .i64)) 0 (below_drewN hb1 q)
      exact below_grow hb2 hb2.size os
    · have h := Lib.cells_sorted_ints (os := os) (q := q) (Nat.le_refl _) hyl hc1 j (by simp; omega)
      rw [hw]
      rw [Nat.zero_add] at h
      rw [h]
      simp [hj]
  clear hys hso hH hc1 hr1 hg hne hown hM hb1 hbg
  go_wp2_with fail
  refine hso2.mono ?_
  clear hso2
  rintro e w2 ⟨rfl, hb2, hc2⟩
  have hnc' : (n : Int) ≤ (cap : Int) := by omega
  go_wp2_with fail
  go_loopw [6, 17] (fun s i wr => ∃ j : Nat, j ≤ n ∧ i = .int .i64 j ∧ s = .int .i64 (sumZ (ys.take j)) ∧ wr = w2) (fun _ i _ => n - (intOf i).toNat)
  case atStart => exact ⟨0, Nat.zero_le _, rfl, rfl, rfl⟩
  case round =>
    obtain ⟨j, hj, rfl, rfl, rfl⟩ := hrel
    by_cases hlt : j < n
    · have hcj := hc2 j (by omega)
      have h1 := sum_take ys j (by omega)
      have h2 := sum_bd hyM (j + 1) (by omega)
      have hge : ys.getD j 0 = ys[j] := by simp [List.getD, show j < ys.length by omega]
      rw [hge] at hcj
      have e1 : IntKind.i64.wrap (sumZ (ys.take j) + ys[j]) = sumZ (ys.take (j + 1)) := by rw [h1]; exact IntWalk.i64_in _ (by rw [h1] at h2; omega)
      have e2 : IntKind.i64.wrap ((j : Int) + 1) = (j : Int) + 1 := IntWalk.i64_in _ (by omega)
      have hlt' : (j : Int) < (n : Int) := by omega
      clear h1 h2 hge
      go_wp2_with fail
      go_roundw
      case rel => refine ⟨j + 1, by omega, by go_num, ?_, ?_⟩ <;> first | rfl | trivial
      case measure => simp [intOf]; omega
    · obtain rfl : j = n := by omega
      go_wp2_with fail
      go_ret
      exact ⟨rfl, hb2⟩
end Go.Proofs.Ytkmiapfkebdpbaa
/- How many riders it takes to bring a moment below 0, as the program finds it: fewest. Conditions: at most 20 numbers, none too great. -/
namespace Go.Proofs.Ytkmiapfkebdpbaa
open Go.RowKit

theorem lsum_bd {zs : List Int} (hM : ∀ z ∈ zs, -800000000000000 ≤ z ∧ z ≤ 800000000000000) (hl : zs.length ≤ 20) {n : Nat} (hn : n ≤ zs.length) : -16000000000000000 ≤ lsum zs n ∧ lsum zs n ≤ 16000000000000000 := by
  unfold lsum
  have h := sum_bd (l := zs.mergeSort fun x y => decide (x ≤ y)) (M := 800000000000000) (fun z hz => hM z (by rw [List.mem_mergeSort] at hz; exact hz)) n (by rw [List.length_mergeSort]; exact hn)
  omega
/-- So many numbers: the first number of them with which the sum comes below 0, or all. -/
def FewN (zs : List Int) (s : Int) (n : Nat) : Prop := n ≤ zs.length ∧ (∀ i, i < n → 0 ≤ s + lsum zs i) ∧ (n < zs.length → s + lsum zs n < 0)
set_option maxHeartbeats 1000000 in
theorem fewest_any (zs : List Int) (b off c : Nat) (s : Int) (w : World) (hb : b < w.heap.size) (hc : ∀ j, j < zs.length → w.cell? ⟨b, off + j, none⟩ = some (.int .i64 (zs.getD j 0))) (hl : zs.length ≤ 20) (hM : ∀ z ∈ zs, -800000000000000 ≤ z ∧ z ≤ 800000000000000) (hs : -17000000000000000 ≤ s ∧ s ≤ 17000000000000000) :
    Calls Try.prog 90 #[.int .i64 s, .slice (some ⟨b, off, none⟩) zs.length c] w fun e w' => (∃ n : Nat, FewN zs s n ∧ e = .returned (.int .i64 (n : Int))) ∧ Below w.heap.size w w' := by
  have HL : Hid (∀ (X : World) (j : Nat), Below w.heap.size w X → j ≤ zs.length → Calls Try.prog 91 #[.slice (some ⟨b, off, none⟩) zs.length c, .int .i64 (j : Int)] X fun e w' => e = .returned (.int .i64 (lsum zs j)) ∧ Below X.heap.size X w') := fun X j hX hj =>
    leastSum_any zs b off c j X (fun i hi => (hX.cell (p := ⟨b, off + i, none⟩) hb).trans (hc i hi)) hj hl hM
  have HB : Hid (∀ j, j ≤ zs.length → -16000000000000000 ≤ lsum zs j ∧ lsum zs j ≤ 16000000000000000) := fun j hj => lsum_bd hM hl hj
  clear hc hM
  go_enter Try.func90, Try.ntmps90
  go_wp2_with fail
  go_loopw [8] (fun i wr => ∃ j : Nat, j ≤ zs.length ∧ i = .int .i64 j ∧ (∀ k, k < j → 0 ≤ s + lsum zs k) ∧ Below w.heap.size w wr) (fun i _ => zs.length - (intOf i).toNat)
  case atStart => exact ⟨0, Nat.zero_le _, rfl, fun k hk => absurd hk (Nat.not_lt_zero _), Below.refl _ _⟩
  case round =>
    obtain ⟨j, hj, rfl, hno, hbel⟩ := hrel
    have Hno := Lib.hid hno
    clear hno
    by_cases hlt : j < zs.length
    · have e2 : IntKind.i64.wrap ((j : Int) + 1) = (j : Int) + 1 := IntWalk.i64_in _ (by omega)
      have hlt' : (j : Int) < (zs.length : Int) := by omega
      have hbd := HB.out j hj
      have hcall := HL.out wr j hbel hj
      obtain ⟨S, hS⟩ : ∃ S, S = lsum zs j := ⟨_, rfl⟩
      rw [← hS] at hbd hcall
      have e1 : IntKind.i64.wrap (s + S) = s + S := IntWalk.i64_in _ (by omega)
      have HS := Lib.hid hS
      clear hS hbd
      go_wp2_with fail
      refine hcall.mono ?_
      clear hcall
      rintro e w2 ⟨rfl, hb2⟩
      have b2 := hbel.trans (hb2.mono hbel.size)
      by_cases hneg : s + S < 0
      · go_wp2_with fail
        go_ret
        exact ⟨⟨j, ⟨hj, Hno.out, fun _ => by rw [← HS.out]; exact hneg⟩, rfl⟩, b2⟩
      · go_wp2_with fail
        go_roundw
        case rel =>
          refine ⟨j + 1, by omega, by go_num, fun k hk => ?_, b2⟩
          rcases Nat.lt_succ_iff_lt_or_eq.1 hk with h | h
          · exact Hno.out k h
          · rw [h, ← HS.out]; first | exact hneg | exact Int.not_lt.1 hneg
        case measure => simp [intOf]; omega
    · obtain rfl : j = zs.length := by omega
      go_wp2_with fail
      go_ret
      exact ⟨⟨zs.length, ⟨Nat.le_refl _, Hno.out, fun h => absurd h (Nat.lt_irrefl _)⟩, rfl⟩, hbel⟩
end Go.Proofs.Ytkmiapfkebdpbaa
namespace Go.Proofs.Ytkmiapfkebdpbaa
open Go.RowKit

/-- The sum of those that are chosen. -/
def selS : List Int → List Bool → Int
  | x :: l, b :: bs => (if b then x else 0) + selS l bs
  | _, _ => 0
theorem selS_snoc (x : Int) (b : Bool) : ∀ (l : List Int) (bs : List Bool), bs.length = l.length → selS (l ++ [x]) (bs ++ [b]) = selS l bs + (if b then x else 0) := by
  intro l
  induction l with
  | nil =>
    intro bs h
    obtain rfl : bs = [] := List.eq_nil_of_length_eq_zero h
    simp [selS]
  | cons y l ih =>
    intro bs h
    cases bs with
    | nil => simp at h
    | cons c bs =>
      have h := ih bs (by simpa using h)
      simp only [List.cons_append, selS, h]
      omega
theorem minSel_le : ∀ (l : List Int) (bs : List Bool), bs.length = l.length → ∃ m, minSel l (bs.count true) = some m ∧ m ≤ selS l bs := by
  intro l
  induction l with
  | nil =>
    intro bs h
    obtain rfl : bs = [] := List.eq_nil_of_length_eq_zero h
    exact ⟨0, rfl, Int.le_refl _⟩
  | cons x l ih =>
    intro bs h
    cases bs with
    | nil => simp at h
    | cons b bs =>
      obtain ⟨m, h1, h2⟩ := ih bs (by simpa using h)
      cases b with
      | true =>
        rw [List.count_cons_self]
        simp only [minSel, h1, Option.map_some, selS, if_true]
        cases minSel l (bs.count true + 1) with
        | none => exact ⟨_, rfl, by omega⟩
        | some v => exact ⟨_, rfl, by omega⟩
      | false =>
        have e : (false :: bs).count true = bs.count true := by simp
        rw [e]
        simp only [selS, Bool.false_eq_true, if_false]
        cases hc : bs.count true with
        | zero =>
          rw [hc, minSel_zero] at h1
          injection h1 with h1
          exact ⟨0, rfl, by omega⟩
        | succ c =>
          rw [hc] at h1
          simp only [minSel, h1]
          cases minSel l c with
          | none => exact ⟨m, rfl, by omega⟩
          | some v => exact ⟨_, rfl, by show min (x + v) m ≤ _; omega⟩
theorem below_some {S : Int} {l : List Int} {n : Nat} (h : belowZ S (minSel l n) = true) : n ≤ l.length := by
  rcases Nat.lt_or_ge l.length n with hn | hn
  · rw [minSel_many l n hn] at h; cases h
  · exact hn
theorem below_lsum (S : Int) (l : List Int) {n : Nat} (hn : n ≤ l.length) : belowZ S (minSel l n) = decide (S + lsum l n < 0) := by
  rw [lsum_min l hn]; rfl
/-- One rider more is looked at. -/
theorem sel_step {x S : Int} {l : List Int} {L : Nat} (h : belowZ S (minSel (x :: l) L) = true) (hn : ¬ (0 < L ∧ belowZ (S + x) (minSel l (L - 1)) = true)) : belowZ S (minSel l L) = true := by
  cases L with
  | zero => rw [minSel_zero] at h ⊢; exact h
  | succ L =>
    simp only [minSel, below_omin, below_map, Bool.or_eq_true] at h
    rcases h with h | h
    · exact absurd ⟨Nat.succ_pos _, h⟩ hn
    · exact h
theorem few_is {zs : List Int} {s : Int} {n : Nat} (h : FewN zs s n) (hex : ∃ m, belowZ s (minSel zs m) = true) : belowZ s (minSel zs n) = true ∧ ∀ i, i < n → belowZ s (minSel zs i) = false := by
  obtain ⟨h1, h2, h3⟩ := h
  have h4 : ∀ i, i < n → belowZ s (minSel zs i) = false := fun i hi => by
    rw [below_lsum s zs (by omega)]
    have := h2 i hi
    simp; omega
  refine ⟨?_, h4⟩
  rcases Nat.lt_or_ge n zs.length with hn | hn
  · rw [below_lsum s zs h1]; simpa using h3 hn
  · obtain ⟨m, hm⟩ := hex
    have hm1 := below_some hm
    rcases Nat.lt_or_ge m n with hmn | hmn
    · rw [h4 m hmn] at hm; cases hm
    · obtain rfl : m = n := by omega
      exact hm
/-- What a rider in a seat adds to a moment. -/
def riderZ (r : RigZ) (p k i : Nat) : Int := (r.full - r.empty) * armZ r.feet k (seatAt r i p)
def ridersZ (r : RigZ) (p k : Nat) : List Int := (List.range r.seats.length).map (riderZ r p k)
theorem ridersZ_len (r : RigZ) (p k : Nat) : (ridersZ r p k).length = r.seats.length := by simp [ridersZ]
theorem mom_selK (r : RigZ) (ld : Nat → Bool) (p k : Nat) : ∀ j, momK r ld p k j = momK r (fun _ => false) p k j + selS ((List.range j).map (riderZ r p k)) ((List.range j).map ld) := by
  intro j
  induction j with
  | zero => simp [momK, selS]
  | succ j ih =>
    rw [List.range_succ, List.map_append, List.map_append, List.map_singleton, List.map_singleton, selS_snoc _ _ _ _ (by simp)]
    simp only [momK, ih, riderZ]
    cases ld j with
    | true => simp only [if_true, Bool.false_eq_true, if_false, Int.sub_mul]; omega
    | false => simp only [Bool.false_eq_true, if_false]; omega
theorem mom_sel (r : RigZ) (ld : Nat → Bool) (p k : Nat) : momZ r ld p k = momZ r (fun _ => false) p k + selS (ridersZ r p k) ((List.range r.seats.length).map ld) := mom_selK r ld p k _
theorem worst_few {r : RigZ} {p k : Nat} (h : momZ r (worstZ r p k) p k < 0) : ∃ m, belowZ (momZ r (fun _ => false) p k) (minSel (ridersZ r p k) m) = true := by
  obtain ⟨m, h1, h2⟩ := minSel_le (ridersZ r p k) ((List.range r.seats.length).map (worstZ r p k)) (by simp [ridersZ])
  refine ⟨_, (congrArg (belowZ _) h1).trans ?_⟩
  rw [mom_sel] at h
  simp only [belowZ, decide_eq_true_eq]
  omega
theorem rider_bd {r : RigZ} (h : rigB r = true) (p k i : Nat) : -800000000000000 ≤ riderZ r p k i ∧ riderZ r p k i ≤ 800000000000000 := by
  obtain ⟨_, _, _, _, _, h6, h7⟩ := rigB_parts h
  have ha := arm_bd h k (seat_span h i p)
  have hm := mul_near (a := r.full - r.empty) (b := armZ r.feet k (seatAt r i p)) (M := 1000000) (N := 800000000) (by omega) (by omega) (by omega) (by omega)
  unfold riderZ
  omega
end Go.Proofs.Ytkmiapfkebdpbaa
