/- Contract of the specification's Run. Conditions: the arguments read as data. -/
import Derived.Test.YtbhojgkmhomajaaLm
import Derived.Test.YtbhojgkmhomajaaLd
import Derived.Test.YtbhojgkmhomajaaLk
namespace Go.Proofs.Ytbhojgkmhomajaa
open Go.RowKit

theorem canB_ref (top ease bf s : Int) : (!canB top ease bf s) = (!inB s 0 top || (decide (ease < s - bf) || decide (ease < bf - s))) := by
  rw [Bool.eq_iff_iff]
  simp only [canB, inB, Bool.not_eq_true', Bool.or_eq_true, Bool.and_eq_false_iff, decide_eq_true_eq, decide_eq_false_iff_not]
  omega
/-- The speed behind k speeds. -/
def lastK (l : List Int) (k : Nat) : Int := if k = 0 then 0 else l[k - 1]?.getD 0
theorem runS_0 {t : List Pt} {m : Mot} {x : Lim} {l : List Int} (h : limE t m x ≠ 0) : runS t m x l = ([], 0, limE t m x) := by unfold runS; rw [if_pos h]
theorem runS_1 {t : List Pt} {m : Mot} {x : Lim} {l : List Int} (h : limE t m x = 0) (h1 : 300 < l.length) : runS t m x l = ([], 0, 2) := by unfold runS; rw [if_neg (by simp [h]), if_pos h1]
theorem runS_2 {t : List Pt} {m : Mot} {x : Lim} {l : List Int} (h : limE t m x = 0) (h1 : ¬ 300 < l.length) (h2 : badI m.top m.ease l ≠ -1) : runS t m x l = ([], badI m.top m.ease l, 1) := by unfold runS; rw [if_neg (by simp [h]), if_neg h1, if_pos h2]
theorem runS_3 {t : List Pt} {m : Mot} {x : Lim} {l : List Int} (h : limE t m x = 0) (h1 : ¬ 300 < l.length) (h2 : badI m.top m.ease l = -1) (h3 : beyondI x (runI t l 0 0) ≠ -1) : runS t m x l = ([], beyondI x (runI t l 0 0), 32) := by unfold runS; rw [if_neg (by simp [h]), if_neg h1, if_neg (by simp [h2]), if_pos h3]
theorem runS_4 {t : List Pt} {m : Mot} {x : Lim} {l : List Int} (h : limE t m x = 0) (h1 : ¬ 300 < l.length) (h2 : badI m.top m.ease l = -1) (h3 : beyondI x (runI t l 0 0) = -1) : runS t m x l = (runI t l 0 0, 0, 0) := by unfold runS; rw [if_neg (by simp [h]), if_neg h1, if_neg (by simp [h2]), if_neg (by simp [h3])]
theorem felt_mod_nat {t : List Pt} (ph : Int) (bf af : Nat) (hp : 0 ≤ ph ∧ ph < t.length) : feltI t ph bf af = feltZ t ⟨ph.toNat, bf, af⟩ := by
  have := feltI_nat t ⟨ph.toNat, bf, af⟩ (by dsimp only; omega)
  dsimp only at this
  rw [Int.toNat_of_nonneg hp.1] at this
  exact this

set_option maxRecDepth 100000 in
set_option maxHeartbeats 8000000 in
theorem rRun_any (t : List Pt) (m : Mot) (x : Lim) (l : List Int) (A A2 : Option Addr) (c c2 B : Nat) (w : World) (hB : B ≤ w.heap.size) (hr : Reads w B 3 A t.length (ptCells t)) (hnt : t.length ≤ maxLen) (hl : Reads w B 1 A2 l.length (nums l)) (hn : l.length ≤ 400) :
    Calls Try.prog 27 #[.slice A t.length c, motV m, limV x, .slice A2 l.length c2] w (RuPost w t m x l) := by
  obtain ⟨i0, hi, hz0, hz1, hz2⟩ := info_parts Try.info_pt
  obtain ⟨W, hW⟩ : ∃ W, W = (w.alloc (.cells #[.int .i64 m.top, .int .i64 m.ease, .int .i64 m.jerk] 35)).alloc (.cells #[.int .i64 x.side, .int .i64 x.low, .int .i64 x.high] 37) := ⟨_, rfl⟩
  have bW : Below w.heap.size w W := by subst hW; exact ((Below.refl _ _).alloc (Nat.le_refl _) _).alloc (by simp) _
  have r0 : Row W w.heap.size 35 [.int .i64 m.top, .int .i64 m.ease, .int .i64 m.jerk] := by subst hW; exact (Row.new w _ _).alloc _
  have r1 : Row W (w.heap.size + 1) 37 [.int .i64 x.side, .int .i64 x.low, .int .i64 x.high] := by
    subst hW
    have h := Row.new (w.alloc (.cells #[.int .i64 m.top, .int .i64 m.ease, .int .i64 m.jerk] 35)) 37 #[.int .i64 x.side, .int .i64 x.low, .int .i64 x.high]
    simpa only [World.size_alloc] using h
  have hc := checked_any t m x A c B W (Nat.le_trans hB bW.size) (hr.below (bW.mono hB)) hnt
  unfold motV limV at hc ⊢
  go_enter Try.func27, Try.ntmps27
  go_wp2_with fail
  rw [← hW]
  clear hW
  refine hc.mono ?_
  rintro e w1 ⟨rfl, hb1⟩
  have b1 := bW.trans (hb1.mono bW.size)
  have s0 := r0.below hb1 r0.lt
  have s1 := r1.below hb1 r1.lt
  obtain ⟨q, hq⟩ : ∃ q, q = limE t m x := ⟨_, rfl⟩
  rw [← hq]
  have Hq := Lib.hid hq
  clear hq r0 r1
  by_cases h0 : q = 0
  case neg =>
    have h1 : (q != 0) = true := by simpa using h0
    have HS : Hid (runS t m x l = ([], 0, q)) := by show _ = _; rw [runS_0 (by rw [← Hq.out]; exact h0), ← Hq.out]
    go_wp2_with fail
    go_ret3
    exact ⟨b1, none, 0, by rw [HS.out]; rfl, by rw [HS.out]; exact Reads.none_⟩
  case pos =>
    subst h0
    obtain ⟨hpa, hmo, hli⟩ := limE_zero.1 Hq.out.symm
    have hmo' := (motB_iff m).1 hmo
    by_cases h3 : 300 < l.length
    · have h3' : (300 : Int) < (l.length : Int) := by omega
      have HS2 : Hid (runS t m x l = ([], 0, 2)) := runS_1 Hq.out.symm h3
      go_wp2_with fail
      go_ret3
      exact ⟨b1, none, 0, by rw [HS2.out]; rfl, by rw [HS2.out]; exact Reads.none_⟩
    have h3' : ¬ (300 : Int) < (l.length : Int) := by omega
    have H3 := Lib.hid h3
    obtain ⟨n, hnl⟩ : ∃ n, n = l.length := ⟨_, rfl⟩
    rw [← hnl] at hl hn h3' h3 ⊢
    have Hnl := Lib.hid hnl
    clear hnl
    go_wp2_with fail
    go_loopw [12, 13] (fun v i wr => ∃ (k : Nat) (bf : Int), k ≤ n ∧ i = .int .i64 k ∧ v = .int .i64 bf ∧ (0 ≤ bf ∧ bf ≤ 10) ∧ Below w1.heap.size w1 wr ∧ badN m.top m.ease l 0 = (badN m.top m.ease (l.drop k) bf).map (· + k)) (fun _ i _ => n - (intOf i).toNat)
    case atStart => exact ⟨0, 0, Nat.zero_le _, rfl, rfl, ⟨by omega, by omega⟩, Below.refl _ _, by simp⟩
    case round =>
      obtain ⟨k, bf, hk, rfl, rfl, hbf, hbel, hbad⟩ := hrel
      have Hbad := Lib.hid hbad
      clear hbad
      have t0 := s0.below hbel s0.lt
      obtain ⟨_, q0, q1, q2⟩ := Row.at_3 t0
      have zr := t0.lt
      have bwr := b1.trans (hbel.mono b1.size)
      by_cases hlt : k < n
      · obtain ⟨b, o, rfl, hb, c0⟩ := (hl.below (bwr.mono hB)).at1n hlt
        have Hst := Lib.hid (badN_step (top := m.top) (ease := m.ease) (bf := bf) (l := l) (k := k) (by have := Hnl.out; omega))
        obtain ⟨s, hs⟩ : ∃ s, s = l[k]?.getD 0 := ⟨_, rfl⟩
        rw [← hs] at c0
        have Hs := Lib.hid hs
        clear hs
        have Hcan := Lib.hid (canB_ref m.top m.ease bf s)
        have e3 : IntKind.i64.wrap ((k : Int) + 1) = (k : Int) + 1 := IntWalk.i64_in _ (by omega)
        have hkl : (k : Int) < (n : Int) := by omega
        have hkn : k < n := hlt
        have hk0 : (0 : Int) ≤ (k : Int) := by omega
        go_upto_region 10 with (fail)
        go_cut [63] (fun s63 wx => s63 = .bool (!canB m.top m.ease bf s) ∧ wx = wr.drew)
        case first =>
          have S0 : (fun y : World => y.cell? ⟨w.heap.size, 0, none⟩ = some (.int .i64 m.top) ∧ y.cell? ⟨w.heap.size, 1, none⟩ = some (.int .i64 m.ease) ∧ y.cell? ⟨w.heap.size, 2, none⟩ = some (.int .i64 m.jerk) ∧ y.cell? ⟨b, o + k, none⟩ = some (.int .i64 s)) wr.drew := ⟨q0, q1, q2, c0⟩
          refine wp_region_held_drew (S := fun y : World => y.cell? ⟨w.heap.size, 0, none⟩ = some (.int .i64 m.top) ∧ y.cell? ⟨w.heap.size, 1, none⟩ = some (.int .i64 m.ease) ∧ y.cell? ⟨w.heap.size, 2, none⟩ = some (.int .i64 m.jerk) ∧ y.cell? ⟨b, o + k, none⟩ = some (.int .i64 s)) (by kernel_rfl) S0 (fun hS => ?_)
          refine wpAnyH_take (i := 0) (oi := ⟨some 34, _, _, _, _, _⟩) (v := ?tkva0) rfl (by kernel_rfl) (by kernel_rfl) (by kernel_rfl) (fun _ _ _ h => h) (Or.inl ⟨by rfl, ?tkya0⟩) (by assumption) ?tkra0
          case tkya0 => (intro x hx; obtain ⟨hx0, hx1, hx2, hx3⟩ := hx; go_simp; try with_reducible rfl)
          case tkra0 =>
          simp only [Act.put, List.setIfInBounds_toArray, List.set_cons_zero, List.set_cons_succ]
          refine wpAnyH_take (i := 1) (oi := ⟨some 35, _, _, _, _, _⟩) (v := ?tkva1) rfl (by kernel_rfl) (by kernel_rfl) (by kernel_rfl) (fun _ _ _ h => h) (Or.inl ⟨by rfl, ?tkya1⟩) (by assumption) ?tkra1
          case tkya1 => (intro x hx; obtain ⟨hx0, hx1, hx2, hx3⟩ := hx; go_simp; try with_reducible rfl)
          case tkra1 =>
          simp only [Act.put, List.setIfInBounds_toArray, List.set_cons_zero, List.set_cons_succ]
          refine wpAnyH_take (i := 2) (oi := ⟨some 36, _, _, _, _, _⟩) (v := ?tkva2) rfl (by kernel_rfl) (by kernel_rfl) (by kernel_rfl) (fun _ _ _ h => h) (Or.inl ⟨by rfl, ?tkya2⟩) (by assumption) ?tkra2
          case tkya2 => (intro x hx; obtain ⟨hx0, hx1, hx2, hx3⟩ := hx; go_simp; try with_reducible rfl)
          case tkra2 =>
          simp only [Act.put, List.setIfInBounds_toArray, List.set_cons_zero, List.set_cons_succ]
          refine wpAnyH_take (i := 3) (oi := ⟨some 37, _, _, _, _, _⟩) (v := ?tkva3) rfl (by kernel_rfl) (by kernel_rfl) (by kernel_rfl) (fun _ _ _ h => h) (Or.inl ⟨by rfl, ?tkya3⟩) (by assumption) ?tkra3
          case tkya3 => (intro x hx; obtain ⟨hx0, hx1, hx2, hx3⟩ := hx; go_simp; try with_reducible rfl)
          case tkra3 =>
          simp only [Act.put, List.setIfInBounds_toArray, List.set_cons_zero, List.set_cons_succ]
          refine wpAnyH_take (i := 4) (oi := ⟨some 38, _, _, _, _, _⟩) (v := ?tkva4) rfl (by kernel_rfl) (by kernel_rfl) (by kernel_rfl) (fun _ _ _ h => h) (Or.inl ⟨by rfl, ?tkya4⟩) (by assumption) ?tkra4
          case tkya4 => (intro x hx; obtain ⟨hx0, hx1, hx2, hx3⟩ := hx; go_simp; try with_reducible rfl)
          case tkra4 =>
          simp only [Act.put, List.setIfInBounds_toArray, List.set_cons_zero, List.set_cons_succ]
          refine wpAnyH_take (i := 5) (oi := ⟨some 39, _, _, _, _, _⟩) (v := ?tkva5) rfl (by kernel_rfl) (by kernel_rfl) (by kernel_rfl) (fun _ _ _ h => h) (Or.inl ⟨by rfl, ?tkya5⟩) (by assumption) ?tkra5
          case tkya5 => (intro x hx; obtain ⟨hx0, hx1, hx2, hx3⟩ := hx; go_simp; try with_reducible rfl)
          case tkra5 =>
          simp only [Act.put, List.setIfInBounds_toArray, List.set_cons_zero, List.set_cons_succ]
          refine wpAnyH_ready (rs := [6]) (by kernel_rfl) (by simp) ?_
          refine AllReadyH.cons (o := ⟨some 40, _, _, _, _, _⟩) rfl (fun K hK => ?_) AllReadyH.nil
          go_wp2_with (go_at_call 50; refine (from_any _ _ _ _).mono ?_; rintro e y1 ⟨rfl, rfl⟩)
          refine hK.out _ _ (by assumption) (fun hHeld => ?_)
          refine wpAnyH_take (i := 7) (oi := ⟨some 41, _, _, _, _, _⟩) (v := ?tkva7) rfl (by kernel_rfl) (by kernel_rfl) (by kernel_rfl) (fun _ _ _ h => h) (Or.inl ⟨by rfl, ?tkya7⟩) (by assumption) ?tkra7
          case tkya7 => (intro x hx; obtain ⟨hx0, hx1, hx2, hx3⟩ := hx; go_simp; try with_reducible rfl)
          case tkra7 =>
          simp only [Act.put, List.setIfInBounds_toArray, List.set_cons_zero, List.set_cons_succ]
          cases h1 : inB s 0 m.top with
          | false =>
            simp only [Bool.not_false]
            refine wpAnyH_take (i := 8) (oi := ⟨some 42, _, _, _, _, _⟩) (v := ?tkvb8) rfl (by kernel_rfl) (by kernel_rfl) (by kernel_rfl) (fun _ _ _ h => h) (Or.inl ⟨by rfl, ?tkyb8⟩) (by assumption) ?tkrb8
            case tkyb8 => (intro x hx; obtain ⟨hx0, hx1, hx2, hx3⟩ := hx; go_simp; try with_reducible rfl)
            case tkrb8 =>
            simp only [Act.put, List.setIfInBounds_toArray, List.set_cons_zero, List.set_cons_succ]
            refine wpAnyH_take (i := 9) (oi := ⟨some 43, _, _, _, _, _⟩) (v := undef) rfl (by kernel_rfl) (by kernel_rfl) (by kernel_rfl) (fun _ _ _ h => h) (Or.inr ⟨by rfl, rfl⟩) (by assumption) ?_
            simp only [Act.put, List.setIfInBounds_toArray, List.set_cons_zero, List.set_cons_succ]
            refine wpAnyH_take (i := 10) (oi := ⟨some 44, _, _, _, _, _⟩) (v := undef) rfl (by kernel_rfl) (by kernel_rfl) (by kernel_rfl) (fun _ _ _ h => h) (Or.inr ⟨by rfl, rfl⟩) (by assumption) ?_
            simp only [Act.put, List.setIfInBounds_toArray, List.set_cons_zero, List.set_cons_succ]
            refine wpAnyH_take (i := 11) (oi := ⟨some 45, _, _, _, _, _⟩) (v := undef) rfl (by kernel_rfl) (by kernel_rfl) (by kernel_rfl) (fun _ _ _ h => h) (Or.inr ⟨by rfl, rfl⟩) (by assumption) ?_
            simp only [Act.put, List.setIfInBounds_toArray, List.set_cons_zero, List.set_cons_succ]
            refine wpAnyH_take (i := 12) (oi := ⟨some 46, _, _, _, _, _⟩) (v := undef) rfl (by kernel_rfl) (by kernel_rfl) (by kernel_rfl) (fun _ _ _ h => h) (Or.inr ⟨by rfl, rfl⟩) (by assumption) ?_
            simp only [Act.put, List.setIfInBounds_toArray, List.set_cons_zero, List.set_cons_succ]
            refine wpAnyH_take (i := 13) (oi := ⟨some 47, _, _, _, _, _⟩) (v := undef) rfl (by kernel_rfl) (by kernel_rfl) (by kernel_rfl) (fun _ _ _ h => h) (Or.inr ⟨by rfl, rfl⟩) (by assumption) ?_
            simp only [Act.put, List.setIfInBounds_toArray, List.set_cons_zero, List.set_cons_succ]
            refine wpAnyH_take (i := 14) (oi := ⟨some 48, _, _, _, _, _⟩) (v := undef) rfl (by kernel_rfl) (by kernel_rfl) (by kernel_rfl) (fun _ _ _ h => h) (Or.inr ⟨by rfl, rfl⟩) (by assumption) ?_
            simp only [Act.put, List.setIfInBounds_toArray, List.set_cons_zero, List.set_cons_succ]
            refine wpAnyH_take (i := 15) (oi := ⟨some 49, _, _, _, _, _⟩) (v := undef) rfl (by kernel_rfl) (by kernel_rfl) (by kernel_rfl) (fun _ _ _ h => h) (Or.inr ⟨by rfl, rfl⟩) (by assumption) ?_
            simp only [Act.put, List.setIfInBounds_toArray, List.set_cons_zero, List.set_cons_succ]
            refine wpAnyH_take (i := 16) (oi := ⟨some 50, _, _, _, _, _⟩) (v := undef) rfl (by kernel_rfl) (by kernel_rfl) (by kernel_rfl) (fun _ _ _ h => h) (Or.inr ⟨by rfl, rfl⟩) (by assumption) ?_
            simp only [Act.put, List.setIfInBounds_toArray, List.set_cons_zero, List.set_cons_succ]
            refine wpAnyH_take (i := 17) (oi := ⟨some 51, _, _, _, _, _⟩) (v := undef) rfl (by kernel_rfl) (by kernel_rfl) (by kernel_rfl) (fun _ _ _ h => h) (Or.inr ⟨by rfl, rfl⟩) (by assumption) ?_
            simp only [Act.put, List.setIfInBounds_toArray, List.set_cons_zero, List.set_cons_succ]
            refine wpAnyH_take (i := 18) (oi := ⟨some 52, _, _, _, _, _⟩) (v := ?tkvb18) rfl (by kernel_rfl) (by kernel_rfl) (by kernel_rfl) (fun _ _ _ h => h) (Or.inl ⟨by rfl, ?tkyb18⟩) (by assumption) ?tkrb18
            case tkyb18 => (intro x hx; obtain ⟨hx0, hx1, hx2, hx3⟩ := hx; go_simp; try with_reducible rfl)
            case tkrb18 =>
            simp only [Act.put, List.setIfInBounds_toArray, List.set_cons_zero, List.set_cons_succ]
            refine wpAnyH_take (i := 19) (oi := ⟨some 53, _, _, _, _, _⟩) (v := ?tkvb19) rfl (by kernel_rfl) (by kernel_rfl) (by kernel_rfl) (fun _ _ _ h => h) (Or.inl ⟨by rfl, ?tkyb19⟩) (by assumption) ?tkrb19
            case tkyb19 => (intro x hx; obtain ⟨hx0, hx1, hx2, hx3⟩ := hx; go_simp; try with_reducible rfl)
            case tkrb19 =>
            simp only [Act.put, List.setIfInBounds_toArray, List.set_cons_zero, List.set_cons_succ]
            refine wpAnyH_take (i := 20) (oi := ⟨some 54, _, _, _, _, _⟩) (v := undef) rfl (by kernel_rfl) (by kernel_rfl) (by kernel_rfl) (fun _ _ _ h => h) (Or.inr ⟨by rfl, rfl⟩) (by assumption) ?_
            simp only [Act.put, List.setIfInBounds_toArray, List.set_cons_zero, List.set_cons_succ]
            refine wpAnyH_take (i := 21) (oi := ⟨some 55, _, _, _, _, _⟩) (v := undef) rfl (by kernel_rfl) (by kernel_rfl) (by kernel_rfl) (fun _ _ _ h => h) (Or.inr ⟨by rfl, rfl⟩) (by assumption) ?_
            simp only [Act.put, List.setIfInBounds_toArray, List.set_cons_zero, List.set_cons_succ]
            refine wpAnyH_take (i := 22) (oi := ⟨some 56, _, _, _, _, _⟩) (v := undef) rfl (by kernel_rfl) (by kernel_rfl) (by kernel_rfl) (fun _ _ _ h => h) (Or.inr ⟨by rfl, rfl⟩) (by assumption) ?_
            simp only [Act.put, List.setIfInBounds_toArray, List.set_cons_zero, List.set_cons_succ]
            refine wpAnyH_take (i := 23) (oi := ⟨some 57, _, _, _, _, _⟩) (v := undef) rfl (by kernel_rfl) (by kernel_rfl) (by kernel_rfl) (fun _ _ _ h => h) (Or.inr ⟨by rfl, rfl⟩) (by assumption) ?_
            simp only [Act.put, List.setIfInBounds_toArray, List.set_cons_zero, List.set_cons_succ]
            refine wpAnyH_take (i := 24) (oi := ⟨some 58, _, _, _, _, _⟩) (v := undef) rfl (by kernel_rfl) (by kernel_rfl) (by kernel_rfl) (fun _ _ _ h => h) (Or.inr ⟨by rfl, rfl⟩) (by assumption) ?_
            simp only [Act.put, List.setIfInBounds_toArray, List.set_cons_zero, List.set_cons_succ]
            refine wpAnyH_take (i := 25) (oi := ⟨some 59, _, _, _, _, _⟩) (v := undef) rfl (by kernel_rfl) (by kernel_rfl) (by kernel_rfl) (fun _ _ _ h => h) (Or.inr ⟨by rfl, rfl⟩) (by assumption) ?_
            simp only [Act.put, List.setIfInBounds_toArray, List.set_cons_zero, List.set_cons_succ]
            refine wpAnyH_take (i := 26) (oi := ⟨some 60, _, _, _, _, _⟩) (v := undef) rfl (by kernel_rfl) (by kernel_rfl) (by kernel_rfl) (fun _ _ _ h => h) (Or.inr ⟨by rfl, rfl⟩) (by assumption) ?_
            simp only [Act.put, List.setIfInBounds_toArray, List.set_cons_zero, List.set_cons_succ]
            refine wpAnyH_take (i := 27) (oi := ⟨some 61, _, _, _, _, _⟩) (v := undef) rfl (by kernel_rfl) (by kernel_rfl) (by kernel_rfl) (fun _ _ _ h => h) (Or.inr ⟨by rfl, rfl⟩) (by assumption) ?_
            simp only [Act.put, List.setIfInBounds_toArray, List.set_cons_zero, List.set_cons_succ]
            refine wpAnyH_take (i := 28) (oi := ⟨some 62, _, _, _, _, _⟩) (v := undef) rfl (by kernel_rfl) (by kernel_rfl) (by kernel_rfl) (fun _ _ _ h => h) (Or.inr ⟨by rfl, rfl⟩) (by assumption) ?_
            simp only [Act.put, List.setIfInBounds_toArray, List.set_cons_zero, List.set_cons_succ]
            refine wpAnyH_take (i := 29) (oi := ⟨some 63, _, _, _, _, _⟩) (v := ?tkvb29) rfl (by kernel_rfl) (by kernel_rfl) (by kernel_rfl) (fun _ _ _ h => h) (Or.inl ⟨by rfl, ?tkyb29⟩) (by assumption) ?tkrb29
            case tkyb29 => (intro x hx; obtain ⟨hx0, hx1, hx2, hx3⟩ := hx; go_simp; try with_reducible rfl)
            case tkrb29 =>
            simp only [Act.put, List.setIfInBounds_toArray, List.set_cons_zero, List.set_cons_succ]
            refine wpAnyH_done (by kernel_rfl) ?_ _
            go_wp2_with fail
            go_meet
            exact ⟨by rw [Hcan.out, h1]; rfl, rfl⟩
          | true =>
            have i1 := inB_iff.1 h1
            have e1 : IntKind.i64.wrap (s - bf) = s - bf := IntWalk.i64_in _ (by omega)
            have e2 : IntKind.i64.wrap (bf - s) = bf - s := IntWalk.i64_in _ (by omega)
            clear i1
            simp only [Bool.not_true]
            refine wpAnyH_take (i := 8) (oi := ⟨some 42, _, _, _, _, _⟩) (v := ?tkvc8) rfl (by kernel_rfl) (by kernel_rfl) (by kernel_rfl) (fun _ _ _ h => h) (Or.inl ⟨by rfl, ?tkyc8⟩) (by assumption) ?tkrc8
            case tkyc8 => (intro x hx; obtain ⟨hx0, hx1, hx2, hx3⟩ := hx; go_simp; try with_reducible rfl)
            case tkrc8 =>
            simp only [Act.put, List.setIfInBounds_toArray, List.set_cons_zero, List.set_cons_succ]
            refine wpAnyH_take (i := 9) (oi := ⟨some 43, _, _, _, _, _⟩) (v := ?tkvc9) rfl (by kernel_rfl) (by kernel_rfl) (by kernel_rfl) (fun _ _ _ h => h) (Or.inl ⟨by rfl, ?tkyc9⟩) (by assumption) ?tkrc9
            case tkyc9 => (intro x hx; obtain ⟨hx0, hx1, hx2, hx3⟩ := hx; go_simp; try with_reducible rfl)
            case tkrc9 =>
            simp only [Act.put, List.setIfInBounds_toArray, List.set_cons_zero, List.set_cons_succ]
            refine wpAnyH_take (i := 10) (oi := ⟨some 44, _, _, _, _, _⟩) (v := ?tkvc10) rfl (by kernel_rfl) (by kernel_rfl) (by kernel_rfl) (fun _ _ _ h => h) (Or.inl ⟨by rfl, ?tkyc10⟩) (by assumption) ?tkrc10
            case tkyc10 => (intro x hx; obtain ⟨hx0, hx1, hx2, hx3⟩ := hx; go_simp; try with_reducible rfl)
            case tkrc10 =>
            simp only [Act.put, List.setIfInBounds_toArray, List.set_cons_zero, List.set_cons_succ]
            refine wpAnyH_take (i := 11) (oi := ⟨some 45, _, _, _, _, _⟩) (v := ?tkvc11) rfl (by kernel_rfl) (by kernel_rfl) (by kernel_rfl) (fun _ _ _ h => h) (Or.inl ⟨by rfl, ?tkyc11⟩) (by assumption) ?tkrc11
            case tkyc11 => (intro x hx; obtain ⟨hx0, hx1, hx2, hx3⟩ := hx; go_simp; try with_reducible rfl)
            case tkrc11 =>
            simp only [Act.put, List.setIfInBounds_toArray, List.set_cons_zero, List.set_cons_succ]
            refine wpAnyH_take (i := 12) (oi := ⟨some 46, _, _, _, _, _⟩) (v := ?tkvc12) rfl (by kernel_rfl) (by kernel_rfl) (by kernel_rfl) (fun _ _ _ h => h) (Or.inl ⟨by rfl, ?tkyc12⟩) (by assumption) ?tkrc12
            case tkyc12 => (intro x hx; obtain ⟨hx0, hx1, hx2, hx3⟩ := hx; go_simp; try with_reducible rfl)
            case tkrc12 =>
            simp only [Act.put, List.setIfInBounds_toArray, List.set_cons_zero, List.set_cons_succ]
            refine wpAnyH_take (i := 13) (oi := ⟨some 47, _, _, _, _, _⟩) (v := ?tkvc13) rfl (by kernel_rfl) (by kernel_rfl) (by kernel_rfl) (fun _ _ _ h => h) (Or.inl ⟨by rfl, ?tkyc13⟩) (by assumption) ?tkrc13
            case tkyc13 => (intro x hx; obtain ⟨hx0, hx1, hx2, hx3⟩ := hx; go_simp; try with_reducible rfl)
            case tkrc13 =>
            simp only [Act.put, List.setIfInBounds_toArray, List.set_cons_zero, List.set_cons_succ]
            refine wpAnyH_take (i := 14) (oi := ⟨some 48, _, _, _, _, _⟩) (v := ?tkvc14) rfl (by kernel_rfl) (by kernel_rfl) (by kernel_rfl) (fun _ _ _ h => h) (Or.inl ⟨by rfl, ?tkyc14⟩) (by assumption) ?tkrc14
            case tkyc14 => (intro x hx; obtain ⟨hx0, hx1, hx2, hx3⟩ := hx; go_simp; try with_reducible rfl)
            case tkrc14 =>
            simp only [Act.put, List.setIfInBounds_toArray, List.set_cons_zero, List.set_cons_succ]
            refine wpAnyH_take (i := 15) (oi := ⟨some 49, _, _, _, _, _⟩) (v := ?tkvc15) rfl (by kernel_rfl) (by kernel_rfl) (by kernel_rfl) (fun _ _ _ h => h) (Or.inl ⟨by rfl, ?tkyc15⟩) (by assumption) ?tkrc15
            case tkyc15 => (intro x hx; obtain ⟨hx0, hx1, hx2, hx3⟩ := hx; go_simp; try with_reducible rfl)
            case tkrc15 =>
            simp only [Act.put, List.setIfInBounds_toArray, List.set_cons_zero, List.set_cons_succ]
            refine wpAnyH_take (i := 16) (oi := ⟨some 50, _, _, _, _, _⟩) (v := ?tkvc16) rfl (by kernel_rfl) (by kernel_rfl) (by kernel_rfl) (fun _ _ _ h => h) (Or.inl ⟨by rfl, ?tkyc16⟩) (by assumption) ?tkrc16
            case tkyc16 => (intro x hx; obtain ⟨hx0, hx1, hx2, hx3⟩ := hx; go_simp; try with_reducible rfl)
            case tkrc16 =>
            simp only [Act.put, List.setIfInBounds_toArray, List.set_cons_zero, List.set_cons_succ]
            refine wpAnyH_take (i := 17) (oi := ⟨some 51, _, _, _, _, _⟩) (v := ?tkvc17) rfl (by kernel_rfl) (by kernel_rfl) (by kernel_rfl) (fun _ _ _ h => h) (Or.inl ⟨by rfl, ?tkyc17⟩) (by assumption) ?tkrc17
            case tkyc17 => (intro x hx; obtain ⟨hx0, hx1, hx2, hx3⟩ := hx; go_simp; try with_reducible rfl)
            case tkrc17 =>
            simp only [Act.put, List.setIfInBounds_toArray, List.set_cons_zero, List.set_cons_succ]
            by_cases hc2 : m.ease < s - bf
            · have hd : decide (m.ease < s - bf) = true := by simpa using hc2
              simp only [hd]
              refine wpAnyH_take (i := 18) (oi := ⟨some 52, _, _, _, _, _⟩) (v := ?tkvd18) rfl (by kernel_rfl) (by kernel_rfl) (by kernel_rfl) (fun _ _ _ h => h) (Or.inl ⟨by rfl, ?tkyd18⟩) (by assumption) ?tkrd18
              case tkyd18 => (intro x hx; obtain ⟨hx0, hx1, hx2, hx3⟩ := hx; go_simp; try with_reducible rfl)
              case tkrd18 =>
              simp only [Act.put, List.setIfInBounds_toArray, List.set_cons_zero, List.set_cons_succ]
              refine wpAnyH_take (i := 19) (oi := ⟨some 53, _, _, _, _, _⟩) (v := ?tkvd19) rfl (by kernel_rfl) (by kernel_rfl) (by kernel_rfl) (fun _ _ _ h => h) (Or.inl ⟨by rfl, ?tkyd19⟩) (by assumption) ?tkrd19
              case tkyd19 => (intro x hx; obtain ⟨hx0, hx1, hx2, hx3⟩ := hx; go_simp; try with_reducible rfl)
              case tkrd19 =>
              simp only [Act.put, List.setIfInBounds_toArray, List.set_cons_zero, List.set_cons_succ]
              refine wpAnyH_take (i := 20) (oi := ⟨some 54, _, _, _, _, _⟩) (v := undef) rfl (by kernel_rfl) (by kernel_rfl) (by kernel_rfl) (fun _ _ _ h => h) (Or.inr ⟨by rfl, rfl⟩) (by assumption) ?_
              simp only [Act.put, List.setIfInBounds_toArray, List.set_cons_zero, List.set_cons_succ]
              refine wpAnyH_take (i := 21) (oi := ⟨some 55, _, _, _, _, _⟩) (v := undef) rfl (by kernel_rfl) (by kernel_rfl) (by kernel_rfl) (fun _ _ _ h => h) (Or.inr ⟨by rfl, rfl⟩) (by assumption) ?_
              simp only [Act.put, List.setIfInBounds_toArray, List.set_cons_zero, List.set_cons_succ]
              refine wpAnyH_take (i := 22) (oi := ⟨some 56, _, _, _, _, _⟩) (v := undef) rfl (by kernel_rfl) (by kernel_rfl) (by kernel_rfl) (fun _ _ _ h => h) (Or.inr ⟨by rfl, rfl⟩) (by assumption) ?_
              simp only [Act.put, List.setIfInBounds_toArray, List.set_cons_zero, List.set_cons_succ]
              refine wpAnyH_take (i := 23) (oi := ⟨some 57, _, _, _, _, _⟩) (v := undef) rfl (by kernel_rfl) (by kernel_rfl) (by kernel_rfl) (fun _ _ _ h => h) (Or.inr ⟨by rfl, rfl⟩) (by assumption) ?_
              simp only [Act.put, List.setIfInBounds_toArray, List.set_cons_zero, List.set_cons_succ]
              refine wpAnyH_take (i := 24) (oi := ⟨some 58, _, _, _, _, _⟩) (v := undef) rfl (by kernel_rfl) (by kernel_rfl) (by kernel_rfl) (fun _ _ _ h => h) (Or.inr ⟨by rfl, rfl⟩) (by assumption) ?_
              simp only [Act.put, List.setIfInBounds_toArray, List.set_cons_zero, List.set_cons_succ]
              refine wpAnyH_take (i := 25) (oi := ⟨some 59, _, _, _, _, _⟩) (v := undef) rfl (by kernel_rfl) (by kernel_rfl) (by kernel_rfl) (fun _ _ _ h => h) (Or.inr ⟨by rfl, rfl⟩) (by assumption) ?_
              simp only [Act.put, List.setIfInBounds_toArray, List.set_cons_zero, List.set_cons_succ]
              refine wpAnyH_take (i := 26) (oi := ⟨some 60, _, _, _, _, _⟩) (v := undef) rfl (by kernel_rfl) (by kernel_rfl) (by kernel_rfl) (fun _ _ _ h => h) (Or.inr ⟨by rfl, rfl⟩) (by assumption) ?_
              simp only [Act.put, List.setIfInBounds_toArray, List.set_cons_zero, List.set_cons_succ]
              refine wpAnyH_take (i := 27) (oi := ⟨some 61, _, _, _, _, _⟩) (v := undef) rfl (by kernel_rfl) (by kernel_rfl) (by kernel_rfl) (fun _ _ _ h => h) (Or.inr ⟨by rfl, rfl⟩) (by assumption) ?_
              simp only [Act.put, List.setIfInBounds_toArray, List.set_cons_zero, List.set_cons_succ]
              refine wpAnyH_take (i := 28) (oi := ⟨some 62, _, _, _, _, _⟩) (v := undef) rfl (by kernel_rfl) (by kernel_rfl) (by kernel_rfl) (fun _ _ _ h => h) (Or.inr ⟨by rfl, rfl⟩) (by assumption) ?_
              simp only [Act.put, List.setIfInBounds_toArray, List.set_cons_zero, List.set_cons_succ]
              refine wpAnyH_take (i := 29) (oi := ⟨some 63, _, _, _, _, _⟩) (v := ?tkvd29) rfl (by kernel_rfl) (by kernel_rfl) (by kernel_rfl) (fun _ _ _ h => h) (Or.inl ⟨by rfl, ?tkyd29⟩) (by assumption) ?tkrd29
              case tkyd29 => (intro x hx; obtain ⟨hx0, hx1, hx2, hx3⟩ := hx; go_simp; try with_reducible rfl)
              case tkrd29 =>
              simp only [Act.put, List.setIfInBounds_toArray, List.set_cons_zero, List.set_cons_succ]
              refine wpAnyH_done (by kernel_rfl) ?_ _
              go_wp2_with fail
              go_meet
              exact ⟨by rw [Hcan.out, h1, hd]; rfl, rfl⟩
            · have hd : decide (m.ease < s - bf) = false := by simpa using hc2
              simp only [hd]
              refine wpAnyH_take (i := 18) (oi := ⟨some 52, _, _, _, _, _⟩) (v := ?tkve18) rfl (by kernel_rfl) (by kernel_rfl) (by kernel_rfl) (fun _ _ _ h => h) (Or.inl ⟨by rfl, ?tkye18⟩) (by assumption) ?tkre18
              case tkye18 => (intro x hx; obtain ⟨hx0, hx1, hx2, hx3⟩ := hx; go_simp; try with_reducible rfl)
              case tkre18 =>
              simp only [Act.put, List.setIfInBounds_toArray, List.set_cons_zero, List.set_cons_succ]
              refine wpAnyH_take (i := 19) (oi := ⟨some 53, _, _, _, _, _⟩) (v := ?tkve19) rfl (by kernel_rfl) (by kernel_rfl) (by kernel_rfl) (fun _ _ _ h => h) (Or.inl ⟨by rfl, ?tkye19⟩) (by assumption) ?tkre19
              case tkye19 => (intro x hx; obtain ⟨hx0, hx1, hx2, hx3⟩ := hx; go_simp; try with_reducible rfl)
              case tkre19 =>
              simp only [Act.put, List.setIfInBounds_toArray, List.set_cons_zero, List.set_cons_succ]
              refine wpAnyH_take (i := 20) (oi := ⟨some 54, _, _, _, _, _⟩) (v := ?tkve20) rfl (by kernel_rfl) (by kernel_rfl) (by kernel_rfl) (fun _ _ _ h => h) (Or.inl ⟨by rfl, ?tkye20⟩) (by assumption) ?tkre20
              case tkye20 => (intro x hx; obtain ⟨hx0, hx1, hx2, hx3⟩ := hx; go_simp; try with_reducible rfl)
              case tkre20 =>
              simp only [Act.put, List.setIfInBounds_toArray, List.set_cons_zero, List.set_cons_succ]
              refine wpAnyH_take (i := 21) (oi := ⟨some 55, _, _, _, _, _⟩) (v := ?tkve21) rfl (by kernel_rfl) (by kernel_rfl) (by kernel_rfl) (fun _ _ _ h => h) (Or.inl ⟨by rfl, ?tkye21⟩) (by assumption) ?tkre21
              case tkye21 => (intro x hx; obtain ⟨hx0, hx1, hx2, hx3⟩ := hx; go_simp; try with_reducible rfl)
              case tkre21 =>
              simp only [Act.put, List.setIfInBounds_toArray, List.set_cons_zero, List.set_cons_succ]
              refine wpAnyH_take (i := 22) (oi := ⟨some 56, _, _, _, _, _⟩) (v := ?tkve22) rfl (by kernel_rfl) (by kernel_rfl) (by kernel_rfl) (fun _ _ _ h => h) (Or.inl ⟨by rfl, ?tkye22⟩) (by assumption) ?tkre22
              case tkye22 => (intro x hx; obtain ⟨hx0, hx1, hx2, hx3⟩ := hx; go_simp; try with_reducible rfl)
              case tkre22 =>
              simp only [Act.put, List.setIfInBounds_toArray, List.set_cons_zero, List.set_cons_succ]
              refine wpAnyH_take (i := 23) (oi := ⟨some 57, _, _, _, _, _⟩) (v := ?tkve23) rfl (by kernel_rfl) (by kernel_rfl) (by kernel_rfl) (fun _ _ _ h => h) (Or.inl ⟨by rfl, ?tkye23⟩) (by assumption) ?tkre23
              case tkye23 => (intro x hx; obtain ⟨hx0, hx1, hx2, hx3⟩ := hx; go_simp; try with_reducible rfl)
              case tkre23 =>
              simp only [Act.put, List.setIfInBounds_toArray, List.set_cons_zero, List.set_cons_succ]
              refine wpAnyH_take (i := 24) (oi := ⟨some 58, _, _, _, _, _⟩) (v := ?tkve24) rfl (by kernel_rfl) (by kernel_rfl) (by kernel_rfl) (fun _ _ _ h => h) (Or.inl ⟨by rfl, ?tkye24⟩) (by assumption) ?tkre24
              case tkye24 => (intro x hx; obtain ⟨hx0, hx1, hx2, hx3⟩ := hx; go_simp; try with_reducible rfl)
              case tkre24 =>
              simp only [Act.put, List.setIfInBounds_toArray, List.set_cons_zero, List.set_cons_succ]
              refine wpAnyH_take (i := 25) (oi := ⟨some 59, _, _, _, _, _⟩) (v := ?tkve25) rfl (by kernel_rfl) (by kernel_rfl) (by kernel_rfl) (fun _ _ _ h => h) (Or.inl ⟨by rfl, ?tkye25⟩) (by assumption) ?tkre25
              case tkye25 => (intro x hx; obtain ⟨hx0, hx1, hx2, hx3⟩ := hx; go_simp; try with_reducible rfl)
              case tkre25 =>
              simp only [Act.put, List.setIfInBounds_toArray, List.set_cons_zero, List.set_cons_succ]
              refine wpAnyH_take (i := 26) (oi := ⟨some 60, _, _, _, _, _⟩) (v := ?tkve26) rfl (by kernel_rfl) (by kernel_rfl) (by kernel_rfl) (fun _ _ _ h => h) (Or.inl ⟨by rfl, ?tkye26⟩) (by assumption) ?tkre26
              case tkye26 => (intro x hx; obtain ⟨hx0, hx1, hx2, hx3⟩ := hx; go_simp; try with_reducible rfl)
              case tkre26 =>
              simp only [Act.put, List.setIfInBounds_toArray, List.set_cons_zero, List.set_cons_succ]
              refine wpAnyH_take (i := 27) (oi := ⟨some 61, _, _, _, _, _⟩) (v := ?tkve27) rfl (by kernel_rfl) (by kernel_rfl) (by kernel_rfl) (fun _ _ _ h => h) (Or.inl ⟨by rfl, ?tkye27⟩) (by assumption) ?tkre27
              case tkye27 => (intro x hx; obtain ⟨hx0, hx1, hx2, hx3⟩ := hx; go_simp; try with_reducible rfl)
              case tkre27 =>
              simp only [Act.put, List.setIfInBounds_toArray, List.set_cons_zero, List.set_cons_succ]
              refine wpAnyH_take (i := 28) (oi := ⟨some 62, _, _, _, _, _⟩) (v := ?tkve28) rfl (by kernel_rfl) (by kernel_rfl) (by kernel_rfl) (fun _ _ _ h => h) (Or.inl ⟨by rfl, ?tkye28⟩) (by assumption) ?tkre28
              case tkye28 => (intro x hx; obtain ⟨hx0, hx1, hx2, hx3⟩ := hx; go_simp; try with_reducible rfl)
              case tkre28 =>
              simp only [Act.put, List.setIfInBounds_toArray, List.set_cons_zero, List.set_cons_succ]
              refine wpAnyH_take (i := 29) (oi := ⟨some 63, _, _, _, _, _⟩) (v := ?tkve29) rfl (by kernel_rfl) (by kernel_rfl) (by kernel_rfl) (fun _ _ _ h => h) (Or.inl ⟨by rfl, ?tkye29⟩) (by assumption) ?tkre29
              case tkye29 => (intro x hx; obtain ⟨hx0, hx1, hx2, hx3⟩ := hx; go_simp; try with_reducible rfl)
              case tkre29 =>
              simp only [Act.put, List.setIfInBounds_toArray, List.set_cons_zero, List.set_cons_succ]
              refine wpAnyH_done (by kernel_rfl) ?_ _
              go_wp2_with fail
              go_meet
              exact ⟨by rw [Hcan.out, h1, hd]; simp, rfl⟩
        case rest =>
          obtain ⟨rfl, rfl⟩ := hcut
          have c0' : wr.drew.cell? ⟨b, o + k, none⟩ = some (.int .i64 s) := c0
          cases hcb : canB m.top m.ease bf s with
          | false =>
            have HB2 : Hid (badI m.top m.ease l = (k : Int)) := by
              show _ = _
              unfold badI
              rw [Hbad.out, Hst.out, if_neg (by rw [← Hs.out, hcb]; simp)]
              simp
            have HS3 : Hid (runS t m x l = ([], (k : Int), 1)) := by show _ = _; rw [runS_2 Hq.out.symm H3.out (by rw [HB2.out]; omega), HB2.out]
            go_wp2_with fail
            go_ret3
            exact ⟨below_drewN bwr 1, none, 0, by rw [HS3.out]; rfl, by rw [HS3.out]; exact Reads.none_⟩
          | true =>
            have hsr : 0 ≤ s ∧ s ≤ 10 := by
              rw [canB_eq] at hcb
              have h1 : inB s 0 m.top = true := (Bool.and_eq_true_iff.1 hcb).1
              have := inB_iff.1 h1
              omega
            have Hb2 : Hid (badN m.top m.ease l 0 = (badN m.top m.ease (l.drop (k + 1)) s).map (· + (k + 1))) := by
              show _ = _
              rw [Hbad.out, Hst.out, if_pos (by rw [← Hs.out]; exact hcb), ← Hs.out, Option.map_map]
              congr 1
              funext j
              simp only [Function.comp]
              omega
            go_wp2_with fail
            go_roundw
            case rel => exact ⟨k + 1, s, by omega, by go_num, rfl, hsr, below_drewN hbel 1, Hb2.out⟩
            case measure => simp [intOf]; omega
      · obtain rfl : k = n := by omega
        have hbn : badI m.top m.ease l = -1 := by
          unfold badI
          rw [Hbad.out, List.drop_of_length_le (by have := Hnl.out; omega)]
          rfl
        have HBn := Lib.hid hbn
        have hno := bad_none hbn
        have hcan := bad_can l 0 hno
        have Hcn := Lib.hid hcan
        have hkl : ¬ (k : Int) < (k : Int) := by omega
        obtain ⟨w2, hw2⟩ : ∃ w2, w2 = wr := ⟨_, rfl⟩
        rw [← hw2] at hbel t0 bwr ⊢
        have t1 := s1.below hbel s1.lt
        clear hw2 q0 q1 q2 zr hbn hno hcan
        go_wp2_with fail
        go_loopw [14, 15, 12, 16] (fun v ph0 bf0 i wr => ∃ (j : Nat) (ph bf : Int) (done : List Pt), j ≤ k ∧ i = .int .i64 j ∧ ph0 = .int .i64 ph ∧ bf0 = .int .i64 bf ∧ done.length = j ∧ (0 ≤ ph ∧ ph < t.length) ∧ (0 ≤ bf ∧ bf ≤ 10) ∧ runI t l 0 0 = done ++ runI t (l.drop j) ph bf ∧ done.all (keptB x) = true ∧ wr.ownsRow w2.heap.size 28 3 v done.length (ptCells done) ∧ Below w2.heap.size w2 wr) (fun _ _ _ i _ => k - (intOf i).toNat)
        case atStart => exact ⟨0, 0, 0, [], Nat.zero_le _, rfl, rfl, rfl, rfl, ⟨by omega, by have := ((pathB_iff t).1 hpa).1; omega⟩, ⟨by omega, by omega⟩, by simp, rfl, owns_nil _ _ _ _, Below.refl _ _⟩
        case round =>
          obtain ⟨j, ph, bf, done, hj, rfl, rfl, rfl, hdl, hph, hbf, hrun, hall, hown, hbel2⟩ := hrel
          have Hrun := Lib.hid hrun
          have Hdl := Lib.hid hdl
          have Hall := Lib.hid hall
          clear hrun hdl hall
          have bwr2 := bwr.trans (hbel2.mono bwr.size)
          have u1 := t1.below hbel2 t1.lt
          obtain ⟨_, v0, v1, v2⟩ := Row.at_3 u1
          have zu := u1.lt
          by_cases hlj : j < k
          · obtain ⟨b, o, hA2, hb, c0⟩ := (hl.below (bwr2.mono hB)).at1n hlj
            subst hA2
            have hsr := Hcn.out j (by have := Hnl.out; omega)
            have Hst := Lib.hid (runI_step (t := t) (l := l) (k := j) (by have := Hnl.out; omega) ph bf)
            obtain ⟨s, hse⟩ : ∃ s, s = l[j]?.getD 0 := ⟨_, rfl⟩
            rw [← hse] at c0 hsr
            have Hse := Lib.hid hse
            clear hse
            have hs10 : 0 ≤ s ∧ s ≤ 10 := by omega
            obtain ⟨sn, hsn⟩ := Int.eq_ofNat_of_zero_le (show 0 ≤ s by omega)
            obtain ⟨bfn, hbfn⟩ := Int.eq_ofNat_of_zero_le (show 0 ≤ bf by omega)
            obtain ⟨phn, hphn⟩ := Int.eq_ofNat_of_zero_le (show 0 ≤ ph by omega)
            have hfe : ∀ X : World, Below w.heap.size w X → Calls Try.prog 51 #[.slice A t.length c, .agg #[.int .i64 ph, .int .i64 bf, .int .i64 s]] X fun e w' => e = .returned (ptV (feltI t ph bf s)) ∧ Below X.heap.size X w' := fun X hX => by
              rw [hsn, hbfn, hphn]
              have h1 := rfelt_any t ⟨phn, bfn, sn⟩ A c B X (Nat.le_trans hB hX.size) (hr.below (hX.mono hB)) hpa (by dsimp only; omega) (by dsimp only; omega) (by dsimp only; omega)
              have h2 := feltI_nat t ⟨phn, bfn, sn⟩ (by dsimp only; omega)
              rw [← h2] at h1
              exact h1
            have hbd := feltI_bd ((pathB_iff t).1 hpa).2.2 ph bf s
            obtain ⟨p, hp⟩ : ∃ p, p = feltI t ph bf s := ⟨_, rfl⟩
            rw [← hp] at hbd
            have hfp : feltB p = true := (feltB_iff _).2 ⟨hbd.1, hbd.2.1⟩
            have HF : Hid (∀ X : World, Below w.heap.size w X → Calls Try.prog 51 #[.slice A t.length c, .agg #[.int .i64 ph, .int .i64 bf, .int .i64 s]] X fun e w' => e = .returned (ptV p) ∧ Below X.heap.size X w') := fun X hX => by rw [hp]; exact hfe X hX
            have HKp : Hid (∀ X : World, Calls Try.prog 64 #[.agg #[.int .i64 p.x, .int .i64 p.y, .int .i64 p.z], .agg #[.int .i64 x.side, .int .i64 x.low, .int .i64 x.high]] X fun e w' => e = .returned (.bool (keptB x p)) ∧ Below X.heap.size X w') := fun X => Kept_any x p hli hfp X
            have Hp := Lib.hid hp
            have e1 : IntKind.i64.wrap (ph + s) = ph + s := IntWalk.i64_in _ (by have := ((pathB_iff t).1 hpa).2.1; omega)
            have e3 : IntKind.i64.wrap ((j : Int) + 1) = (j : Int) + 1 := IntWalk.i64_in _ (by omega)
            obtain ⟨ph2, hph2⟩ : ∃ ph2, ph2 = (ph + s) % (t.length : Int) := ⟨_, rfl⟩
            have e4 : (ph + s).tmod (t.length : Int) = ph2 := by rw [hph2, Int.tmod_eq_emod_of_nonneg (by omega)]
            have hne : (t.length : Int) ≠ 0 := by omega
            have hph2r : 0 ≤ ph2 ∧ ph2 < t.length := by rw [hph2]; exact ⟨Int.emod_nonneg _ hne, Int.emod_lt_of_pos _ (by omega)⟩
            have Hmod : Hid (runI t (l.drop (j + 1)) ph2 s = runI t (l.drop (j + 1)) (ph + s) s) := by show _ = _; rw [hph2]; exact runI_mod t _ _ _
            have hjl : (j : Int) < (k : Int) := by omega
            have htn : ¬ t = [] := by intro e; rw [e] at hph; simp at hph; omega
            clear hfe hbd hp hsn hbfn hphn hph2
            go_wp2_with fail
            refine (HF.out _ bwr2).mono ?_
            rintro e w5 ⟨rfl, hb5⟩
            have b5 := bwr2.trans (hb5.mono bwr2.size)
            have b5' := hbel2.trans (hb5.mono hbel2.size)
            have u5 := u1.below hb5 u1.lt
            have zb5 : b < wr.heap.size := by have := bwr2.size; omega
            have c5 := (hb5.cell (p := ⟨b, o + j, none⟩) zb5).trans c0
            have own5 : w5.ownsRow w2.heap.size 28 3 u14 done.length (ptCells done) := owns_heap hown fun g _ hg => hb5.block g hg
            unfold ptV
            obtain ⟨X, hX⟩ : ∃ X, X = w5.alloc (.cells #[.int .i64 p.x, .int .i64 p.y, .int .i64 p.z] 28) := ⟨_, rfl⟩
            have bX5 : Below w5.heap.size w5 X := by subst hX; exact (Below.refl _ _).alloc (Nat.le_refl _) _
            have pX : Row X w5.heap.size 28 [.int .i64 p.x, .int .i64 p.y, .int .i64 p.z] := by subst hX; exact Row.new w5 _ _
            have ownX : X.ownsRow w2.heap.size 28 3 u14 done.length (ptCells done) := owns_heap own5 fun g _ hg => bX5.block g hg
            have uX := u5.below bX5 u5.lt
            have bX := b5.trans (bX5.mono b5.size)
            have bX' := b5'.trans (bX5.mono b5'.size)
            obtain ⟨_, p0, p1, p2⟩ := Row.at_3 pX
            have cX := (bX5.cell (p := ⟨b, o + j, none⟩) (show b < w5.heap.size by have := hb5.size; omega)).trans c5
            have zX := pX.lt
            go_upto_region 20 with (fail)
            rw [← hX]
            clear hX v0 v1 v2
            obtain ⟨_, v0, v1, v2⟩ := Row.at_3 uX
            have zuX := uX.lt
            go_wp2_with fail
            refine (HKp.out _).mono ?_
            rintro e w6 ⟨rfl, hb6⟩
            have b6 := bX.trans (hb6.mono bX.size)
            have b6' := bX'.trans (hb6.mono bX'.size)
            have p6 := pX.below hb6 zX
            have own6 : w6.ownsRow w2.heap.size 28 3 u14 done.length (ptCells done) := owns_heap ownX fun g _ hg => hb6.block g hg
            clear p0 p1 p2
            obtain ⟨_, p0, p1, p2⟩ := Row.at_3 p6
            have zp6 := p6.lt
            have c6 := (hb6.cell (p := ⟨b, o + j, none⟩) (show b < X.heap.size by have := bX.size; omega)).trans cX
            cases hkp : keptB x p with
            | false =>
              have HBe : Hid (beyondI x (runI t l 0 0) = (j : Int)) := by
                show _ = _
                refine beyond_some (k := j) ?_ ?_ ?_
                · rw [runI_length]; have := Hnl.out; omega
                · rw [Hrun.out, ← Hdl.out, List.take_left]; exact Hall.out
                · rw [Hrun.out, Hst.out]
                  have hd := Hdl.out
                  have e9 : ptAt (done ++ feltI t ph bf (l[j]?.getD 0) :: runI t (l.drop (j + 1)) (ph + l[j]?.getD 0) (l[j]?.getD 0)) j = feltI t ph bf (l[j]?.getD 0) := by
                    simp [ptAt, hd]
                  rw [e9, ← Hse.out, ← Hp.out]
                  exact hkp
              have HS3 : Hid (runS t m x l = ([], (j : Int), 32)) := by show _ = _; rw [runS_3 Hq.out.symm H3.out HBn.out (by rw [HBe.out]; omega), HBe.out]
              go_wp2_with fail
              go_ret3
              exact ⟨b6, none, 0, by rw [HS3.out]; rfl, by rw [HS3.out]; exact Reads.none_⟩
            | true =>
              have m1 : done.length + 1 ≤ maxLen := by rw [Hdl.out]; unfold maxLen; omega
              have m2 : (done.length + 1) * 24 ≤ 140737488355328 := by rw [Hdl.out]; omega
              go_wp2_with (at_builtin; refine wpList_app _ rfl _ _ 22 rfl w2.heap.size 28 i0 (.agg #[.int .i64 0, .int .i64 0, .int .i64 0]) 3 24 Try.underlying22 hi hz0 hz1 hz2 rfl (by decide) u14 done.length (ptCells done) rfl ?qo (w6.heap.size + 1) (some ⟨w6.heap.size, 0, none⟩) 1 1 (ptCells [p]) rfl ?qr ?qq m1 m2 ?qb ?_)
              case qo => exact owns_alloc own6 _
              case qr => exact Row.reads (t := 28) (row_one _ _ _ _ rfl) rfl (by omega)
              case qq => intro u' hu'; simp [ptCells] at hu'; rcases hu' with rfl | rfl | rfl <;> rfl
              case qb => have := b6'.size; simp; omega
              intro v' w7 hown' hbel'
              have bA := b6'.alloc b6'.size (.cells #[.int .i64 p.x, .int .i64 p.y, .int .i64 p.z] 28)
              have b7' := bA.trans hbel'
              have c7 : w7.cell? ⟨b, o + j, none⟩ = some (.int .i64 s) := by
                have h1 : b < w2.heap.size := by have := bwr.size; omega
                have h2 := (b7'.cell (p := ⟨b, o + j, none⟩) h1)
                have h3 := (hbel2.cell (p := ⟨b, o + j, none⟩) h1)
                rw [h2, ← h3]
                exact c0
              clear c0 c5 cX c6
              go_wp2_with fail
              go_roundw
              case rel =>
                refine ⟨j + 1, ph2, s, done ++ [p], by omega, by go_num, rfl, rfl, by simp [Hdl.out], hph2r, hs10, ?_, ?_, ?_, b7'⟩
                · rw [Hrun.out, Hst.out, ← Hse.out, ← Hp.out, Hmod.out]; simp
                · rw [List.all_append, Hall.out]; simpa using hkp
                · rw [ptCells_app]
                  simpa [ptCells] using hown'
              case measure => simp [intOf]; omega
          · obtain rfl : j = k := by omega
            have hjl : ¬ (j : Int) < (j : Int) := by omega
            have hown2 := own_reads hown
            obtain ⟨A', c', hA, hrd⟩ := hown2
            subst hA
            have HL : Hid (runI t l 0 0 = done) := by show _ = _; rw [Hrun.out, List.drop_of_length_le (by have := Hnl.out; omega)]; simp [runI]
            have HBe : Hid (beyondI x (runI t l 0 0) = -1) := by show _ = _; rw [HL.out]; exact beyond_none Hall.out
            have HS4 : Hid (runS t m x l = (done, 0, 0)) := by show _ = _; rw [runS_4 Hq.out.symm H3.out HBn.out HBe.out, HL.out]
            go_wp2_with fail
            go_ret3
            exact ⟨bwr2, A', c', by rw [HS4.out]; rfl, by rw [HS4.out]; exact hrd⟩
end Go.Proofs.Ytbhojgkmhomajaa
