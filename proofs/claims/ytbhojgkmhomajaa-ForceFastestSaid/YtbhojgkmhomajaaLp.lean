/- Contract of the specification's Fastest, and the walk of ForceFastest. Conditions: a path reads as points. -/
import Derived.Test.YtbhojgkmhomajaaLo
import Derived.Test.YtbhojgkmhomajaaLc
import Derived.Test.YtbhojgkmhomajaaLl
namespace Go.Proofs.Ytbhojgkmhomajaa
open Go.RowKit

set_option maxRecDepth 100000 in
set_option maxHeartbeats 4000000 in
theorem rFastest_any (t : List Pt) (m : Mot) (x : Lim) (fails : Bool) (A : Option Addr) (c B : Nat) (w : World) (hB : B ≤ w.heap.size) (hr : Reads w B 3 A t.length (ptCells t)) (hn : t.length ≤ maxLen) :
    Calls Try.prog 25 #[.slice A t.length c, motV m, limV x, .bool fails] w (FaPost w t m x fails) := by
  obtain ⟨W, hW⟩ : ∃ W, W = (w.alloc (.cells #[.int .i64 m.top, .int .i64 m.ease, .int .i64 m.jerk] 35)).alloc (.cells #[.int .i64 x.side, .int .i64 x.low, .int .i64 x.high] 37) := ⟨_, rfl⟩
  have bW : Below w.heap.size w W := by subst hW; exact ((Below.refl _ _).alloc (Nat.le_refl _) _).alloc (by simp) _
  have r0 : Row W w.heap.size 35 [.int .i64 m.top, .int .i64 m.ease, .int .i64 m.jerk] := by subst hW; exact (Row.new w _ _).alloc _
  have r1 : Row W (w.heap.size + 1) 37 [.int .i64 x.side, .int .i64 x.low, .int .i64 x.high] := by
    subst hW
    have h := Row.new (w.alloc (.cells #[.int .i64 m.top, .int .i64 m.ease, .int .i64 m.jerk] 35)) 37 #[.int .i64 x.side, .int .i64 x.low, .int .i64 x.high]
    simpa only [World.size_alloc] using h
  have hc := checked_any t m x A c B W (Nat.le_trans hB bW.size) (hr.below (bW.mono hB)) hn
  unfold motV limV at hc ⊢
  go_enter Try.func25, Try.ntmps25
  go_wp2_with fail
  rw [← hW]
  clear hW
  refine hc.mono ?_
  rintro e w1 ⟨rfl, hb1⟩
  have b1 := bW.trans (hb1.mono bW.size)
  have s0 := r0.below hb1 r0.lt
  have s1 := r1.below hb1 r1.lt
  clear r0 r1 bW
  obtain ⟨q, hq⟩ : ∃ q, q = limE t m x := ⟨_, rfl⟩
  rw [← hq]
  have Hq := Lib.hid hq
  clear hq
  obtain ⟨_, u0, u1, u2⟩ := Row.at_3 s0
  have z0 := s0.lt
  by_cases h0 : q = 0
  case neg =>
    have h1 : (q != 0) = true := by simpa using h0
    go_wp2_with fail
    go_ret2
    refine ⟨b1, ?_⟩
    unfold fastS
    rw [← Hq.out, if_pos h0]
    rfl
  case pos =>
    subst h0
    obtain ⟨hpa, hmo, hli⟩ := limE_zero.1 Hq.out.symm
    have hmo' := (motB_iff m).1 hmo
    obtain ⟨T, hT⟩ := Int.eq_ofNat_of_zero_le (show 0 ≤ m.top by omega)
    obtain ⟨sp, hsp⟩ := Int.eq_ofNat_of_zero_le (show 0 ≤ stepOf m fails by unfold stepOf; split <;> omega)
    have hsp' : (if fails = true then m.jerk else m.ease) = (sp : Int) := hsp
    have hsp10 : sp ≤ 10 := by
      have : (sp : Int) ≤ 10 := by rw [← hsp']; split <;> omega
      omega
    have hT10 : T ≤ 10 := by omega
    have HT := Lib.hid hT
    have Hsp := Lib.hid hsp
    have Hsp' := Lib.hid hsp'
    rw [hT] at u0
    clear hT hsp hsp'
    have HB : Hid (fastS t m x fails = if fastZ t sp x T = 0 then (0, 3) else ((fastZ t sp x T : Int), 0)) := by
      show _ = _
      unfold fastS
      rw [if_neg (by rw [← Hq.out]; simp), HT.out, Hsp.out]
      rfl
    go_wp2_with fail
    go_loopw [11] (fun i wr => ∃ k : Nat, k ≤ T ∧ i = .int .i64 (k : Int) ∧ Below w.heap.size w wr ∧ Row wr w.heap.size 35 [.int .i64 m.top, .int .i64 m.ease, .int .i64 m.jerk] ∧ Row wr (w.heap.size + 1) 37 [.int .i64 x.side, .int .i64 x.low, .int .i64 x.high] ∧ fastZ t sp x T = fastZ t sp x k) (fun i _ => (intOf i).toNat)
    case atStart => exact ⟨T, Nat.le_refl _, rfl, b1, s0, s1, rfl⟩
    case round =>
      obtain ⟨k, hkT, rfl, hb, m0, m1, hfz⟩ := hrel
      have Hfz := Lib.hid hfz
      clear hfz u0 u1 u2
      obtain ⟨fM, k0, k1, k2⟩ := Row.at_3 m0
      obtain ⟨_, l0, l1, l2⟩ := Row.at_3 m1
      have zw : w.heap.size + 1 < wr.heap.size := m1.lt
      have zw0 : w.heap.size < wr.heap.size := m0.lt
      cases k with
      | zero =>
        go_wp2_with fail
        go_ret2
        refine ⟨hb, ?_⟩
        have h5 := HB.out
        rw [Hfz.out] at h5
        rw [h5]
        rfl
      | succ k =>
        have h1k : (1 : Int) ≤ ((k + 1 : Nat) : Int) := by omega
        have e1 : IntKind.i64.wrap (((k + 1 : Nat) : Int) - 1) = (k : Int) := by rw [IntWalk.i64_in _ (by omega)]; omega
        have hke := rkeeps_any t (k + 1) sp m.ease m.jerk x fails A c B wr (by have := hb.size; omega) (hr.below (hb.mono hB)) hpa hli (by omega) hsp10 Hsp'.out
        unfold motV limV at hke
        dsimp only at hke
        obtain ⟨N, hN⟩ : ∃ N, N = k + 1 := ⟨_, rfl⟩
        rw [← hN] at hke e1 h1k hkT ⊢
        have hfz : Hid (fastZ t sp x N = if (keepsZ t N sp x).2 = true then N else fastZ t sp x k) := by show _ = _; rw [hN]; rfl
        have HN := Lib.hid hN
        rw [← hN] at Hfz
        clear hN
        obtain ⟨r, hr0⟩ : ∃ r, r = keepsZ t N sp x := ⟨_, rfl⟩
        rw [← hr0] at hke hfz
        clear hr0
        obtain ⟨ch, is⟩ := r
        dsimp only at hke hfz
        go_wp2_with fail
        refine hke.mono ?_
        rintro e w4 ⟨hb4, rfl⟩
        have b4 := hb.trans (hb4.mono hb.size)
        have n0 := m0.below hb4 m0.lt
        have n1 := m1.below hb4 m1.lt
        unfold encC chgV
        dsimp only
        have bA := b4.alloc b4.size (.cells #[.int .i64 (ch.ph : Int), .int .i64 (ch.bf : Int), .int .i64 (ch.af : Int)] 24)
        cases is with
        | true =>
          go_wp2_with fail
          go_ret2
          refine ⟨bA, ?_⟩
          have h5 := HB.out
          have h6 : fastZ t sp x T = N := by rw [Hfz.out, hfz.out]; rfl
          rw [h6, if_neg (by have := HN.out; omega)] at h5
          rw [h5]
          rfl
        | false =>
          go_wp2_with fail
          go_roundw
          case rel => exact ⟨k, by have := HN.out; omega, rfl, bA, n0.alloc _, n1.alloc _, by rw [Hfz.out, hfz.out]; rfl⟩
          case measure => have := HN.out; simp [intOf]; omega

set_option maxRecDepth 100000 in
set_option maxHeartbeats 4000000 in
theorem fastest_walk (t : List Pt) (m : Mot) (x : Lim) (fails : Bool) (A : Option Addr) (c B : Nat) (w : World) (hB : B ≤ w.heap.size) (hr : Reads w B 3 A t.length (ptCells t)) (hn : t.length ≤ maxLen) :
    Calls Try.prog 5 #[.slice A t.length c, rideV m x fails] w (TruePost w) := by
  obtain ⟨W, hW⟩ : ∃ W, W = w.alloc (.cells #[.int .i64 m.top, .int .i64 m.ease, .int .i64 m.jerk, .int .i64 x.side, .int .i64 x.low, .int .i64 x.high, .bool fails] 39) := ⟨_, rfl⟩
  have bW : Below w.heap.size w W := by subst hW; exact (Below.refl _ _).alloc (Nat.le_refl _) _
  have rC : Row W w.heap.size 39 [.int .i64 m.top, .int .i64 m.ease, .int .i64 m.jerk, .int .i64 x.side, .int .i64 x.low, .int .i64 x.high, .bool fails] := by subst hW; exact Row.new w _ _
  have hrW := hr.below (bW.mono hB)
  obtain ⟨_, q0, q1, q2, q3, q4, q5, q6⟩ := Row.at_7 rC
  have z0 := rC.lt
  unfold rideV
  go_enter Try.func5, Try.ntmps5
  by_cases h70 : 70 < t.length
  · have h70' : (70 : Int) < (t.length : Int) := by omega
    go_wp2_with fail
    rw [← hW]
    clear hW
    refine (works_any _).mono ?_
    rintro e w4 ⟨rfl, hb4⟩
    go_wp2_with fail
    go_ret
    exact ⟨rfl, bW.trans (hb4.mono bW.size)⟩
  have h70' : ¬ (70 : Int) < (t.length : Int) := by omega
  obtain ⟨F, hF⟩ : ∃ F, F = (fastS t m x fails).1 := ⟨_, rfl⟩
  obtain ⟨E, hE⟩ : ∃ E, E = (fastS t m x fails).2 := ⟨_, rfl⟩
  have HO : Hid (∀ X, Below W.heap.size W X → Calls Try.prog 16 #[.slice A t.length c] X fun e w' => OwPost X t e w' ∧ Below W.heap.size W w') := fun X hX =>
    (own_any t A c B X (Nat.le_trans hB (Nat.le_trans bW.size hX.size)) (hrW.below (hX.mono (Nat.le_trans hB bW.size))) (by omega)).mono fun _ _ h => ⟨h, below_step hX h.1⟩
  have HFa : Hid (∀ X A1 c1, Below W.heap.size W X → Reads X X.heap.size 3 A1 t.length (ptCells t) → Calls Try.prog 24 #[.slice A1 t.length c1, .agg #[.int .i64 m.top, .int .i64 m.ease, .int .i64 m.jerk], .agg #[.int .i64 x.side, .int .i64 x.low, .int .i64 x.high], .bool fails] X fun e w' => e = .returned (.tuple #[.int .i64 F, .int .i64 E]) ∧ Below W.heap.size W w') := fun X A1 c1 hX hrX =>
    (Fastest_any t m x fails A1 c1 X.heap.size X (Nat.le_refl _) hrX hn).mono fun _ _ h => ⟨by rw [h.2, hF, hE], below_step hX h.1⟩
  have HFr : Hid (∀ X, Below W.heap.size W X → Calls Try.prog 25 #[.slice A t.length c, .agg #[.int .i64 m.top, .int .i64 m.ease, .int .i64 m.jerk], .agg #[.int .i64 x.side, .int .i64 x.low, .int .i64 x.high], .bool fails] X fun e w' => e = .returned (.tuple #[.int .i64 F, .int .i64 E]) ∧ Below W.heap.size W w') := fun X hX =>
    (rFastest_any t m x fails A c B X (Nat.le_trans hB (Nat.le_trans bW.size hX.size)) (hrW.below (hX.mono (Nat.le_trans hB bW.size))) hn).mono fun _ _ h => ⟨by rw [h.2, hF, hE], below_step hX h.1⟩
  clear hF hE
  go_upto_region 3 with (fail)
  rw [← hW]
  clear hW
  go_region_held3 (fun y => y.cell? ⟨w.heap.size, 0, none⟩ = some (.int .i64 m.top) ∧ y.cell? ⟨w.heap.size, 1, none⟩ = some (.int .i64 m.ease) ∧ y.cell? ⟨w.heap.size, 2, none⟩ = some (.int .i64 m.jerk) ∧ y.cell? ⟨w.heap.size, 3, none⟩ = some (.int .i64 x.side) ∧ y.cell? ⟨w.heap.size, 4, none⟩ = some (.int .i64 x.low) ∧ y.cell? ⟨w.heap.size, 5, none⟩ = some (.int .i64 x.high) ∧ y.cell? ⟨w.heap.size, 6, none⟩ = some (.bool fails)) (go_keep) (first
    | (go_at_call 16; refine (HO.out _ (by first | exact Below.refl _ _ | exact Below.drew (Below.refl _ _) | exact below_drewN (Below.refl _ _) _)).mono ?_; rintro e y1 ⟨⟨hy1, A1, c1, rfl, hr1⟩, hyb⟩; obtain ⟨_, q0, q1, q2, q3, q4, q5, q6⟩ := Row.at_7 (rC.below hyb z0))
    | (go_at_call 24; refine (HFa.out _ _ _ (by first | exact hyb | exact hyb.drew | exact below_drewN hyb _) (by first | exact hr1 | exact hr1.drewN _)).mono ?_; rintro e y2 ⟨rfl, hyb2⟩; obtain ⟨_, q0, q1, q2, q3, q4, q5, q6⟩ := Row.at_7 (rC.below hyb2 z0)))
  have z2 : w.heap.size < y2.heap.size := Nat.lt_of_lt_of_le z0 hyb2.size
  go_wp2_with fail
  refine (HFr.out _ hyb2).mono ?_
  rintro e y3 ⟨rfl, hyb3⟩
  go_wp2_with fail
  refine (works_any _).mono ?_
  rintro e y4 ⟨rfl, hb4⟩
  go_wp2_with fail
  go_ret
  exact ⟨rfl, bW.trans ((below_step hyb3 hb4).mono bW.size)⟩
end Go.Proofs.Ytbhojgkmhomajaa
