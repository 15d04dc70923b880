/- Contract of Fastest. Conditions: a path reads as points. -/
import Derived.Test.YtkmiapfkebdpbaaKk
import Derived.Deep.LoopGhost
namespace Go.Proofs.Ytkmiapfkebdpbaa
open Go.RowKit

def fastS (t : List Pt) (m : Mot) (x : Lim) (fails : Bool) : Int × Int :=
  if limE t m x ≠ 0 then (0, limE t m x) else if fastZ t (stepOf m fails).toNat x m.top.toNat = 0 then (0, 3) else ((fastZ t (stepOf m fails).toNat x m.top.toNat : Int), 0)
def FaPost (w : World) (t : List Pt) (m : Mot) (x : Lim) (fails : Bool) (e : Ending) (w' : World) : Prop :=
  Below w.heap.size w w' ∧ e = .returned (.tuple #[.int .i64 (fastS t m x fails).1, .int .i64 (fastS t m x fails).2])

theorem keepS_at {t : List Pt} {m : Mot} {x : Lim} {fails : Bool} (h0 : limE t m x = 0) {T sp k : Nat} (hT : m.top = (T : Int)) (hs : stepOf m fails = (sp : Int)) (hk : 1 ≤ k) (hkT : k ≤ T) :
    keepS t ⟨k, m.ease, m.jerk⟩ x fails = ((keepsZ t k sp x).1, (keepsZ t k sp x).2, 0) := by
  obtain ⟨h1, h2, h3⟩ := limE_zero.1 h0
  have h4 := (motB_iff m).1 h2
  have h5 : limE t ⟨(k : Int), m.ease, m.jerk⟩ x = 0 := limE_zero.2 ⟨h1, (motB_iff _).2 ⟨by dsimp only; omega, h4.2.1, h4.2.2.1, h4.2.2.2⟩, h3⟩
  unfold keepS
  rw [if_neg (by rw [h5]; simp)]
  have e1 : (stepOf ⟨(k : Int), m.ease, m.jerk⟩ fails).toNat = sp := by
    have : stepOf ⟨(k : Int), m.ease, m.jerk⟩ fails = stepOf m fails := rfl
    rw [this, hs]; rfl
  rw [e1]
  rfl

set_option maxRecDepth 100000 in
set_option maxHeartbeats 4000000 in
theorem Fastest_any (t : List Pt) (m : Mot) (x : Lim) (fails : Bool) (A : Option Addr) (c B : Nat) (w : World) (hB : B ≤ w.heap.size) (hr : Reads w B 3 A t.length (ptCells t)) (hn : t.length ≤ maxLen) :
    Calls Try.prog 24 #[.slice A t.length c, motV m, limV x, .bool fails] w (FaPost w t m x fails) := by
  obtain ⟨W, hW⟩ : ∃ W, W = (w.alloc (.cells #[.int .i64 m.top, .int .i64 m.ease, .int .i64 m.jerk] 35)).alloc (.cells #[.int .i64 x.side, .int .i64 x.low, .int .i64 x.high] 37) := ⟨_, rfl⟩
  have sW : W.heap.size = w.heap.size + 2 := by subst hW; simp
  have bW : Below w.heap.size w W := by subst hW; exact ((Below.refl _ _).alloc (Nat.le_refl _) _).alloc (by simp) _
  have r0 : Row W w.heap.size 35 [.int .i64 m.top, .int .i64 m.ease, .int .i64 m.jerk] := by subst hW; exact (Row.new w _ _).alloc _
  have r1 : Row W (w.heap.size + 1) 37 [.int .i64 x.side, .int .i64 x.low, .int .i64 x.high] := by
    subst hW
    have h := Row.new (w.alloc (.cells #[.int .i64 m.top, .int .i64 m.ease, .int .i64 m.jerk] 35)) 37 #[.int .i64 x.side, .int .i64 x.low, .int .i64 x.high]
    simpa only [World.size_alloc] using h
  unfold motV limV
  go_enter Try.func24, Try.ntmps24
  go_wp2_with fail
  rw [← hW]
  clear hW
  refine (checkLimited_any t m x A c B W (by omega) (hr.below (bW.mono hB)) hn).mono ?_
  rintro e w1 ⟨rfl, hb1⟩
  have b1 := bW.trans (hb1.mono bW.size)
  have s0 := r0.below hb1 r0.lt
  have s1 := r1.below hb1 r1.lt
  clear r0 r1 bW
  obtain ⟨q, hq⟩ : ∃ q, q = limE t m x := ⟨_, rfl⟩
  rw [← hq]
  have Hq := Lib.hid hq
  clear hq
  by_cases h0 : q = 0
  case neg =>
    have h1 : (q != 0) = true := by simpa using h0
    go_wp2_with fail
    go_ret2
    refine ⟨b1, ?_⟩
    unfold fastS
    rw [← Hq.out, if_pos h0]
    rfl
  case pos =>
    subst h0
    have hE := limE_zero.1 Hq.out.symm
    have hmo' := (motB_iff m).1 hE.2.1
    obtain ⟨T, hT⟩ := Int.eq_ofNat_of_zero_le (show 0 ≤ m.top by omega)
    obtain ⟨sp, hsp⟩ := Int.eq_ofNat_of_zero_le (show 0 ≤ stepOf m fails by unfold stepOf; split <;> omega)
    have hT10 : T ≤ 10 := by omega
    have HT := Lib.hid hT
    have Hsp := Lib.hid hsp
    rw [hT] at s0
    clear hT hsp
    have HB : Hid (fastS t m x fails = if fastZ t sp x T = 0 then (0, 3) else ((fastZ t sp x T : Int), 0)) := by
      show _ = _
      unfold fastS
      rw [if_neg (by rw [← Hq.out]; simp), HT.out, Hsp.out]
      rfl
    go_wp2_with fail
    go_loopg [] T (fun k wr => k ≤ T ∧ Below w.heap.size w wr ∧ Row wr w.heap.size 35 [.int .i64 (k : Int), .int .i64 m.ease, .int .i64 m.jerk] ∧ Row wr (w.heap.size + 1) 37 [.int .i64 x.side, .int .i64 x.low, .int .i64 x.high] ∧ fastZ t sp x T = fastZ t sp x k)
    case atStart => exact ⟨Nat.le_refl _, b1, s0, s1, rfl⟩
    case round =>
      obtain ⟨hkT, hb, m0, m1, hfz⟩ := hrel
      have Hfz := Lib.hid hfz
      clear hfz
      obtain ⟨fM, k0, k1, k2⟩ := Row.at_3 m0
      obtain ⟨_, l0, l1, l2⟩ := Row.at_3 m1
      cases gk with
      | zero =>
        go_wp2_with fail
        go_ret2
        refine ⟨hb, ?_⟩
        have h5 := HB.out
        rw [Hfz.out] at h5
        rw [h5]
        rfl
      | succ k =>
        have hks : ∃ ch, keepS t ⟨(k : Int) + 1, m.ease, m.jerk⟩ x fails = (ch, (keepsZ t (k + 1) sp x).2, 0) := ⟨_, keepS_at Hq.out.symm HT.out Hsp.out (k := k + 1) (by omega) hkT⟩
        obtain ⟨ch, hks⟩ := hks
        have Hks := Lib.hid hks
        clear hks
        have h1k : (1 : Int) ≤ (k : Int) + 1 := by omega
        have e1 : IntKind.i64.wrap ((k : Int) + 1 - 1) = (k : Int) := by rw [IntWalk.i64_in _ (by omega)]; omega
        have zw : w.heap.size + 1 < wr.heap.size := m1.lt
        go_wp2_with fail
        refine (Keeps_any t ⟨(k : Int) + 1, m.ease, m.jerk⟩ x fails A c B wr (by have := hb.size; omega) (hr.below (hb.mono hB)) hn).mono ?_
        rintro e w4 ⟨hb4, rfl⟩
        rw [Hks.out]
        have b4 := hb.trans (hb4.mono hb.size)
        have n0 := m0.below hb4 m0.lt
        have n1 := m1.below hb4 m1.lt
        obtain ⟨gM, i0, i1, i2⟩ := Row.at_3 n0
        obtain ⟨_, j0, j1, j2⟩ := Row.at_3 n1
        have z4 : w.heap.size < w4.heap.size := n0.lt
        dsimp only
        unfold encC chgV
        cases hk : (keepsZ t (k + 1) sp x).2 with
        | true =>
          go_wp2_with fail
          go_ret2
          refine ⟨b4.alloc b4.size _, ?_⟩
          have h5 := HB.out
          have h6 : fastZ t sp x T = k + 1 := by rw [Hfz.out]; simp [fastZ, hk]
          rw [h6, if_neg (by omega)] at h5
          rw [h5]
          simp
        | false =>
          go_wp2_with fail
          go_roundg k
          case measure => omega
          case rel =>
            refine ⟨by omega, Below.alloc (b4.setCell (p := ⟨w.heap.size, 0, none⟩) (Nat.le_refl _) _) (by have := b4.size; simp [World.setCell]; omega) _, (n0.set 0 _).alloc _, (n1.far (p := ⟨w.heap.size, 0, none⟩) (by simp) _).alloc _, ?_⟩
            rw [Hfz.out]
            simp [fastZ, hk]
end Go.Proofs.Ytkmiapfkebdpbaa
