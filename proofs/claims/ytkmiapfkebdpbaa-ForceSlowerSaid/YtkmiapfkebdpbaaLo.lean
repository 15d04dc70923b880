/- Contracts of the specification's keeps and Fastest. Conditions: a path reads as points. -/
import Derived.Test.YtkmiapfkebdpbaaLn
import Derived.Test.YtkmiapfkebdpbaaLm
import Derived.Test.YtkmiapfkebdpbaaLd
import Derived.Test.YtkmiapfkebdpbaaKl
namespace Go.Proofs.Ytkmiapfkebdpbaa
open Go.RowKit

theorem keepsZ_at {t : List Pt} {T s : Nat} {x : Lim} {k : Nat} {ch : Chg} (hk : (chgs t.length T s)[k]? = some ch) (h : ∀ j c, j < k → (chgs t.length T s)[j]? = some c → keptB x (feltZ t c) = true) (hn : keptB x (feltZ t ch) = false) : keepsZ t T s x = (ch, false) := by
  have e : (chgs t.length T s).find? (fun c => !keptB x (feltZ t c)) = some ch := by
    rw [List.find?_eq_some_iff_getElem]
    obtain ⟨hlt, he⟩ := List.getElem?_eq_some_iff.1 hk
    refine ⟨by simp [hn], k, hlt, he, fun j hj => ?_⟩
    have := h j ((chgs t.length T s)[j]) hj (List.getElem?_eq_getElem (by omega))
    simp [this]
  unfold keepsZ
  rw [e]
theorem keepsZ_none {t : List Pt} {T s : Nat} {x : Lim} (h : ∀ j c, j < (chgs t.length T s).length → (chgs t.length T s)[j]? = some c → keptB x (feltZ t c) = true) : keepsZ t T s x = (⟨0, 0, 0⟩, true) := by
  have e : (chgs t.length T s).find? (fun c => !keptB x (feltZ t c)) = none := by
    rw [List.find?_eq_none]
    intro c hc
    obtain ⟨j, hj, he⟩ := List.mem_iff_getElem.1 hc
    have := h j c hj (by rw [List.getElem?_eq_getElem hj, he])
    simp [this]
  unfold keepsZ
  rw [e]
theorem feltZ_bd {t : List Pt} (h : pathB t = true) (ch : Chg) (hp : ch.ph < t.length) : feltB (feltZ t ch) = true := by
  rw [← feltI_nat t ch hp]
  have hb := feltI_bd ((pathB_iff t).1 h).2.2 ch.ph ch.bf ch.af
  exact (feltB_iff _).2 ⟨hb.1, hb.2.1⟩
def KzPost (w : World) (r : Chg × Bool) (e : Ending) (w' : World) : Prop := Below w.heap.size w w' ∧ e = .returned (.tuple #[encC r.1, .bool r.2])

set_option maxRecDepth 100000 in
set_option maxHeartbeats 4000000 in
theorem rkeeps_any (t : List Pt) (T sp : Nat) (ea je : Int) (x : Lim) (fails : Bool) (A : Option Addr) (c B : Nat) (w : World) (hB : B ≤ w.heap.size) (hr : Reads w B 3 A t.length (ptCells t)) (ht : pathB t = true) (hx : limB x = true) (hT : T ≤ 10) (hs : sp ≤ 10) (hsp : (if fails = true then je else ea) = (sp : Int)) :
    Calls Try.prog 56 #[.slice A t.length c, motV ⟨T, ea, je⟩, limV x, .bool fails] w (KzPost w (keepsZ t T sp x)) := by
  obtain ⟨n1, n2, hspn⟩ := (pathB_iff t).1 ht
  obtain ⟨W, hW⟩ : ∃ W, W = ((w.alloc (.cells #[.int .i64 (T : Int), .int .i64 ea, .int .i64 je] 35)).alloc (.cells #[.int .i64 x.side, .int .i64 x.low, .int .i64 x.high] 37)).alloc (.cells #[.int .i64 0, .int .i64 0, .int .i64 0] 24) := ⟨_, rfl⟩
  have bW : Below w.heap.size w W := by subst hW; exact (((Below.refl _ _).alloc (Nat.le_refl _) _).alloc (by simp) _).alloc (by simp; omega) _
  have r0 : Row W w.heap.size 35 [.int .i64 (T : Int), .int .i64 ea, .int .i64 je] := by subst hW; exact ((Row.new w _ _).alloc _).alloc _
  have r1 : Row W (w.heap.size + 1) 37 [.int .i64 x.side, .int .i64 x.low, .int .i64 x.high] := by
    subst hW
    have h := (Row.new (w.alloc (.cells #[.int .i64 (T : Int), .int .i64 ea, .int .i64 je] 35)) 37 #[.int .i64 x.side, .int .i64 x.low, .int .i64 x.high]).alloc (.cells #[.int .i64 0, .int .i64 0, .int .i64 0] 24)
    simpa only [World.size_alloc] using h
  have r2 : Row W (w.heap.size + 1 + 1) 24 [.int .i64 0, .int .i64 0, .int .i64 0] := by
    subst hW
    have h := Row.new ((w.alloc (.cells #[.int .i64 (T : Int), .int .i64 ea, .int .i64 je] 35)).alloc (.cells #[.int .i64 x.side, .int .i64 x.low, .int .i64 x.high] 37)) 24 #[.int .i64 0, .int .i64 0, .int .i64 0]
    simpa only [World.size_alloc] using h
  obtain ⟨_, q0, q1, q2⟩ := Row.at_3 r0
  have z0 := r0.lt
  have z1 := r1.lt
  have z2 := r2.lt
  have HC : ∀ X : World, Calls Try.prog 59 #[.slice A t.length c, .agg #[.int .i64 (T : Int), .int .i64 ea, .int .i64 je], .int .i64 (if fails = true then je else ea)] X (ChsPost X (chgs t.length T sp)) := fun X => by
    rw [hsp]
    exact Changes_any t.length T sp ea je A c X (by omega) hT hs
  have HS : ∀ X : World, Calls Try.prog 60 #[.agg #[.int .i64 (T : Int), .int .i64 ea, .int .i64 je], .bool fails] X fun e w' => e = .returned (.int .i64 (if fails = true then je else ea)) ∧ Below X.heap.size X w' := fun X => step_any ⟨T, ea, je⟩ fails X
  have HC := Lib.hid HC
  have HS := Lib.hid HS
  have Hsp := Lib.hid hsp
  obtain ⟨stp, hstp⟩ : ∃ stp, stp = (if fails = true then je else ea) := ⟨_, rfl⟩
  rw [← hstp] at HC HS
  clear hsp hstp
  unfold motV limV
  dsimp only
  go_enter Try.func56, Try.ntmps56
  go_upto_region 1 with (fail)
  rw [← hW]
  clear hW
  go_region_held3 (fun y => y.cell? ⟨w.heap.size, 0, none⟩ = some (.int .i64 (T : Int)) ∧ y.cell? ⟨w.heap.size, 1, none⟩ = some (.int .i64 ea) ∧ y.cell? ⟨w.heap.size, 2, none⟩ = some (.int .i64 je)) (go_keep) (first
    | (go_at_call 60; refine (HS.out _).mono ?_; rintro e y1 ⟨rfl, hy1⟩; have hyb := below_drewN_out' hy1; obtain ⟨_, q0, q1, q2⟩ := Row.at_3 (r0.below hyb z0))
    | (go_at_call 59; refine (HC.out _).mono ?_; rintro e y2 ⟨hy2, AC, cC, rfl, hrd⟩; have hyb2 : Below W.heap.size W y2 := below_step hyb hy2; obtain ⟨_, q0, q1, q2⟩ := Row.at_3 (r0.below hyb2 z0)))
  have bY := bW.trans (hyb2.mono bW.size)
  have s1 := r1.below hyb2 z1
  have s2 := r2.below hyb2 z2
  obtain ⟨L, hL⟩ : ∃ L, L = chgs t.length T sp := ⟨_, rfl⟩
  rw [← hL] at hrd ⊢
  have hLl : L.length ≤ 100000 := by
    rw [hL, chgs_phR]
    have := some_len (T := T) (s := sp) (n := t.length) (p := t.length) (v := 0) (k := 0) hT (by omega) (Nat.le_refl _) (by omega) (by omega)
    simpa [vsR, wsR] using this
  have hmem : ∀ (k : Nat) (ch : Chg), L[k]? = some ch → ch.ph < t.length ∧ ch.bf ≤ 10 ∧ ch.af ≤ 10 := fun k ch h => by
    have h1 : ch ∈ chgs t.length T sp := by rw [← hL]; exact List.mem_of_getElem? h
    have h2 := (mem_chgs _ _ _ _).1 h1
    omega
  have Hat : Hid (∀ k ch, L[k]? = some ch → (∀ j c, j < k → L[j]? = some c → keptB x (feltZ t c) = true) → keptB x (feltZ t ch) = false → keepsZ t T sp x = (ch, false)) := fun k ch h1 h2 h3 => keepsZ_at (by rw [← hL]; exact h1) (by rw [← hL]; exact h2) h3
  have Hnone : Hid ((∀ j c, j < L.length → L[j]? = some c → keptB x (feltZ t c) = true) → keepsZ t T sp x = (⟨0, 0, 0⟩, true)) := fun h => keepsZ_none (by rw [← hL]; exact h)
  have Hmem := Lib.hid hmem
  clear hL hmem q0 q1 q2 r0 r1 r2
  go_wp2_with fail
  go_loopw [11] (fun i wr => ∃ k : Nat, k ≤ L.length ∧ i = .int .i64 k ∧ Below y2.heap.size y2 wr ∧ ∀ j c, j < k → L[j]? = some c → keptB x (feltZ t c) = true) (fun i _ => L.length - (intOf i).toNat)
  case atStart => exact ⟨0, Nat.zero_le _, rfl, Below.refl _ _, fun j c h => absurd h (by omega)⟩
  case round =>
    obtain ⟨k, hk, rfl, hbel, hall⟩ := hrel
    have Hall := Lib.hid hall
    clear hall
    have sz := hbel.size
    have t1 := s1.below hbel s1.lt
    have t2 := s2.below hbel s2.lt
    obtain ⟨_, v0, v1, v2⟩ := Row.at_3 t1
    obtain ⟨fR, g0, g1, g2⟩ := Row.at_3 t2
    have y1 := t1.lt
    have y2' := t2.lt
    have bwr := bY.trans (hbel.mono bY.size)
    by_cases hlt : k < L.length
    · obtain ⟨ch, hch⟩ : ∃ ch, L[k]? = some ch := ⟨_, List.getElem?_eq_getElem hlt⟩
      obtain ⟨m1, m2, m3⟩ := Hmem.out k ch hch
      obtain ⟨b, o, rfl, hb, c0, c1, c2⟩ := (hrd.below hbel).atp hlt
      have hpc : ptAt (L.map chgPt) k = chgPt ch := by simp [ptAt, hch]
      rw [hpc] at c0 c1 c2
      simp only [chgPt] at c0 c1 c2
      have hfb := feltZ_bd ht ch m1
      have hrf := rfelt_any t ch A c B
      obtain ⟨f, hf⟩ : ∃ f, f = feltZ t ch := ⟨_, rfl⟩
      have HF : Hid (∀ X : World, Below w.heap.size w X → Calls Try.prog 51 #[.slice A t.length c, .agg #[.int .i64 (ch.ph : Int), .int .i64 (ch.bf : Int), .int .i64 (ch.af : Int)]] X fun e w' => e = .returned (ptV f) ∧ Below X.heap.size X w') := fun X hX => by
        rw [hf]
        exact hrf X (Nat.le_trans hB hX.size) (hr.below (hX.mono hB)) ht m1 m2 m3
      rw [← hf] at hfb
      have HKp : Hid (∀ X : World, Calls Try.prog 64 #[.agg #[.int .i64 f.x, .int .i64 f.y, .int .i64 f.z], .agg #[.int .i64 x.side, .int .i64 x.low, .int .i64 x.high]] X fun e w' => e = .returned (.bool (keptB x f)) ∧ Below X.heap.size X w') := fun X => Kept_any x f hx hfb X
      have Hf := Lib.hid hf
      have Hch := Lib.hid hch
      clear hf hch hpc hrf
      have e3 : IntKind.i64.wrap ((k : Int) + 1) = (k : Int) + 1 := IntWalk.i64_in _ (by omega)
      have hkl : (k : Int) < (L.length : Int) := by omega
      have hk0 : (0 : Int) ≤ (k : Int) := by omega
      have hLn : ¬ L = [] := by intro e; rw [e] at hlt; simp at hlt
      have zb : b < wr.heap.size := by omega
      have D0 := Lib.hid c0
      have D1 := Lib.hid c1
      have D2 := Lib.hid c2
      cases hkp : keptB x f
      all_goals
        rw [hkp] at HKp
        go_upto_region 5 with (fail)
        go_region_held3 (fun y => y.cell? ⟨b, o + k * 3, none⟩ = some (.int .i64 (ch.ph : Int)) ∧ y.cell? ⟨b, o + k * 3 + 1, none⟩ = some (.int .i64 (ch.bf : Int)) ∧ y.cell? ⟨b, o + k * 3 + 2, none⟩ = some (.int .i64 (ch.af : Int)) ∧ y.cell? ⟨w.heap.size + 1, 0, none⟩ = some (.int .i64 x.side) ∧ y.cell? ⟨w.heap.size + 1, 1, none⟩ = some (.int .i64 x.low) ∧ y.cell? ⟨w.heap.size + 1, 2, none⟩ = some (.int .i64 x.high)) (go_keep) (first
          | (go_at_call 51; refine (HF.out _ (by first | exact bwr | exact bwr.drew | exact below_drewN bwr _)).mono ?_; rintro e u1 ⟨rfl, hu1⟩; have hub := below_drewN_out' hu1; unfold ptV; have c0 := (hub.cell (p := ⟨b, o + k * 3, none⟩) zb).trans c0; have c1 := (hub.cell (p := ⟨b, o + k * 3 + 1, none⟩) zb).trans c1; have c2 := (hub.cell (p := ⟨b, o + k * 3 + 2, none⟩) zb).trans c2; obtain ⟨_, v0, v1, v2⟩ := Row.at_3 (t1.below hub y1))
          | (go_at_call 64; refine (HKp.out _).mono ?_; rintro e u2 ⟨rfl, hu2⟩; have hub2 : Below wr.heap.size wr u2 := below_step hub (by first | exact hu2 | exact below_drewN_out' hu2); have c0 := (hub2.cell (p := ⟨b, o + k * 3, none⟩) zb).trans D0.out; have c1 := (hub2.cell (p := ⟨b, o + k * 3 + 1, none⟩) zb).trans D1.out; have c2 := (hub2.cell (p := ⟨b, o + k * 3 + 2, none⟩) zb).trans D2.out; obtain ⟨_, v0, v1, v2⟩ := Row.at_3 (t1.below hub2 y1)))
      · have t3 := t2.below hub2 y2'
        have zz := t3.lt
        obtain ⟨fR, g0, g1, g2⟩ := Row.at_3 t3
        go_wp2_with fail
        refine bodyPost_ret (v := .tuple #[.agg #[.int .i64 (ch.ph : Int), .int .i64 (ch.bf : Int), .int .i64 (ch.af : Int)], .bool false]) (by simp [results, Try.results56, go_sem, *]) rfl ?_
        refine ⟨below_set3 (bwr.trans (hub2.mono bwr.size)) (by omega) _ _ _, ?_⟩
        rw [Hat.out k ch Hch.out Hall.out (by rw [← Hf.out]; exact hkp)]
        rfl
      · go_wp2_with fail
        go_roundw
        case rel => exact ⟨k + 1, by omega, by go_num, hbel.trans (hub2.mono hbel.size), fun j c hj hc => by
          rcases Nat.lt_or_ge j k with h | h
          · exact Hall.out j c h hc
          · obtain rfl : j = k := by omega
            rw [Hch.out] at hc
            injection hc with hc
            rw [← hc, ← Hf.out]
            exact hkp⟩
        case measure => simp [intOf]; omega
    · obtain rfl : k = L.length := by omega
      have hkl : ¬ (L.length : Int) < (L.length : Int) := by omega
      go_wp2_with fail
      refine bodyPost_ret (v := .tuple #[.agg #[.int .i64 0, .int .i64 0, .int .i64 0], .bool true]) (by simp [results, Try.results56, go_sem, *]) rfl ?_
      refine ⟨below_set3 bwr (by omega) _ _ _, ?_⟩
      rw [Hnone.out Hall.out]
      rfl
end Go.Proofs.Ytkmiapfkebdpbaa
