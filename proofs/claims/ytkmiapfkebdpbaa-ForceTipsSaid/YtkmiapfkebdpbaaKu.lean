/- Contract of moment. Conditions: a valid rig that reads as data, its foot lines; a phase and a line that it has; a function that tells which seats are full, and changes nothing that was there. -/
import Derived.Test.YtkmiapfkebdpbaaKt
namespace Go.Proofs.Ytkmiapfkebdpbaa
open Go.RowKit

theorem turn_bd {a b p : Pt} (ha : spanB a = true) (hb : spanB b = true) (hp : spanB p = true) : -800000000 ≤ turnZ a b p ∧ turnZ a b p ≤ 800000000 := by
  have ha := (spanB_iff a).1 ha
  have hb := (spanB_iff b).1 hb
  have hp := (spanB_iff p).1 hp
  have m1 := mul_near (a := b.x - a.x) (b := p.y - a.y) (M := 20000) (N := 20000) (by omega) (by omega) (by omega) (by omega)
  have m2 := mul_near (a := b.y - a.y) (b := p.x - a.x) (M := 20000) (N := 20000) (by omega) (by omega) (by omega) (by omega)
  unfold turnZ
  omega
theorem ptAt_spanA {t : List Pt} (h : t.all spanB = true) (k : Nat) : spanB (ptAt t k) = true := by
  have := pathB_at (t := t) (fun p hp => List.all_eq_true.1 h p hp) k
  exact (spanB_iff _).2 this
theorem seatsB_at {ss : List (List Pt)} (h : seatsB ss = true) {i : Nat} (hi : i < ss.length) : pathB (pathAt ss i) = true ∧ (pathAt ss i).length = (pathAt ss 0).length := by
  unfold seatsB at h
  have h1 := List.all_eq_true.1 h ss[i] (List.getElem_mem hi)
  have e : pathAt ss i = ss[i] := by simp [pathAt, hi]
  rw [e]
  simpa [seatB] using h1
theorem seat_span {r : RigZ} (h : rigB r = true) (i ph : Nat) : spanB (seatAt r i ph) = true := by
  obtain ⟨_, hs, _⟩ := rigB_parts h
  rcases Nat.lt_or_ge i r.seats.length with hi | hi
  · have h1 := (pathB_iff _).1 (seatsB_at hs hi).1
    exact (spanB_iff _).2 (pathB_at h1.2.2 ph)
  · unfold seatAt
    rw [List.getElem?_eq_none hi]
    rfl
theorem arm_bd {r : RigZ} (h : rigB r = true) (k : Nat) {p : Pt} (hp : spanB p = true) : -800000000 ≤ armZ r.feet k p ∧ armZ r.feet k p ≤ 800000000 := by
  obtain ⟨_, _, ⟨_, _, hsp, _⟩, _⟩ := rigB_parts h
  exact turn_bd (ptAt_spanA hsp _) (ptAt_spanA hsp _) hp
theorem mom_bd {r : RigZ} (h : rigB r = true) (ld : Nat → Bool) (ph k : Nat) : ∀ j : Nat, -((j : Int) + 1) * 800000000000000 ≤ momK r ld ph k j ∧ momK r ld ph k j ≤ ((j : Int) + 1) * 800000000000000 := by
  obtain ⟨_, _, _, hce, hfr, hem, hfu⟩ := rigB_parts h
  intro j
  induction j with
  | zero =>
    have h1 := arm_bd h k hce
    have h2 := mul_near (a := r.frame) (b := armZ r.feet k r.center) (M := 1000000) (N := 800000000) (by omega) (by omega) (by omega) (by omega)
    simp only [momK]
    omega
  | succ j ih =>
    have h1 := arm_bd h k (seat_span h j ph)
    have h2 := mul_near (a := if ld j = true then r.full else r.empty) (b := armZ r.feet k (seatAt r j ph)) (M := 1000000) (N := 800000000) (by split <;> omega) (by split <;> omega) (by omega) (by omega)
    simp only [momK]
    omega
theorem phZ_at {r : RigZ} (h : rigB r = true) {i : Nat} (hi : i < r.seats.length) : (pathAt r.seats i).length = phZ r := by
  obtain ⟨_, hs, _⟩ := rigB_parts h
  unfold phZ
  rw [if_neg (by omega), (seatsB_at hs hi).2]
/-- A function that tells which seats are full. -/
def Tells (w : World) (fid : FuncId) (caps : Array Value) (n : Nat) (ld : Nat → Bool) : Prop :=
  ∀ (i : Nat) (x : World), i < n → Below w.heap.size w x → Calls Try.prog fid (#[.int .i64 (i : Int)] ++ caps) x fun e x' => e = .returned (.bool (ld i)) ∧ Below x.heap.size x x'

set_option maxRecDepth 100000 in
set_option maxHeartbeats 4000000 in
theorem moment_any (r : RigZ) (R : RigR) (B g ph p k : Nat) (w : World) (fid : FuncId) (caps : Array Value) (ld : Nat → Bool) (hB : B ≤ w.heap.size) (hR : RigIn w B r R) (hv : rigB r = true) (hL : Lines w g r.feet r.feet.length) (hk : k < r.feet.length) (hp : p < phZ r)
    (hfid : ∀ a w, Sem.run Try.prog (callFunc fid a) w = Result.ok (Next.enter fid a) w) (hT : Tells w fid caps r.seats.length ld) :
    Calls Try.prog 71 #[gRigV r R g ph, .int .i64 (p : Int), .int .i64 (k : Int), .func (.func fid) #[] caps] w fun e w' => e = .returned (.int .i64 (momZ r ld p k)) ∧ Below w.heap.size w w' := by
  obtain ⟨A1, k1, rs, A2, k2⟩ := R
  have hRs := hR.s
  dsimp only at hRs
  obtain ⟨hs20, hsb, ⟨h3, h8, hsp, hgr, hcv⟩, hce, hfr, hem, hfu⟩ := rigB_parts hv
  obtain ⟨W, hW⟩ : ∃ W, W = w.alloc (.cells (gCells r ⟨A1, k1, rs, A2, k2⟩ g ph).toArray 101) := ⟨_, rfl⟩
  have bW : Below w.heap.size w W := by subst hW; exact (Below.refl _ _).alloc (Nat.le_refl _) _
  have rW : Row W w.heap.size 101 (gCells r ⟨A1, k1, rs, A2, k2⟩ g ph) := by subst hW; exact Row.new w _ (gCells r ⟨A1, k1, rs, A2, k2⟩ g ph).toArray
  have LW := hL.keep (bW.block g hL.lt)
  have zg := hL.lt
  obtain ⟨d0, d1, d2, d3, d4, d5⟩ := LW.cells hk
  have ha := ptAt_spanA hsp k
  have hb := ptAt_spanA hsp ((k + 1) % r.feet.length)
  have Harm : Hid (∀ q, armZ r.feet k q = turnZ (ptAt r.feet k) (ptAt r.feet ((k + 1) % r.feet.length)) q) := fun q => rfl
  generalize ptAt r.feet k = a at *
  generalize ptAt r.feet ((k + 1) % r.feet.length) = b at *
  unfold gRigV
  dsimp only
  unfold gCells at rW hW
  dsimp only at rW hW
  obtain ⟨_, q0, q1, q2, q3, q4, q5, q6, q7, q8, q9⟩ := Row.at_10 rW
  have hkl : (k : Int) < (r.feet.length : Int) := by omega
  have hnil : ¬ r.feet = [] := by intro e; rw [e] at hk; simp at hk
  go_enter Try.func71, Try.ntmps71
  go_upto_region 1 with (fail)
  rw [← hW]
  clear hW
  go_upto_region 2 with (fail)
  obtain ⟨X, hX⟩ : ∃ X, X = W.alloc (.cells #[.int .i64 a.x, .int .i64 a.y, .int .i64 a.z, .int .i64 b.x, .int .i64 b.y, .int .i64 b.z] 125) := ⟨_, rfl⟩
  rw [← hX]
  have bX : Below w.heap.size w X := by subst hX; exact bW.alloc bW.size _
  have rX : Row X w.heap.size 101 (gCells r ⟨A1, k1, rs, A2, k2⟩ g ph) := by subst hX; exact rW.alloc _
  have lX : Row X W.heap.size 125 [.int .i64 a.x, .int .i64 a.y, .int .i64 a.z, .int .i64 b.x, .int .i64 b.y, .int .i64 b.z] := by subst hX; exact Row.new W _ _
  obtain ⟨G, hG⟩ : ∃ G, G = W.heap.size := ⟨_, rfl⟩
  rw [← hG] at lX ⊢
  have zG : w.heap.size < G := by rw [hG]; exact rW.lt
  unfold gCells at rX
  dsimp only at rX
  clear hX hG q0 q1 q2 q3 q4 q5 q6 q7 q8 q9 d0 d1 d2 d3 d4 d5 LW rW bW
  obtain ⟨_, q0, q1, q2, q3, q4, q5, q6, q7, q8, q9⟩ := Row.at_10 rX
  obtain ⟨_, d0, d1, d2, d3, d4, d5⟩ := Row.at_6 lX
  obtain ⟨z, hz⟩ : ∃ z, z = turnZ a b r.center := ⟨_, rfl⟩
  have hz1 := turn_bd ha hb hce
  rw [← hz] at hz1
  have hm1 := mul_near (a := r.frame) (b := z) (M := 1000000) (N := 800000000) (by omega) (by omega) (by omega) (by omega)
  obtain ⟨m0, hm0⟩ : ∃ m0, m0 = r.frame * z := ⟨_, rfl⟩
  rw [← hm0] at hm1
  have e0 : IntKind.i64.wrap (r.frame * z) = m0 := by rw [← hm0]; exact IntWalk.i64_in _ (by omega)
  have H0 : Hid (momK r ld p k 0 = m0) := by show _ = _; simp only [momK]; rw [Harm.out, ← hz, hm0]
  have Hz := Lib.hid hz
  clear hz hm0 hz1 hm1
  have zX1 := rX.lt
  have zX2 := lX.lt
  go_region_held3 (fun y => y.cell? ⟨w.heap.size, 2, none⟩ = some (.int .i64 r.frame) ∧ y.cell? ⟨w.heap.size, 3, none⟩ = some (.int .i64 r.center.x) ∧ y.cell? ⟨w.heap.size, 4, none⟩ = some (.int .i64 r.center.y) ∧ y.cell? ⟨w.heap.size, 5, none⟩ = some (.int .i64 r.center.z) ∧ y.cell? ⟨G, 0, none⟩ = some (.int .i64 a.x) ∧ y.cell? ⟨G, 1, none⟩ = some (.int .i64 a.y) ∧ y.cell? ⟨G, 2, none⟩ = some (.int .i64 a.z) ∧ y.cell? ⟨G, 3, none⟩ = some (.int .i64 b.x) ∧ y.cell? ⟨G, 4, none⟩ = some (.int .i64 b.y) ∧ y.cell? ⟨G, 5, none⟩ = some (.int .i64 b.z)) (go_keep) (first
    | (go_at_call 86; refine (inside_at z a b r.center Hz.out ha hb hce _).mono ?_; rintro e y ⟨rfl, hy⟩; have hyb := below_drewN_out' hy; obtain ⟨_, q0, q1, q2, q3, q4, q5, q6, q7, q8, q9⟩ := Row.at_10 (rX.below hyb zX1); obtain ⟨_, d0, d1, d2, d3, d4, d5⟩ := Row.at_6 (lX.below hyb zX2)))
  have bY := bX.trans (hyb.mono bX.size)
  have rY := rX.below hyb zX1
  have lY := lX.below hyb zX2
  clear q0 q1 q2 q3 q4 q5 q6 q7 q8 q9 d0 d1 d2 d3 d4 d5 hyb rX lX bX zX1 zX2 e0
  obtain ⟨_, q0, q1, q2, q3, q4, q5, q6, q7, q8, q9⟩ := Row.at_10 rY
  rw [← H0.out]
  go_wp2_with fail
  go_loopw [10, 32] (fun s i wr => ∃ j : Nat, j ≤ r.seats.length ∧ i = .int .i64 j ∧ s = .int .i64 (momK r ld p k j) ∧ Below w.heap.size w wr ∧ Row wr w.heap.size 101 (gCells r ⟨A1, k1, rs, A2, k2⟩ g ph) ∧ Row wr G 125 [.int .i64 a.x, .int .i64 a.y, .int .i64 a.z, .int .i64 b.x, .int .i64 b.y, .int .i64 b.z]) (fun _ i _ => r.seats.length - (intOf i).toNat)
  case atStart => exact ⟨0, Nat.zero_le _, rfl, rfl, bY, rY, lY⟩
  case round =>
    obtain ⟨j, hj, rfl, rfl, hbel, rj, lj⟩ := hrel
    clear q0 q1 q2 q3 q4 q5 q6 q7 q8 q9 bY rY lY
    by_cases hlt : j < r.seats.length
    · obtain ⟨bs, o, rfl, hbs, hc⟩ := (hRs.below (hbel.mono hB)).outer (by omega)
      have hcj := hc j hlt
      clear hc
      obtain ⟨b2, o2, hA2, hb2, c0, c1, c2⟩ := ((hRs.below (hbel.mono hB)).inner j hlt).atp (k := p) (by rw [phZ_at hv hlt]; exact hp)
      have hpl : (p : Int) < ((pathAt r.seats j).length : Int) := by rw [phZ_at hv hlt]; omega
      obtain ⟨N, hN⟩ : ∃ N, N = (pathAt r.seats j).length := ⟨_, rfl⟩
      rw [← hN] at hcj hpl
      rw [hA2] at hcj
      have hpn : p < N := by omega
      have hp0 : (0 : Int) ≤ (p : Int) := by omega
      have hN0 : 0 < N := by omega
      have hnil2 : ¬ r.seats = [] := by intro e; rw [e] at hlt; simp at hlt
      have hjl : (j : Int) < (r.seats.length : Int) := by omega
      have hq := seat_span hv j p
      have Hst : Hid (seatAt r j p = ptAt (pathAt r.seats j) p) := rfl
      obtain ⟨q, hq0⟩ : ∃ q, q = ptAt (pathAt r.seats j) p := ⟨_, rfl⟩
      rw [← hq0] at c0 c1 c2
      have hqs : spanB q = true := by rw [hq0]; exact hq
      obtain ⟨zz, hzz⟩ : ∃ zz, zz = turnZ a b q := ⟨_, rfl⟩
      have hz1 := turn_bd ha hb hqs
      rw [← hzz] at hz1
      obtain ⟨wt, hwt⟩ : ∃ wt, wt = (if ld j = true then r.full else r.empty) := ⟨_, rfl⟩
      have hw1 : 0 ≤ wt ∧ wt ≤ 1000000 := by rw [hwt]; split <;> omega
      have hm1 := mul_near (a := wt) (b := zz) (M := 1000000) (N := 800000000) (by omega) (by omega) (by omega) (by omega)
      obtain ⟨mm, hmm⟩ : ∃ mm, mm = wt * zz := ⟨_, rfl⟩
      rw [← hmm] at hm1
      have e1 : IntKind.i64.wrap (wt * zz) = mm := by rw [← hmm]; exact IntWalk.i64_in _ (by omega)
      have hbd := mom_bd hv ld p k j
      obtain ⟨S, hS⟩ : ∃ S, S = momK r ld p k j := ⟨_, rfl⟩
      rw [← hS] at hbd ⊢
      have e2 : IntKind.i64.wrap (S + mm) = S + mm := IntWalk.i64_in _ (by omega)
      have HS1 : Hid (momK r ld p k (j + 1) = S + mm) := by show _ = _; simp only [momK]; rw [Harm.out, Hst.out, ← hq0, ← hzz, ← hwt, ← hmm, ← hS]
      have Hzz := Lib.hid hzz
      have e3 : IntKind.i64.wrap ((j : Int) + 1) = (j : Int) + 1 := IntWalk.i64_in _ (by omega)
      clear hq0 hzz hmm hS hN hm1 hz1 hbd hq
      unfold gCells at rj
      dsimp only at rj
      obtain ⟨_, q0, q1, q2, q3, q4, q5, q6, q7, q8, q9⟩ := Row.at_10 rj
      obtain ⟨_, d0, d1, d2, d3, d4, d5⟩ := Row.at_6 lj
      have zj1 := rj.lt
      have zj2 := lj.lt
      go_wp2_with fail
      refine (hT j wr hlt hbel).mono ?_
      rintro e w2 ⟨rfl, hb2'⟩
      have b2' := hbel.trans (hb2'.mono hbel.size)
      have r2 := rj.below hb2' zj1
      have l2 := lj.below hb2' zj2
      have zb2 : b2 < wr.heap.size := by have := hbel.size; omega
      have c0 := (hb2'.cell (p := ⟨b2, o2 + p * 3, none⟩) zb2).trans c0
      have c1 := (hb2'.cell (p := ⟨b2, o2 + p * 3 + 1, none⟩) zb2).trans c1
      have c2 := (hb2'.cell (p := ⟨b2, o2 + p * 3 + 2, none⟩) zb2).trans c2
      obtain ⟨_, q0, q1, q2, q3, q4, q5, q6, q7, q8, q9⟩ := Row.at_10 r2
      obtain ⟨_, d0, d1, d2, d3, d4, d5⟩ := Row.at_6 l2
      have zj1 := r2.lt
      have zj2 := l2.lt
      have zb3 : b2 < w2.heap.size := by have := hb2'.size; omega
      cases hld : ld j
      all_goals
        rw [hld] at hwt
        simp only [Bool.false_eq_true, if_false, if_true] at hwt
        subst hwt
        go_upto_region 9 with (fail)
        go_region_held3 (fun y => y.cell? ⟨G, 0, none⟩ = some (.int .i64 a.x) ∧ y.cell? ⟨G, 1, none⟩ = some (.int .i64 a.y) ∧ y.cell? ⟨G, 2, none⟩ = some (.int .i64 a.z) ∧ y.cell? ⟨G, 3, none⟩ = some (.int .i64 b.x) ∧ y.cell? ⟨G, 4, none⟩ = some (.int .i64 b.y) ∧ y.cell? ⟨G, 5, none⟩ = some (.int .i64 b.z) ∧ y.cell? ⟨b2, o2 + p * 3, none⟩ = some (.int .i64 q.x) ∧ y.cell? ⟨b2, o2 + p * 3 + 1, none⟩ = some (.int .i64 q.y) ∧ y.cell? ⟨b2, o2 + p * 3 + 2, none⟩ = some (.int .i64 q.z)) (go_keep) (first
          | (go_at_call 86; refine (inside_at zz a b q Hzz.out ha hb hqs _).mono ?_; rintro e y ⟨rfl, hy⟩; have hyb := below_drewN_out' hy; obtain ⟨_, d0, d1, d2, d3, d4, d5⟩ := Row.at_6 (l2.below hyb zj2); have c0 := (hyb.cell (p := ⟨b2, o2 + p * 3, none⟩) zb3).trans c0; have c1 := (hyb.cell (p := ⟨b2, o2 + p * 3 + 1, none⟩) zb3).trans c1; have c2 := (hyb.cell (p := ⟨b2, o2 + p * 3 + 2, none⟩) zb3).trans c2))
        go_wp2_with fail
        go_roundw
        case rel => exact ⟨j + 1, by omega, by go_num, by rw [HS1.out], b2'.trans (hyb.mono b2'.size), r2.below hyb zj1, l2.below hyb zj2⟩
        case measure => simp [intOf]; omega
    · obtain rfl : j = r.seats.length := by omega
      unfold gCells at rj
      dsimp only at rj
      go_wp2_with fail
      go_ret
      exact ⟨rfl, hbel⟩
end Go.Proofs.Ytkmiapfkebdpbaa
