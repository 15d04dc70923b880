/- Contract of the function in worstMoments that tells which seats are outside. Conditions: its three variables lie in blocks of their own; a valid rig. -/
import Derived.Test.YtkmiapfkebdpbaaKu
namespace Go.Proofs.Ytkmiapfkebdpbaa
open Go.RowKit

set_option maxRecDepth 100000 in
set_option maxHeartbeats 4000000 in
theorem outside_any (r : RigZ) (R : RigR) (B g p k j gl gr gp : Nat) (ph : Int) (w : World) (hB : B ≤ w.heap.size) (hR : RigIn w B r R) (hv : rigB r = true) (hj : j < r.seats.length) (hp : p < phZ r)
    (hl : Row w gl 125 (lineAt r.feet k)) (hr : Row w gr 101 (gCells r R g ph)) (hph : Row w gp 3 [.int .i64 (p : Int)]) :
    Calls Try.prog 88 #[.int .i64 (j : Int), .pointer (some ⟨gl, 0, none⟩), .pointer (some ⟨gr, 0, none⟩), .pointer (some ⟨gp, 0, none⟩)] w fun e w' => e = .returned (.bool (worstZ r p k j)) ∧ Below w.heap.size w w' := by
  obtain ⟨A1, k1, rs, A2, k2⟩ := R
  have hRs := hR.s
  dsimp only at hRs
  obtain ⟨hs20, hsb, ⟨h3, h8, hsp, hgr, hcv⟩, hce, hfr, hem, hfu⟩ := rigB_parts hv
  have ha := ptAt_spanA hsp k
  have hb := ptAt_spanA hsp ((k + 1) % r.feet.length)
  unfold lineAt at hl
  have Harm : Hid (∀ q, armZ r.feet k q = turnZ (ptAt r.feet k) (ptAt r.feet ((k + 1) % r.feet.length)) q) := fun q => rfl
  generalize ptAt r.feet k = a at *
  generalize ptAt r.feet ((k + 1) % r.feet.length) = b at *
  unfold gCells at hr
  dsimp only at hr
  obtain ⟨bs, o, rfl, hbs, hc⟩ := hRs.outer (by omega)
  have hcj := hc j hj
  clear hc
  obtain ⟨b2, o2, hA2, hb2, c0, c1, c2⟩ := (hRs.inner j hj).atp (k := p) (by rw [phZ_at hv hj]; exact hp)
  have hpl : (p : Int) < ((pathAt r.seats j).length : Int) := by rw [phZ_at hv hj]; omega
  obtain ⟨N, hN⟩ : ∃ N, N = (pathAt r.seats j).length := ⟨_, rfl⟩
  rw [← hN] at hcj hpl
  rw [hA2] at hcj
  have hpn : p < N := by omega
  have hp0 : (0 : Int) ≤ (p : Int) := by omega
  have hN0 : 0 < N := by omega
  have hnil2 : ¬ r.seats = [] := by intro e; rw [e] at hj; simp at hj
  have hjl : (j : Int) < (r.seats.length : Int) := by omega
  have hj0 : (0 : Int) ≤ (j : Int) := by omega
  have hq := seat_span hv j p
  have Hst : Hid (worstZ r p k j = decide (armZ r.feet k (ptAt (pathAt r.seats j) p) < 0)) := rfl
  obtain ⟨q, hq0⟩ : ∃ q, q = ptAt (pathAt r.seats j) p := ⟨_, rfl⟩
  rw [← hq0] at c0 c1 c2
  have hqs : spanB q = true := by rw [hq0]; exact hq
  obtain ⟨zz, hzz⟩ : ∃ zz, zz = turnZ a b q := ⟨_, rfl⟩
  have HS : Hid (worstZ r p k j = decide (zz < 0)) := by show _ = _; rw [Hst.out, Harm.out, ← hq0, ← hzz]
  have Hzz := Lib.hid hzz
  clear hq0 hzz hN hq Hst Harm
  obtain ⟨_, q0, q1, q2, q3, q4, q5, q6, q7, q8, q9⟩ := Row.at_10 hr
  obtain ⟨_, d0, d1, d2, d3, d4, d5⟩ := Row.at_6 hl
  have p0 : w.cell? ⟨gp, 0, none⟩ = some (.int .i64 (p : Int)) := hph.cell (j := 0) (by simp)
  have z1 := hr.lt
  have z2 := hl.lt
  have z3 := hph.lt
  have z4 : bs < w.heap.size := by omega
  have z5 : b2 < w.heap.size := by omega
  go_enter Try.func88, Try.ntmps88
  go_upto_region 1 with (fail)
  go_region_held3 (fun y => y.cell? ⟨gl, 0, none⟩ = some (.int .i64 a.x) ∧ y.cell? ⟨gl, 1, none⟩ = some (.int .i64 a.y) ∧ y.cell? ⟨gl, 2, none⟩ = some (.int .i64 a.z) ∧ y.cell? ⟨gl, 3, none⟩ = some (.int .i64 b.x) ∧ y.cell? ⟨gl, 4, none⟩ = some (.int .i64 b.y) ∧ y.cell? ⟨gl, 5, none⟩ = some (.int .i64 b.z) ∧ y.cell? ⟨gr, 0, none⟩ = some (.slice (some ⟨bs, o, none⟩) r.seats.length k1) ∧ y.cell? ⟨gp, 0, none⟩ = some (.int .i64 (p : Int)) ∧ y.cell? ⟨bs, o + j, none⟩ = some (.slice (some ⟨b2, o2, none⟩) N (refAt rs j).2) ∧ y.cell? ⟨b2, o2 + p * 3, none⟩ = some (.int .i64 q.x) ∧ y.cell? ⟨b2, o2 + p * 3 + 1, none⟩ = some (.int .i64 q.y) ∧ y.cell? ⟨b2, o2 + p * 3 + 2, none⟩ = some (.int .i64 q.z)) (go_keep) (first
    | (go_at_call 86; refine (inside_at zz a b q Hzz.out ha hb hqs _).mono ?_; rintro e y ⟨rfl, hy⟩; have hyb := below_drewN_out' hy; obtain ⟨_, q0, q1, q2, q3, q4, q5, q6, q7, q8, q9⟩ := Row.at_10 (hr.below hyb z1); obtain ⟨_, d0, d1, d2, d3, d4, d5⟩ := Row.at_6 (hl.below hyb z2); have p0 := (hyb.cell (p := ⟨gp, 0, none⟩) z3).trans p0; have hcj := (hyb.cell (p := ⟨bs, o + j, none⟩) z4).trans hcj; have c0 := (hyb.cell (p := ⟨b2, o2 + p * 3, none⟩) z5).trans c0; have c1 := (hyb.cell (p := ⟨b2, o2 + p * 3 + 1, none⟩) z5).trans c1; have c2 := (hyb.cell (p := ⟨b2, o2 + p * 3 + 2, none⟩) z5).trans c2))
  go_wp2_with fail
  go_ret
  exact ⟨ret_bool HS.out.symm, hyb⟩
end Go.Proofs.Ytkmiapfkebdpbaa
