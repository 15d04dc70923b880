/- Contract of convex. Conditions: from three to eight feet, all near enough. -/
import Derived.Test.YtkmiapfkebdpbaaKn
namespace Go.Proofs.Ytkmiapfkebdpbaa
open Go.RowKit

theorem ptAt_span {l : List Pt} (h : l.all spanB = true) (k : Nat) (hk : k < l.length) : spanB (ptAt l k) = true := by
  have e : ptAt l k = l[k] := by simp [ptAt, hk]
  rw [e]
  exact List.all_eq_true.1 h _ (List.getElem_mem hk)
theorem Lines.cells {w : World} {g k : Nat} {l : List Pt} (h : Lines w g l k) {i : Nat} (hi : i < k) : w.cell? ⟨g, i * 6, none⟩ = some (.int .i64 (ptAt l i).x) ∧ w.cell? ⟨g, i * 6 + 1, none⟩ = some (.int .i64 (ptAt l i).y) ∧ w.cell? ⟨g, i * 6 + 2, none⟩ = some (.int .i64 (ptAt l i).z) ∧
    w.cell? ⟨g, i * 6 + 3, none⟩ = some (.int .i64 (ptAt l ((i + 1) % l.length)).x) ∧ w.cell? ⟨g, i * 6 + 4, none⟩ = some (.int .i64 (ptAt l ((i + 1) % l.length)).y) ∧ w.cell? ⟨g, i * 6 + 5, none⟩ = some (.int .i64 (ptAt l ((i + 1) % l.length)).z) := by
  obtain ⟨xs, h1, h2, h3⟩ := h
  have key : ∀ j, j < 6 → w.cell? ⟨g, i * 6 + j, none⟩ = (lineAt l i)[j]? := fun j hj => by
    have h4 := h3 i hi j hj
    have hx : i * 6 + j < xs.length := by
      have : (xs[i * 6 + j]?).isSome = true := by
        rw [h4]
        have : j = 0 ∨ j = 1 ∨ j = 2 ∨ j = 3 ∨ j = 4 ∨ j = 5 := by omega
        rcases this with rfl | rfl | rfl | rfl | rfl | rfl <;> rfl
      rcases Nat.lt_or_ge (i * 6 + j) xs.length with h5 | h5
      · exact h5
      · rw [List.getElem?_eq_none h5] at this; cases this
    rw [h1.cell hx, h4]
  exact ⟨key 0 (by omega), key 1 (by omega), key 2 (by omega), key 3 (by omega), key 4 (by omega), key 5 (by omega)⟩
theorem Row.at_6 {w : World} {g : Nat} {t : TypeId} {v0 v1 v2 v3 v4 v5 : Value} (h : Row w g t [v0, v1, v2, v3, v4, v5]) : (∀ o, w.frozen? ⟨g, o, none⟩ = false) ∧ w.cell? ⟨g, 0, none⟩ = some v0 ∧ w.cell? ⟨g, 1, none⟩ = some v1 ∧ w.cell? ⟨g, 2, none⟩ = some v2 ∧ w.cell? ⟨g, 3, none⟩ = some v3 ∧ w.cell? ⟨g, 4, none⟩ = some v4 ∧ w.cell? ⟨g, 5, none⟩ = some v5 :=
  ⟨fun o => h.frozen o, h.cell (j := 0) (by simp), h.cell (j := 1) (by simp), h.cell (j := 2) (by simp), h.cell (j := 3) (by simp), h.cell (j := 4) (by simp), h.cell (j := 5) (by simp)⟩
theorem convexP_iff (l : List Pt) : convexP l = true ↔ ∀ i, i < l.length → ∀ j, 2 ≤ j → j < l.length → 0 < armZ l i (ptAt l ((i + j) % l.length)) := by
  unfold convexP
  simp only [List.all_eq_true, List.mem_range, List.mem_range', decide_eq_true_eq, Nat.one_mul]
  constructor
  · intro h i hi j h2 hj
    exact h i hi j ⟨j - 2, by omega, by omega⟩
  · rintro h i hi j ⟨d, hd, rfl⟩
    exact h i hi (2 + d) (by omega) (by omega)

theorem below_drewN_out' {w w' : World} (h : Below w.drew.heap.size w.drew w') : Below w.heap.size w w' := ⟨h.os, h.tape, h.output, h.size, h.block⟩
theorem inside_at (z : Int) (a b p : Pt) (hz : z = turnZ a b p) (ha : spanB a = true) (hb : spanB b = true) (hp : spanB p = true) (w : World) :
    Calls Try.prog 86 #[lineV a b, ptV p] w fun e w' => e = .returned (.int .i64 z) ∧ Below w.heap.size w w' := by
  subst hz
  exact inside_any a b p ha hb hp w

set_option maxRecDepth 100000 in
set_option maxHeartbeats 4000000 in
theorem convex_any (l : List Pt) (A : Option Addr) (c B : Nat) (w : World) (hB : B ≤ w.heap.size) (hr : Reads w B 3 A l.length (ptCells l)) (h3 : 3 ≤ l.length) (h8 : l.length ≤ 8) (hsp : l.all spanB = true) :
    Calls Try.prog 97 #[.slice A l.length c] w fun e w' => e = .returned (.bool (convexP l)) ∧ Below w.heap.size w w' := by
  go_enter Try.func97, Try.ntmps97
  go_wp2_with fail
  refine (footLines_any l A c B w hB hr h3 h8).mono ?_
  rintro e w1 ⟨g, rfl, hg, b1, L1⟩
  go_wp2_with fail
  have Hc := Lib.hid (convexP_iff l)
  go_loopw [12] (fun i wr => ∃ k : Nat, k ≤ l.length ∧ i = .int .i64 k ∧ Below w.heap.size w wr ∧ Lines wr g l l.length ∧ ∀ i, i < k → ∀ j, 2 ≤ j → j < l.length → 0 < armZ l i (ptAt l ((i + j) % l.length))) (fun i _ => l.length - (intOf i).toNat)
  case atStart => exact ⟨0, Nat.zero_le _, rfl, b1, L1, fun i hi => by omega⟩
  case round =>
    obtain ⟨k, hk, rfl, hbel, hL, hall⟩ := hrel
    have Hall := Lib.hid hall
    clear hall b1 L1
    have hs := hbel.size
    by_cases hlt : k < l.length
    · obtain ⟨c0, c1, c2, c3, c4, c5⟩ := hL.cells hlt
      have ha := ptAt_span hsp k hlt
      have hb := ptAt_span hsp ((k + 1) % l.length) (Nat.mod_lt _ (by omega))
      have Harm : Hid (∀ p, armZ l k p = turnZ (ptAt l k) (ptAt l ((k + 1) % l.length)) p) := fun p => rfl
      generalize ptAt l k = a at *
      generalize ptAt l ((k + 1) % l.length) = b at *
      have hg' : g < wr.heap.size := hL.lt
      go_wp2_with fail
      obtain ⟨X, hX⟩ : ∃ X, X = wr.alloc (.cells #[.int .i64 a.x, .int .i64 a.y, .int .i64 a.z, .int .i64 b.x, .int .i64 b.y, .int .i64 b.z] 125) := ⟨_, rfl⟩
      rw [← hX]
      have bX : Below w.heap.size w X := by subst hX; exact hbel.alloc hs _
      have rX : Row X wr.heap.size 125 [.int .i64 a.x, .int .i64 a.y, .int .i64 a.z, .int .i64 b.x, .int .i64 b.y, .int .i64 b.z] := by subst hX; exact Row.new wr _ _
      have LX : Lines X g l l.length := by subst hX; exact hL.alloc _
      obtain ⟨G, hG⟩ : ∃ G, G = wr.heap.size := ⟨_, rfl⟩
      rw [← hG] at rX ⊢
      have zG : w.heap.size ≤ G := by omega
      clear hX hG c0 c1 c2 c3 c4 c5 hL hbel hs hg' wr
      go_loopw [6] (fun i wr => ∃ j : Nat, 2 ≤ j ∧ j ≤ l.length ∧ i = .int .i64 j ∧ Below w.heap.size w wr ∧ Lines wr g l l.length ∧ Row wr G 125 [.int .i64 a.x, .int .i64 a.y, .int .i64 a.z, .int .i64 b.x, .int .i64 b.y, .int .i64 b.z] ∧ ∀ j', 2 ≤ j' → j' < j → 0 < armZ l k (ptAt l ((k + j') % l.length))) (fun i _ => l.length - (intOf i).toNat)
      case atStart => exact ⟨2, Nat.le_refl _, by omega, rfl, bX, LX, rX, fun j h1 h2 => by omega⟩
      case round =>
        obtain ⟨j, h2, hj, rfl, hbel, hL, hrow, hin⟩ := hrel
        have Hin := Lib.hid hin
        clear hin bX LX rX
        have hs := hbel.size
        by_cases hlj : j < l.length
        · obtain ⟨q, hq⟩ : ∃ q, q = (k + j) % l.length := ⟨_, rfl⟩
          have hql : q < l.length := by rw [hq]; exact Nat.mod_lt _ (by omega)
          obtain ⟨b', o', hA, hb', p0, p1, p2⟩ := (hr.below (hbel.mono hB)).atp hql
          subst hA
          have e1 : IntKind.i64.wrap ((k : Int) + (j : Int)) = (k : Int) + (j : Int) := IntWalk.i64_in _ (by omega)
          have e2 : ((k : Int) + (j : Int)).tmod (l.length : Int) = (q : Int) := by
            rw [hq, Int.tmod_eq_emod_of_nonneg (by omega), Int.natCast_emod]
            rfl
          have hp := ptAt_span hsp q hql
          have Hq := Lib.hid hq
          clear hq
          have hnil : ¬ l = [] := by intro e; subst e; simp at hlj
          have hq0 : (0 : Int) ≤ (q : Int) := by omega
          have hql' : (q : Int) < (l.length : Int) := by omega
          have Hp : Hid (ptAt l q = ptAt l q) := rfl
          obtain ⟨p, hpp⟩ : ∃ p, p = ptAt l q := ⟨_, rfl⟩
          rw [← hpp] at p0 p1 p2 hp
          have HP := Lib.hid hpp
          obtain ⟨z, hz⟩ : ∃ z, z = turnZ a b p := ⟨_, rfl⟩
          have Hz := Lib.hid hz
          clear hpp hz Hp
          obtain ⟨_, d0, d1, d2, d3, d4, d5⟩ := Row.at_6 hrow
          have zb : b' < wr.drew.heap.size := by show b' < wr.heap.size; omega
          have e3 : IntKind.i64.wrap ((j : Int) + 1) = (j : Int) + 1 := IntWalk.i64_in _ (by omega)
          have hlj' : (j : Int) < (l.length : Int) := by omega
          by_cases hz0 : z ≤ 0
          all_goals
            go_upto_region 8 with (fail)
            go_region_held3 (fun y => y.cell? ⟨G, 0, none⟩ = some (.int .i64 a.x) ∧ y.cell? ⟨G, 1, none⟩ = some (.int .i64 a.y) ∧ y.cell? ⟨G, 2, none⟩ = some (.int .i64 a.z) ∧ y.cell? ⟨G, 3, none⟩ = some (.int .i64 b.x) ∧ y.cell? ⟨G, 4, none⟩ = some (.int .i64 b.y) ∧ y.cell? ⟨G, 5, none⟩ = some (.int .i64 b.z) ∧ y.cell? ⟨b', o' + q * 3, none⟩ = some (.int .i64 p.x) ∧ y.cell? ⟨b', o' + q * 3 + 1, none⟩ = some (.int .i64 p.y) ∧ y.cell? ⟨b', o' + q * 3 + 2, none⟩ = some (.int .i64 p.z)) (go_keep) (first
              | (go_at_call 86; refine (inside_at z a b p Hz.out ha hb hp _).mono ?_; rintro e y ⟨rfl, hy⟩; have hyb := below_drewN_out' hy; have r2 := hrow.below hyb hrow.lt; obtain ⟨_, d0, d1, d2, d3, d4, d5⟩ := Row.at_6 r2; have p0 := (hyb.cell (p := ⟨b', o' + q * 3, none⟩) zb).trans p0; have p1 := (hyb.cell (p := ⟨b', o' + q * 3 + 1, none⟩) zb).trans p1; have p2 := (hyb.cell (p := ⟨b', o' + q * 3 + 2, none⟩) zb).trans p2))
          · go_wp2_with fail
            go_ret
            refine ⟨ret_bool ?_, hbel.trans (hyb.mono hs)⟩
            cases hcv : convexP l with
            | false => rfl
            | true =>
              have h5 := Hc.out.1 hcv k hlt j h2 hlj
              rw [← Hq.out, ← HP.out, Harm.out, ← Hz.out] at h5
              omega
          · go_wp2_with fail
            go_roundw
            case rel =>
              refine ⟨j + 1, by omega, by omega, by go_num, hbel.trans (hyb.mono hs), hL.keep (hyb.block g hL.lt), hrow.below hyb hrow.lt, fun j' h5 h6 => ?_⟩
              rcases Nat.lt_or_ge j' j with h7 | h7
              · exact Hin.out j' h5 h7
              · obtain rfl : j' = j := by omega
                rw [← Hq.out, ← HP.out, Harm.out, ← Hz.out]
                omega
            case measure => simp [intOf]; omega
        · obtain rfl : j = l.length := by omega
          go_wp2_with fail
          go_roundw
          case rel =>
            refine ⟨k + 1, by omega, by go_num, hbel, hL, fun i hi j' h5 h6 => ?_⟩
            rcases Nat.lt_or_ge i k with h7 | h7
            · exact Hall.out i h7 j' h5 h6
            · obtain rfl : i = k := by omega
              exact Hin.out j' h5 h6
          case measure => simp [intOf]; omega
    · obtain rfl : k = l.length := by omega
      go_wp2_with fail
      go_ret
      exact ⟨ret_bool (Hc.out.2 Hall.out).symm, hbel⟩
end Go.Proofs.Ytkmiapfkebdpbaa
