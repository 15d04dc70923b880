/- Contracts of own, samePoints, pointed and CheckPath (of the specification). Conditions: the arguments read as points. -/
import Derived.Test.YtkmiapfkebdpbaaLb
import Derived.Laws.StructEq
namespace Go.Proofs.Ytkmiapfkebdpbaa
open Go.RowKit

deriving instance DecidableEq for Pt
theorem pts_eq_of {xs ys : List Pt} (hl : xs.length = ys.length) (h : ∀ j, j < xs.length → ptAt xs j = ptAt ys j) : xs = ys := by
  apply List.ext_getElem?
  intro j
  rcases Nat.lt_or_ge j xs.length with hj | hj
  · have := h j hj
    simp only [ptAt, List.getElem?_eq_getElem hj, List.getElem?_eq_getElem (show j < ys.length by omega), Option.getD_some] at this
    rw [List.getElem?_eq_getElem hj, List.getElem?_eq_getElem (by omega), this]
  · rw [List.getElem?_eq_none hj, List.getElem?_eq_none (by omega)]

set_option maxHeartbeats 1000000 in
theorem samePoints_any (xs ys : List Pt) (A A' : Option Addr) (n m c c' B B' : Nat) (w : World) (hr : Reads w B 3 A n (ptCells xs)) (hs : Reads w B' 3 A' m (ptCells ys)) (hn : n ≤ maxLen) (hm : m ≤ maxLen) :
    Calls Try.prog 19 #[.slice A n c, .slice A' m c'] w fun e w' => e = .returned (.bool (decide (xs = ys))) ∧ KeptBut [] w w' := by
  unfold maxLen at hn hm
  have hx : xs.length = n := hr.len_pt
  have hy : ys.length = m := hs.len_pt
  by_cases hnm : n = m
  · subst hnm
    have Hx := Lib.hid hx
    have Hy := Lib.hid hy
    clear hx hy
    go_enter Try.func19, Try.ntmps19
    go_wp2_with fail
    go_loopw [5] (fun i wr => ∃ k : Nat, k ≤ n ∧ i = .int .i64 k ∧ KeptBut [] w wr ∧ ∀ j, j < k → ptAt xs j = ptAt ys j) (fun i _ => n - (intOf i).toNat)
    case atStart => exact ⟨0, Nat.zero_le _, rfl, KeptBut.refl _ _, fun j h => absurd h (by omega)⟩
    case round =>
      obtain ⟨k, hk, rfl, hkr, hall⟩ := hrel
      have Hall := Lib.hid hall
      clear hall
      by_cases hlt : k < n
      · obtain ⟨b, o, rfl, hb, c0, c1, c2⟩ := hr.atp hlt
        obtain ⟨b', o', rfl, hb', d0, d1, d2⟩ := hs.atp hlt
        have hkeep : ∀ (p : Addr) (v : Value), w.cell? p = some v → wr.cell? p = some v := fun p v h => by
          have hlt : p.block < w.heap.size := World.block_lt_of_cell? w p h
          exact (World.cell?_of_block (hkr.block p.block hlt (by simp))).trans h
        have c0 := hkeep _ _ c0
        have c1 := hkeep _ _ c1
        have c2 := hkeep _ _ c2
        have d0 := hkeep _ _ d0
        have d1 := hkeep _ _ d1
        have d2 := hkeep _ _ d2
        clear hkeep
        have hk1 : (k : Int) < (n : Int) := by omega
        obtain ⟨u, hu⟩ : ∃ u, u = ptAt xs k := ⟨_, rfl⟩
        obtain ⟨v, hv⟩ : ∃ v, v = ptAt ys k := ⟨_, rfl⟩
        rw [← hu] at c0 c1 c2
        rw [← hv] at d0 d1 d2
        have Hu := Lib.hid hu
        have Hv := Lib.hid hv
        clear hu hv
        obtain ⟨ux, uy, uz⟩ := u
        obtain ⟨vx, vy, vz⟩ := v
        dsimp only at *
        by_cases he : ux = vx ∧ uy = vy ∧ uz = vz
        · obtain ⟨rfl, rfl, rfl⟩ := he
          go_wp2_with fail
          go_quiet (fail)
          go_wp2_with fail
          go_roundw
          case rel => exact ⟨k + 1, by omega, by go_num, hkr.drewN _, fun j hj => by
            rcases Nat.lt_or_ge j k with h | h
            · exact Hall.out j h
            · obtain rfl : j = k := by omega
              rw [← Hu.out, ← Hv.out]⟩
          case measure => simp [intOf]; omega
        · by_cases g1 : ux = vx
          · by_cases g2 : uy = vy
            · have g3 : ¬ uz = vz := fun g3 => he ⟨g1, g2, g3⟩
              clear he
              subst g1 g2
              have g4 : (uz == vz) = false := by simpa using g3
              go_wp2_with fail
              go_quiet (fail)
              go_wp2_with fail
              go_ret
              refine ⟨ret_bool ?_, hkr.drewN _⟩
              rw [eq_comm, decide_eq_false_iff_not]
              intro h
              have h9 := Hu.out
              rw [h, ← Hv.out] at h9
              injection h9 with h1 h2 h3
              first | exact g3 h3 | exact g2 h2 | exact g1 h1
            · have g4 : (uy == vy) = false := by simpa using g2
              clear he
              subst g1
              go_wp2_with fail
              go_quiet (fail)
              go_wp2_with fail
              go_ret
              refine ⟨ret_bool ?_, hkr.drewN _⟩
              rw [eq_comm, decide_eq_false_iff_not]
              intro h
              have h9 := Hu.out
              rw [h, ← Hv.out] at h9
              injection h9 with h1 h2 h3
              first | exact g3 h3 | exact g2 h2 | exact g1 h1
          · have g4 : (ux == vx) = false := by simpa using g1
            clear he
            go_wp2_with fail
            go_quiet (fail)
            go_wp2_with fail
            go_ret
            refine ⟨ret_bool ?_, hkr.drewN _⟩
            rw [eq_comm, decide_eq_false_iff_not]
            intro h
            have h9 := Hu.out
            rw [h, ← Hv.out] at h9
            injection h9 with h1 h2 h3
            first | exact g3 h3 | exact g2 h2 | exact g1 h1
      · have hk1 : ¬ (k : Int) < (n : Int) := by omega
        go_wp2_with fail
        go_ret
        refine ⟨ret_bool ?_, hkr⟩
        rw [eq_comm, decide_eq_true_eq]
        exact pts_eq_of (Hx.out.trans Hy.out.symm) fun j hj => Hall.out j (by have := Hx.out; omega)
  · have hne : ((n : Int) != (m : Int)) = true := by rw [bne_iff_ne]; omega
    have hd : Hid (decide (xs = ys) = false) := by
      show _ = _
      rw [decide_eq_false_iff_not]
      intro h
      rw [h] at hx
      omega
    clear hx hy hnm
    go_enter Try.func19, Try.ntmps19
    go_wp2_with fail
    go_ret
    exact ⟨ret_bool hd.out.symm, KeptBut.refl _ _⟩


set_option maxHeartbeats 1000000 in
theorem pointed_any (p : Pt) (w : World) : Calls Try.prog 69 #[ptV p] w fun e w' => e = .returned (.bool (spanB p)) ∧ Below w.heap.size w w' := by
  have hb : Below w.heap.size w (w.alloc (.cells #[.int .i64 p.x, .int .i64 p.y, .int .i64 p.z] 28)) := (Below.refl _ _).alloc (Nat.le_refl _) _
  have He : Hid (spanB p = (inB p.x (-10000) 10000 && (inB p.y (-10000) 10000 && (inB p.z (-10000) 10000 && true)))) := rfl
  unfold ptV
  go_enter Try.func69, Try.ntmps69
  go_wp2_with fail
  refine (from_any _ _ _ _).mono ?_
  rintro e w' ⟨rfl, rfl⟩
  cases h1 : inB p.x (-10000) 10000 with
  | false =>
    go_wp2_with fail
    go_ret
    exact ⟨ret_bool (by rw [He.out, h1]; rfl), hb⟩
  | true =>
    go_wp2_with fail
    refine (from_any _ _ _ _).mono ?_
    rintro e w' ⟨rfl, rfl⟩
    cases h2 : inB p.y (-10000) 10000 with
    | false =>
      go_wp2_with fail
      go_ret
      exact ⟨ret_bool (by rw [He.out, h1, h2]; rfl), hb⟩
    | true =>
      go_wp2_with fail
      refine (from_any _ _ _ _).mono ?_
      rintro e w' ⟨rfl, rfl⟩
      cases h3 : inB p.z (-10000) 10000 with
      | false =>
        go_wp2_with fail
        go_ret
        exact ⟨ret_bool (by rw [He.out, h1, h2, h3]; rfl), hb⟩
      | true =>
        go_wp2_with fail
        go_ret
        exact ⟨ret_bool (by rw [He.out, h1, h2, h3]; rfl), hb⟩
def pathE (t : List Pt) : Int := if pathB t = false then 30 else 0
set_option maxHeartbeats 1000000 in
theorem CheckPath_any (l : List Pt) (A : Option Addr) (n c B : Nat) (w : World) (hB : B ≤ w.heap.size) (hr : Reads w B 3 A n (ptCells l)) (hn : n ≤ maxLen) :
    Calls Try.prog 49 #[.slice A n c] w fun e w' => e = .returned (.int .i64 (pathE l)) ∧ Below w.heap.size w w' := by
  unfold maxLen at hn
  have hz := Lib.hid hr.len_pt
  have Hp : Hid (pathB l = (inB (n : Int) 3 60 && l.all spanB)) := by show _ = _; rw [← hz.out]; rfl
  go_enter Try.func49, Try.ntmps49
  go_wp2_with fail
  refine (from_any _ _ _ _).mono ?_
  rintro e w' ⟨rfl, rfl⟩
  cases h1 : inB (n : Int) 3 60 with
  | false =>
    go_wp2_with fail
    go_ret
    exact ⟨ret_int (by unfold pathE; rw [Hp.out, h1]; rfl), Below.refl _ _⟩
  | true =>
    go_wp2_with fail
    go_loopw [3] (fun i wr => ∃ k : Nat, k ≤ n ∧ i = .int .i64 k ∧ Below w.heap.size w wr ∧ (l.take k).all spanB = true) (fun i _ => n - (intOf i).toNat)
    case atStart => exact ⟨0, Nat.zero_le _, rfl, Below.refl _ _, rfl⟩
    case round =>
      obtain ⟨k, hk, rfl, hbel, hall⟩ := hrel
      have Hall := Lib.hid hall
      clear hall
      have hs := hbel.size
      by_cases hlt : k < n
      · obtain ⟨b, o, rfl, hb, q0, q1, q2⟩ := (hr.below (hbel.mono hB)).atp hlt
        have Hsn := Lib.hid (all_snoc spanB ⟨0, 0, 0⟩ l k (by have := hz.out; omega))
        have Hno := Lib.hid (all_no spanB ⟨0, 0, 0⟩ l k (by have := hz.out; omega))
        have hkl : (k : Int) < (n : Int) := by omega
        have e3 : IntKind.i64.wrap ((k : Int) + 1) = (k : Int) + 1 := IntWalk.i64_in _ (by omega)
        obtain ⟨p, hp⟩ : ∃ p, p = ptAt l k := ⟨_, rfl⟩
        rw [← hp] at q0 q1 q2
        have Hpt := Lib.hid hp
        clear hp
        go_wp2_with fail
        refine (pointed_any p wr).mono ?_
        rintro e w1 ⟨rfl, hb1⟩
        have b1 := hbel.trans (hb1.mono hs)
        cases h2 : spanB p with
        | false =>
          go_wp2_with fail
          go_ret
          exact ⟨ret_int (by unfold pathE; rw [Hp.out, Hno.out (by rw [show l[k]?.getD ⟨0, 0, 0⟩ = p from Hpt.out.symm]; exact h2), h1]; rfl), b1⟩
        | true =>
          go_wp2_with fail
          go_roundw
          case rel => exact ⟨k + 1, by omega, by go_num, b1, by rw [Hsn.out, Hall.out, show l[k]?.getD ⟨0, 0, 0⟩ = p from Hpt.out.symm, h2]; rfl⟩
          case measure => simp [intOf]; omega
      · obtain rfl : k = n := by omega
        go_wp2_with fail
        go_ret
        refine ⟨ret_int ?_, hbel⟩
        have h := Hall.out
        rw [List.take_of_length_le (by have := hz.out; omega)] at h
        unfold pathE
        rw [Hp.out, h, h1]
        rfl
theorem Try.info_pt : (Try.prog.info? 28).map (fun i => (i.zero, i.size, i.bytes)) = some (some (.agg #[.int .i64 0, .int .i64 0, .int .i64 0]), 3, 24) := by kernel_rfl
def OwPost (w : World) (t : List Pt) (e : Ending) (w' : World) : Prop := Below w.heap.size w w' ∧ ∃ A c, e = .returned (.slice A t.length c) ∧ Reads w' w'.heap.size 3 A t.length (ptCells t)
set_option maxHeartbeats 1000000 in
theorem own_any (t : List Pt) (A : Option Addr) (c B : Nat) (w : World) (hB : B ≤ w.heap.size) (hr : Reads w B 3 A t.length (ptCells t)) (hn : t.length ≤ 1000) :
    Calls Try.prog 16 #[.slice A t.length c] w (OwPost w t) := by
  obtain ⟨i0, hi, hz0, hz1, hz2⟩ := info_parts Try.info_pt
  have hones : ∀ u ∈ ptCells t, u.oneCell' = true := by
    intro u hu
    simp only [ptCells, List.mem_flatMap] at hu
    obtain ⟨p, _, hu⟩ := hu
    simp at hu
    rcases hu with rfl | rfl | rfl <;> rfl
  have hown := World.ownsRow_made (w := w) (e := 28) (size := 3) (base := w.heap.size) #[] 0 (Nat.le_refl _) (Nat.zero_le _) (by simp)
  have m1 : 0 + t.length ≤ maxLen := by unfold maxLen; omega
  have m2 : (0 + t.length) * 24 ≤ 140737488355328 := by omega
  have hrX := hr.alloc hB (.cells #[] 28)
  have hm := Lib.hid hn
  clear hn
  go_enter Try.func16, Try.ntmps16
  go_wp2_with (at_builtin; refine wpList_app _ rfl _ _ 22 rfl w.heap.size 28 i0 (.agg #[.int .i64 0, .int .i64 0, .int .i64 0]) 3 24 Try.underlying22 hi hz0 hz1 hz2 rfl (by decide) (.slice (some ⟨w.heap.size, 0, none⟩) 0 0) 0 [] rfl hown B A t.length c (ptCells t) rfl hrX hones m1 m2 (by simp) ?_)
  intro v' w1 hown' hbel'
  obtain ⟨A', c', rfl, hrd⟩ := own_reads hown'
  have hb := ((Below.refl w.heap.size w).alloc (Nat.le_refl _) (.cells #[] 28)).trans hbel'
  have hrd2 : Reads w1 w1.heap.size 3 A' t.length (ptCells t) := by simpa using hrd
  go_wp2_with fail
  go_ret
  exact ⟨hb, A', c', rfl, hrd2⟩
end Go.Proofs.Ytkmiapfkebdpbaa
