/- Contracts of the specification's worst and Least. Conditions: a rig that reads as data (worst: a valid one). -/
import Derived.Test.YtkmiapfkebdpbaaMd
import Derived.Test.YtkmiapfkebdpbaaLw
import Derived.Test.YtkmiapfkebdpbaaKy
import Derived.Test.YtkmiapfkebdpbaaKx
import Derived.Test.YtkmiapfkebdpbaaRg
import Derived.Test.YtkmiapfkebdpbaaRh
namespace Go.Proofs.Ytkmiapfkebdpbaa
open Go.RowKit

def TrueP (w : World) (e : Ending) (w' : World) : Prop := e = .returned (.bool true) ∧ Below w.heap.size w w'
theorem RigIn.more {w : World} {B B' : Nat} {r : RigZ} {R : RigR} (h : RigIn w B r R) (hB : B ≤ B') : RigIn w B' r R :=
  ⟨⟨h.s.len, fun h0 => by
    obtain ⟨b, o, e, hb, hc⟩ := h.s.outer h0
    exact ⟨b, o, e, by omega, hc⟩, fun i hi => (h.s.inner i hi).more hB, h.s.lens⟩, h.f.more hB, h.lf⟩
theorem bools_one {l : List Bool} : ∀ u ∈ l.map Value.bool, u.oneCell' = true := by
  intro u hu
  obtain ⟨b, _, rfl⟩ := List.mem_map.1 hu
  rfl
theorem Try.info_bool : (Try.prog.info? 4).map (fun i => (i.zero, i.size, i.bytes)) = some (some (.bool false), 1, 1) := by kernel_rfl
def loadV' (A : Option Addr) (n c : Nat) (ph line : Int) : Value := .agg #[.slice A n c, .int .i64 ph, .int .i64 line]

/-- A new slice of one element. -/
def isNew1 (e : TypeId) (v : Value) : Value → World → Prop := fun u y => ∃ g : Nat, u = .slice (some ⟨g, 0, none⟩) 1 1 ∧ Row y g e [v]
theorem stable_isNew1 (e : TypeId) (v : Value) : Stable (isNew1 e v) := fun _ _ _ ⟨g, h1, h2⟩ hb => ⟨g, h1, h2.below hb h2.lt⟩
/-- A slice that reads as this. -/
def isReads (size n : Nat) (xs : List Value) : Value → World → Prop := fun u y => ∃ (A : Option Addr) (c B : Nat), u = .slice A n c ∧ B ≤ y.heap.size ∧ Reads y B size A n xs
theorem stable_isReads (size n : Nat) (xs : List Value) : Stable (isReads size n xs) := fun _ _ _ ⟨A, c, B, h1, h2, h3⟩ hb => ⟨A, c, B, h1, Nat.le_trans h2 hb.size, h3.below (hb.mono h2)⟩
def wLd (r : RigZ) (p k j : Nat) : List Bool := (List.range j).map (worstZ r p k)
theorem wLd_len (r : RigZ) (p k j : Nat) : (wLd r p k j).length = j := by simp [wLd]
theorem wLd_succ (r : RigZ) (p k j : Nat) : (wLd r p k (j + 1)).map Value.bool = (wLd r p k j).map Value.bool ++ [.bool (worstZ r p k j)] := by simp [wLd, List.range_succ]
theorem wLd_mom (r : RigZ) (p k : Nat) : momZ r (ldF (wLd r p k r.seats.length)) p k = momZ r (worstZ r p k) p k :=
  mom_ext p k _ fun i hi => by simp [ldF, wLd, hi]
def WoPost (w : World) (r : RigZ) (p k : Nat) (e : Ending) (w' : World) : Prop := Below w.heap.size w w' ∧ ∃ A c, e = .returned (.slice A r.seats.length c) ∧ Reads w' w'.heap.size 1 A r.seats.length ((wLd r p k r.seats.length).map Value.bool)
set_option maxRecDepth 100000 in
set_option maxHeartbeats 4000000 in
theorem rworst_any (r : RigZ) (R : RigR) (B p k : Nat) (w : World) (hB : B ≤ w.heap.size) (hR : RigIn w B r R) (hv : rigB r = true) (hk : k < r.feet.length) (hp : p < phZ r) :
    Calls Try.prog 76 #[rigV r R, .int .i64 (p : Int), .int .i64 (k : Int)] w (WoPost w r p k) := by
  obtain ⟨A1, k1, rs, A2, k2⟩ := R
  obtain ⟨i0, hi, hz0, hz1, hz2⟩ := info_parts Try.info_bool
  obtain ⟨hs20, hsb, ⟨h3, h8, hsp, hgr, hcv⟩, hce, hfr, hem, hfu⟩ := rigB_parts hv
  obtain ⟨W, hW⟩ : ∃ W, W = w.alloc (.cells (rigCells r ⟨A1, k1, rs, A2, k2⟩).toArray 57) := ⟨_, rfl⟩
  have bW : Below w.heap.size w W := by subst hW; exact (Below.refl _ _).alloc (Nat.le_refl _) _
  have r0 : Row W w.heap.size 57 (rigCells r ⟨A1, k1, rs, A2, k2⟩) := by subst hW; exact Row.new w _ (rigCells r ⟨A1, k1, rs, A2, k2⟩).toArray
  have hR0 := Lib.hid hR
  unfold rigV
  unfold rigCells at r0 hW
  dsimp only at r0 hW ⊢
  have z0 := r0.lt
  obtain ⟨_, q0, q1, q2, q3, q4, q5, q6, q7⟩ := Row.at_8 r0
  clear hR
  go_enter Try.func76, Try.ntmps76
  go_upto_region 2 with (fail)
  rw [← hW]
  clear hW
  go_wp2_with fail
  go_loopw [7, 8] (fun v i wr => ∃ j : Nat, j ≤ r.seats.length ∧ i = .int .i64 j ∧ Below w.heap.size w wr ∧ Row wr w.heap.size 57 (rigCells r ⟨A1, k1, rs, A2, k2⟩) ∧ wr.ownsRow (w.heap.size + 1) 4 1 v j ((wLd r p k j).map Value.bool)) (fun _ i _ => r.seats.length - (intOf i).toNat)
  case atStart => exact ⟨0, Nat.zero_le _, rfl, bW, r0, World.ownsRow_nil _ _ _ _⟩
  case round =>
    obtain ⟨j, hj, rfl, hbel, rj, hown⟩ := hrel
    clear q0 q1 q2 q3 q4 q5 q6 q7 bW r0 z0
    by_cases hlt : j < r.seats.length
    · have hRj := RigIn.below hR0.out (hbel.mono hB)
      have hBj : B ≤ wr.heap.size := Nat.le_trans hB hbel.size
      obtain ⟨bs, o, hA1, hbs, hc⟩ := hRj.s.outer (by omega)
      dsimp only at hA1 hc
      subst hA1
      have hcj := hc j hlt
      clear hc
      obtain ⟨b2, o2, hA2, hb2, c0, c1, c2⟩ := (hRj.s.inner j hlt).atp (k := p) (by rw [phZ_at hv hlt]; exact hp)
      dsimp only at hA2
      have hpl : (p : Int) < ((pathAt r.seats j).length : Int) := by rw [phZ_at hv hlt]; omega
      obtain ⟨N, hN⟩ : ∃ N, N = (pathAt r.seats j).length := ⟨_, rfl⟩
      rw [← hN] at hcj hpl
      rw [hA2] at hcj
      have hpn : p < N := by omega
      have hp0 : (0 : Int) ≤ (p : Int) := by omega
      have hN0 : 0 < N := by omega
      have hnil2 : ¬ r.seats = [] := by intro e; rw [e] at hlt; simp at hlt
      have hjl : (j : Int) < (r.seats.length : Int) := by omega
      have hqs := seat_span hv j p
      obtain ⟨q, hq0⟩ : ∃ q, q = seatAt r j p := ⟨_, rfl⟩
      have hst : ptAt (pathAt r.seats j) p = q := by rw [hq0]; rfl
      rw [← hq0] at hqs
      rw [hst] at c0 c1 c2
      obtain ⟨zz, hzz⟩ : ∃ zz, zz = armZ r.feet k q := ⟨_, rfl⟩
      have HS : Hid (worstZ r p k j = decide (zz < 0)) := by show _ = _; unfold worstZ; rw [← hq0, ← hzz]
      have HW1 : Hid ((wLd r p k (j + 1)).map Value.bool = (wLd r p k j).map Value.bool ++ [.bool (decide (zz < 0))]) := by show _ = _; rw [wLd_succ, HS.out]
      have e3 : IntKind.i64.wrap ((j : Int) + 1) = (j : Int) + 1 := IntWalk.i64_in _ (by omega)
      have HA : Hid (∀ X, Below wr.heap.size wr X → Calls Try.prog 87 #[rigV r ⟨some ⟨bs, o, none⟩, k1, rs, A2, k2⟩, .int .i64 (k : Int), ptV q] X fun e w' => e = .returned (.int .i64 zz) ∧ Below X.heap.size X w') := fun X hX =>
        rarm_any zz r ⟨some ⟨bs, o, none⟩, k1, rs, A2, k2⟩ B k q X hzz (Nat.le_trans hBj hX.size) (hRj.below (hX.mono hBj)) hv hk hqs
      unfold rigV ptV at HA
      dsimp only at HA
      clear hq0 hst hzz hN hqs hRj
      have Hrj := Lib.hid rj
      unfold rigCells at rj
      dsimp only at rj
      have zj := rj.lt
      obtain ⟨_, q0, q1, q2, q3, q4, q5, q6, q7⟩ := Row.at_8 rj
      have zb2 : b2 < wr.heap.size := by omega
      have zbs : bs < wr.heap.size := by omega
      have hb0 : w.heap.size + 1 ≤ wr.heap.size := by omega
      have mm3 : j + 1 ≤ maxLen := by unfold maxLen; omega
      go_upto_region 5 with (fail)
      refine wp_region_add (m := 14) (w0 := wr) (ord := [0, 1, 2, 3, 4, 5, 6, 7, 8, 9, 10, 11, 12, 13, 14, 15]) (ds := [(0, 16), (1, 17), (2, 18), (3, 19), (4, 20), (5, 21), (6, 22), (7, 23), (8, 24), (9, 25), (10, 26), (11, 27), (12, 28), (13, 29)]) (l := [isV ?va0, isV ?va1, isV ?va2, isV ?va3, isV ?va4, isV ?va5, isV ?va6, isV ?va7, isV ?va8, isV ?va9, isV ?va10, isV ?va11, isV ?va12, isNew1 4 (.bool (decide (zz < 0)))]) (by kernel_rfl) (by kernel_rfl) (by first | rfl | kernel_rfl) (AddSteps.cons (k := 0) (k' := 1) rfl ?sa0 (AddSteps.cons (k := 1) (k' := 2) rfl ?sa1 (AddSteps.cons (k := 2) (k' := 3) rfl ?sa2 (AddSteps.cons (k := 3) (k' := 4) rfl ?sa3 (AddSteps.cons (k := 4) (k' := 5) rfl ?sa4 (AddSteps.cons (k := 5) (k' := 6) rfl ?sa5 (AddSteps.cons (k := 6) (k' := 7) rfl ?sa6 (AddSteps.cons (k := 7) (k' := 8) rfl ?sa7 (AddSteps.cons (k := 8) (k' := 9) rfl ?sa8 (AddSteps.cons (k := 9) (k' := 10) rfl ?sa9 (AddSteps.cons (k := 10) (k' := 11) rfl ?sa10 (AddSteps.cons (k := 11) (k' := 12) rfl ?sa11 (AddSteps.cons (k := 12) (k' := 13) rfl ?sa12 (AddSteps.cons (k := 13) (k' := 14) rfl ?sa13 AddSteps.nil)))))))))))))) ?sta ?fina
      case sa0 =>
        refine AddStep.go (o := ⟨some 16, _, _, _, _, _⟩) rfl rfl (fun xs y hy hV K hK => ?_)
        clear hV
        simp only [putsF, List.foldl_cons, List.foldl_nil, Act.put, List.setIfInBounds_toArray, List.set_cons_zero, List.set_cons_succ] at hK ⊢
        go_wp2_with fail
        exact hK.out _ _ (Below.refl _ _) (by exact rfl)
      case sa1 =>
        refine AddStep.go (o := ⟨some 17, _, _, _, _, _⟩) rfl rfl (fun xs y hy hV K hK => ?_)
        clear hV
        simp only [putsF, List.foldl_cons, List.foldl_nil, Act.put, List.setIfInBounds_toArray, List.set_cons_zero, List.set_cons_succ] at hK ⊢
        obtain ⟨_, q0, q1, q2, q3, q4, q5, q6, q7⟩ := Row.at_8 (rj.below hy zj)
        have hcj := (hy.cell (p := ⟨bs, o + j, none⟩) zbs).trans hcj
        have c0 := (hy.cell (p := ⟨b2, o2 + p * 3, none⟩) zb2).trans c0
        have c1 := (hy.cell (p := ⟨b2, o2 + p * 3 + 1, none⟩) zb2).trans c1
        have c2 := (hy.cell (p := ⟨b2, o2 + p * 3 + 2, none⟩) zb2).trans c2
        go_wp2_with fail
        exact hK.out _ _ (Below.refl _ _) (by exact rfl)
      case sa2 =>
        refine AddStep.go (o := ⟨some 18, _, _, _, _, _⟩) rfl rfl (fun xs y hy hV K hK => ?_)
        clear hV
        simp only [putsF, List.foldl_cons, List.foldl_nil, Act.put, List.setIfInBounds_toArray, List.set_cons_zero, List.set_cons_succ] at hK ⊢
        go_wp2_with fail
        exact hK.out _ _ (Below.refl _ _) (by exact rfl)
      case sa3 =>
        refine AddStep.go (o := ⟨some 19, _, _, _, _, _⟩) rfl rfl (fun xs y hy hV K hK => ?_)
        clear hV
        simp only [putsF, List.foldl_cons, List.foldl_nil, Act.put, List.setIfInBounds_toArray, List.set_cons_zero, List.set_cons_succ] at hK ⊢
        go_wp2_with fail
        exact hK.out _ _ (Below.refl _ _) (by exact rfl)
      case sa4 =>
        refine AddStep.go (o := ⟨some 20, _, _, _, _, _⟩) rfl rfl (fun xs y hy hV K hK => ?_)
        have e3 : xs 3 = _ := hV 3 (by kernel_rfl)
        clear hV
        simp only [putsF, List.foldl_cons, List.foldl_nil, Act.put, List.setIfInBounds_toArray, List.set_cons_zero, List.set_cons_succ] at hK ⊢
        simp only [e3] at hK ⊢
        clear e3
        obtain ⟨_, q0, q1, q2, q3, q4, q5, q6, q7⟩ := Row.at_8 (rj.below hy zj)
        have hcj := (hy.cell (p := ⟨bs, o + j, none⟩) zbs).trans hcj
        have c0 := (hy.cell (p := ⟨b2, o2 + p * 3, none⟩) zb2).trans c0
        have c1 := (hy.cell (p := ⟨b2, o2 + p * 3 + 1, none⟩) zb2).trans c1
        have c2 := (hy.cell (p := ⟨b2, o2 + p * 3 + 2, none⟩) zb2).trans c2
        go_wp2_with fail
        exact hK.out _ _ (Below.refl _ _) (by exact rfl)
      case sa5 =>
        refine AddStep.go (o := ⟨some 21, _, _, _, _, _⟩) rfl rfl (fun xs y hy hV K hK => ?_)
        clear hV
        simp only [putsF, List.foldl_cons, List.foldl_nil, Act.put, List.setIfInBounds_toArray, List.set_cons_zero, List.set_cons_succ] at hK ⊢
        go_wp2_with fail
        exact hK.out _ _ (Below.refl _ _) (by exact rfl)
      case sa6 =>
        refine AddStep.go (o := ⟨some 22, _, _, _, _, _⟩) rfl rfl (fun xs y hy hV K hK => ?_)
        have e4 : xs 4 = _ := hV 4 (by kernel_rfl)
        have e5 : xs 5 = _ := hV 5 (by kernel_rfl)
        clear hV
        simp only [putsF, List.foldl_cons, List.foldl_nil, Act.put, List.setIfInBounds_toArray, List.set_cons_zero, List.set_cons_succ] at hK ⊢
        simp only [e4, e5] at hK ⊢
        clear e4 e5
        go_wp2_with fail
        exact hK.out _ _ (Below.refl _ _) (by exact rfl)
      case sa7 =>
        refine AddStep.go (o := ⟨some 23, _, _, _, _, _⟩) rfl rfl (fun xs y hy hV K hK => ?_)
        have e6 : xs 6 = _ := hV 6 (by kernel_rfl)
        clear hV
        simp only [putsF, List.foldl_cons, List.foldl_nil, Act.put, List.setIfInBounds_toArray, List.set_cons_zero, List.set_cons_succ] at hK ⊢
        simp only [e6] at hK ⊢
        clear e6
        obtain ⟨_, q0, q1, q2, q3, q4, q5, q6, q7⟩ := Row.at_8 (rj.below hy zj)
        have hcj := (hy.cell (p := ⟨bs, o + j, none⟩) zbs).trans hcj
        have c0 := (hy.cell (p := ⟨b2, o2 + p * 3, none⟩) zb2).trans c0
        have c1 := (hy.cell (p := ⟨b2, o2 + p * 3 + 1, none⟩) zb2).trans c1
        have c2 := (hy.cell (p := ⟨b2, o2 + p * 3 + 2, none⟩) zb2).trans c2
        go_wp2_with fail
        exact hK.out _ _ (Below.refl _ _) (by exact rfl)
      case sa8 =>
        refine AddStep.go (o := ⟨some 24, _, _, _, _, _⟩) rfl rfl (fun xs y hy hV K hK => ?_)
        clear hV
        simp only [putsF, List.foldl_cons, List.foldl_nil, Act.put, List.setIfInBounds_toArray, List.set_cons_zero, List.set_cons_succ] at hK ⊢
        go_wp2_with fail
        exact hK.out _ _ (Below.refl _ _) (by exact rfl)
      case sa9 =>
        refine AddStep.go (o := ⟨some 25, _, _, _, _, _⟩) rfl rfl (fun xs y hy hV K hK => ?_)
        have e7 : xs 7 = _ := hV 7 (by kernel_rfl)
        have e8 : xs 8 = _ := hV 8 (by kernel_rfl)
        clear hV
        simp only [putsF, List.foldl_cons, List.foldl_nil, Act.put, List.setIfInBounds_toArray, List.set_cons_zero, List.set_cons_succ] at hK ⊢
        simp only [e7, e8] at hK ⊢
        clear e7 e8
        go_wp2_with fail
        exact hK.out _ _ (Below.refl _ _) (by exact rfl)
      case sa10 =>
        refine AddStep.go (o := ⟨some 26, _, _, _, _, _⟩) rfl rfl (fun xs y hy hV K hK => ?_)
        have e9 : xs 9 = _ := hV 9 (by kernel_rfl)
        clear hV
        simp only [putsF, List.foldl_cons, List.foldl_nil, Act.put, List.setIfInBounds_toArray, List.set_cons_zero, List.set_cons_succ] at hK ⊢
        simp only [e9] at hK ⊢
        clear e9
        obtain ⟨_, q0, q1, q2, q3, q4, q5, q6, q7⟩ := Row.at_8 (rj.below hy zj)
        have hcj := (hy.cell (p := ⟨bs, o + j, none⟩) zbs).trans hcj
        have c0 := (hy.cell (p := ⟨b2, o2 + p * 3, none⟩) zb2).trans c0
        have c1 := (hy.cell (p := ⟨b2, o2 + p * 3 + 1, none⟩) zb2).trans c1
        have c2 := (hy.cell (p := ⟨b2, o2 + p * 3 + 2, none⟩) zb2).trans c2
        go_wp2_with fail
        exact hK.out _ _ (Below.refl _ _) (by exact rfl)
      case sa11 =>
        refine AddStep.go (o := ⟨some 27, _, _, _, _, _⟩) rfl rfl (fun xs y hy hV K hK => ?_)
        have e1 : xs 1 = _ := hV 1 (by kernel_rfl)
        have e2 : xs 2 = _ := hV 2 (by kernel_rfl)
        have e10 : xs 10 = _ := hV 10 (by kernel_rfl)
        clear hV
        simp only [putsF, List.foldl_cons, List.foldl_nil, Act.put, List.setIfInBounds_toArray, List.set_cons_zero, List.set_cons_succ] at hK ⊢
        simp only [e1, e2, e10] at hK ⊢
        clear e1 e2 e10
        go_wp2_with (go_at_call 87; refine (HA.out y hy).mono ?_; rintro e z ⟨rfl, hz⟩)
        exact hK.out _ _ hz (by exact rfl)
      case sa12 =>
        refine AddStep.go (o := ⟨some 28, _, _, _, _, _⟩) rfl rfl (fun xs y hy hV K hK => ?_)
        have e11 : xs 11 = _ := hV 11 (by kernel_rfl)
        clear hV
        simp only [putsF, List.foldl_cons, List.foldl_nil, Act.put, List.setIfInBounds_toArray, List.set_cons_zero, List.set_cons_succ] at hK ⊢
        simp only [e11] at hK ⊢
        clear e11
        go_wp2_with fail
        exact hK.out _ _ (Below.refl _ _) (by exact rfl)
      case sa13 =>
        refine AddStep.go (o := ⟨some 29, _, _, _, _, _⟩) rfl rfl (fun xs y hy hV K hK => ?_)
        have e12 : xs 12 = _ := hV 12 (by kernel_rfl)
        clear hV
        simp only [putsF, List.foldl_cons, List.foldl_nil, Act.put, List.setIfInBounds_toArray, List.set_cons_zero, List.set_cons_succ] at hK ⊢
        simp only [e12] at hK ⊢
        clear e12
        go_wp2_with fail
        exact hK.out _ _ ((Below.refl _ _).alloc (Nat.le_refl _) _) ⟨y.heap.size, rfl, Row.new y _ #[_]⟩
      case sta => exact (AllSt.cons (stable_isV _) (AllSt.cons (stable_isV _) (AllSt.cons (stable_isV _) (AllSt.cons (stable_isV _) (AllSt.cons (stable_isV _) (AllSt.cons (stable_isV _) (AllSt.cons (stable_isV _) (AllSt.cons (stable_isV _) (AllSt.cons (stable_isV _) (AllSt.cons (stable_isV _) (AllSt.cons (stable_isV _) (AllSt.cons (stable_isV _) (AllSt.cons (stable_isV _) (AllSt.cons (stable_isNew1 _ _) AllSt.nil))))))))))))))
      case fina =>
        intro xs y hy hV
        have e0 : xs 0 = _ := hV 0 (by decide)
        have e1 : xs 1 = _ := hV 1 (by decide)
        have e2 : xs 2 = _ := hV 2 (by decide)
        have e3 : xs 3 = _ := hV 3 (by decide)
        have e4 : xs 4 = _ := hV 4 (by decide)
        have e5 : xs 5 = _ := hV 5 (by decide)
        have e6 : xs 6 = _ := hV 6 (by decide)
        have e7 : xs 7 = _ := hV 7 (by decide)
        have e8 : xs 8 = _ := hV 8 (by decide)
        have e9 : xs 9 = _ := hV 9 (by decide)
        have e10 : xs 10 = _ := hV 10 (by decide)
        have e11 : xs 11 = _ := hV 11 (by decide)
        have e12 : xs 12 = _ := hV 12 (by decide)
        obtain ⟨g13, e13, r13⟩ := (hV 13 (by decide))
        clear hV
        simp only [putsF, List.foldl_cons, List.foldl_nil, Act.put, List.setIfInBounds_toArray, List.set_cons_zero, List.set_cons_succ]
        simp only [e0, e1, e2, e3, e4, e5, e6, e7, e8, e9, e10, e11, e12, e13]
        clear e0 e1 e2 e3 e4 e5 e6 e7 e8 e9 e10 e11 e12 e13
        have hown2 := own_below hown hy
        have hb2' : w.heap.size + 1 ≤ y.heap.size := Nat.le_trans hb0 hy.size
        show wpOps _ _ _ [14, 15] _ _
        refine wpOps_go (o := ⟨some 30, _, _, _, _, _⟩) rfl rfl (fun K hK => ?_)
        refine wp_appG _ (.tmp 16) (.tmp 29) 64 (by rfl) (w.heap.size + 1) 4 i0 _ 1 1 Try.underlying64 hi hz0 hz1 hz2 rfl (by decide) _ j ((wLd r p k j).map Value.bool) (by rfl) hown2 (g13 + 1) (some ⟨g13, 0, none⟩) 1 1 [.bool (decide (zz < 0))] (by rfl) (r13.reads rfl (Nat.lt_succ_self _)) (by intro u' hu'; simp at hu'; subst hu'; rfl) mm3 (by omega) hb2' ?_
        intro v2 X own3 hg3
        have bX := owns_below hown2 hg3 hb2'
        obtain ⟨A5, c5, rfl, _⟩ := own_reads own3
        simp only [Act.put, List.setIfInBounds_toArray, List.set_cons_zero, List.set_cons_succ]
        refine hK.out _ _ ?_
        refine wpOps_go (o := ⟨some 7, _, _, _, _, _⟩) rfl rfl (fun K hK => ?_)
        go_wp2_with fail
        refine hK.out _ _ (wpOps_nil ?_)
        go_wp2_with fail
        go_roundw
        case rel => exact ⟨j + 1, by omega, by go_num, (hbel.trans (hy.mono hbel.size)).trans (bX.mono (by omega)), (Hrj.out.below hy zj).below bX (by omega), by rw [HW1.out]; exact own3⟩
        case measure => simp [intOf]; omega
    · obtain rfl : j = r.seats.length := by omega
      obtain ⟨A5, c5, rfl, hrd⟩ := own_reads hown
      unfold rigCells at rj
      dsimp only at rj
      obtain ⟨_, q0, q1, q2, q3, q4, q5, q6, q7⟩ := Row.at_8 rj
      go_wp2_with fail
      go_ret
      exact ⟨hbel, A5, c5, rfl, hrd⟩
end Go.Proofs.Ytkmiapfkebdpbaa
