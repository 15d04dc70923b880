/- Contract of fewestFull. Conditions: a valid rig that reads as data, and a foot line about which it does not stand in that phase. -/
import Derived.Test.YtkmiapfkebdpbaaOc
import Derived.Test.YtkmiapfkebdpbaaRg
import Derived.Test.YtkmiapfkebdpbaaRh
import Derived.Test.YtkmiapfkebdpbaaLa
import Derived.Test.YtkmiapfkebdpbaaKv
import Derived.Deep.OwnRows
namespace Go.Proofs.Ytkmiapfkebdpbaa
open Go.RowKit

/-- A row of numbers, of which the first j are known. -/
def RdIn (w : World) (g : Nat) (l : List Int) (j : Nat) : Prop := ∃ xs, Row w g 3 xs ∧ xs.length = l.length ∧ ∀ i, i < j → xs[i]? = some (.int .i64 (l.getD i 0))
theorem RdIn.below {w w' : World} {g B j : Nat} {l : List Int} (h : RdIn w g l j) (hb : Below B w w') (hg : g < B) : RdIn w' g l j := by
  obtain ⟨xs, h1, h2, h3⟩ := h
  exact ⟨xs, h1.below hb hg, h2, h3⟩
theorem RdIn.lt {w : World} {g j : Nat} {l : List Int} (h : RdIn w g l j) : g < w.heap.size := by
  obtain ⟨xs, h1, _⟩ := h
  exact h1.lt
theorem RdIn.at {w : World} {g j : Nat} {l : List Int} (h : RdIn w g l j) {i : Nat} (hi : i < l.length) : (∃ v, w.cell? ⟨g, i, none⟩ = some v) ∧ w.frozen? ⟨g, i, none⟩ = false := by
  obtain ⟨xs, h1, h2, _⟩ := h
  exact ⟨⟨xs[i]'(by omega), by rw [h1.cell (by omega)]; exact List.getElem?_eq_getElem _⟩, h1.frozen i⟩
theorem RdIn.set {w : World} {g j : Nat} {l : List Int} (h : RdIn w g l j) (hj : j < l.length) {T : Int} (hT : l.getD j 0 = T) : RdIn (w.setCell ⟨g, j, none⟩ (.int .i64 T)) g l (j + 1) := by
  obtain ⟨xs, h1, h2, h3⟩ := h
  refine ⟨_, h1.set j _, by simpa using h2, fun i hi => ?_⟩
  by_cases hij : j = i
  · subst hij
    rw [List.getElem?_set_self (by omega), hT]
  · rw [List.getElem?_set_ne hij]
    exact h3 i (by omega)
theorem RdIn.cells {w : World} {g : Nat} {l : List Int} (h : RdIn w g l l.length) (k : Nat) : ∀ j, j < (l.drop k).length → w.cell? ⟨g, k + j, none⟩ = some (.int .i64 ((l.drop k).getD j 0)) := by
  intro j hj
  obtain ⟨xs, h1, h2, h3⟩ := h
  have hj' : k + j < l.length := by simp at hj; omega
  rw [h1.cell (by omega), h3 _ hj']
  simp [List.getD]
theorem RdIn.cell {w : World} {g : Nat} {l : List Int} (h : RdIn w g l l.length) {j : Nat} (hj : j < l.length) : w.cell? ⟨g, j, none⟩ = some (.int .i64 (l.getD j 0)) := by
  have := h.cells 0 j (by simpa using hj)
  simpa using this
theorem Try.info_int9 : (Try.prog.info? 3).map (fun i => (i.zero, i.size, i.bytes)) = some (some (.int .i64 0), 1, 8) := by kernel_rfl
theorem Try.info_bool9 : (Try.prog.info? 4).map (fun i => (i.zero, i.size, i.bytes)) = some (some (.bool false), 1, 1) := by kernel_rfl
theorem run_mkInts (n : Nat) (hn : n ≤ 100) (w : World) : ∃ M : Array Value, M.size = n ∧ (Instr.makeSlice 47 (.int .i64 (n : Int)) (.int .i64 (n : Int))).run Try.prog w = .ok (.slice (some ⟨w.heap.size, 0, none⟩) n n) (w.alloc (.cells M 3)) :=
  ⟨_, size_madeCells _ _, run_make_row' _ _ _ _ Try.underlying47 Try.info_int9 rfl .i64 .i64 n (by omega) (by omega) w⟩
theorem run_mkBools (n : Nat) (hn : n ≤ 100) (w : World) : ∃ M : Array Value, M.toList = List.replicate n (.bool false) ∧ (Instr.makeSlice 64 (.int .i64 (n : Int)) (.int .i64 (n : Int))).run Try.prog w = .ok (.slice (some ⟨w.heap.size, 0, none⟩) n n) (w.alloc (.cells M 4)) :=
  ⟨_, by
    refine List.ext_getElem? fun i => ?_
    simp only [madeCells, List.getElem?_replicate, Array.getElem?_toList, Array.getElem?_map, Array.getElem?_range]
    by_cases hi : i < n
    · simp [hi, Nat.mod_one]
    · simp [hi], run_make_row' _ _ _ _ Try.underlying64 Try.info_bool9 rfl .i64 .i64 n (by omega) (by omega) w⟩
theorem no_any (i : Int) (w : World) : Calls Try.prog 89 #[.int .i64 i] w fun e w' => e = .returned (.bool false) ∧ w' = w := by
  go_enter Try.func89, Try.ntmps89
  go_wp2_with fail
  go_ret
  exact ⟨rfl, rfl⟩
/-- The loading as far as it is known, the rest empty. -/
def ldCells (n : Nat) (ld : List Bool) : List Value := ld.map Value.bool ++ List.replicate (n - ld.length) (.bool false)
theorem ldCells_len {n : Nat} {ld : List Bool} (h : ld.length ≤ n) : (ldCells n ld).length = n := by simp [ldCells]; omega
theorem ldCells_no {n : Nat} {ld : List Bool} (h : ld.length < n) : ldCells n (ld ++ [false]) = ldCells n ld := by
  unfold ldCells
  rw [show n - ld.length = (n - (ld ++ [false]).length) + 1 by simp; omega, List.replicate_succ]
  simp
theorem ldCells_yes {n : Nat} {ld : List Bool} (h : ld.length < n) : (ldCells n ld).set ld.length (.bool true) = ldCells n (ld ++ [true]) := by
  unfold ldCells
  rw [show n - ld.length = (n - (ld ++ [true]).length) + 1 by simp; omega, List.replicate_succ, List.set_append_right _ _ (by simp)]
  simp
def FuPost (w : World) (r : RigZ) (p k : Nat) (e : Ending) (w' : World) : Prop := Below w.heap.size w w' ∧ ∃ n G : Nat, FewN (ridersZ r p k) (momZ r (fun _ => false) p k) n ∧ e = .returned (.slice (some ⟨G, 0, none⟩) r.seats.length r.seats.length) ∧ w.heap.size ≤ G ∧ Row w' G 4 ((progSel (ridersZ r p k) (momZ r (fun _ => false) p k) n).map Value.bool)
set_option maxRecDepth 100000 in
set_option maxHeartbeats 4000000 in
theorem fewestFull_any (r : RigZ) (R : RigR) (B g ph p k : Nat) (w : World) (hB : B ≤ w.heap.size) (hR : RigIn w B r R) (hv : rigB r = true) (hL : Lines w g r.feet r.feet.length) (hk : k < r.feet.length) (hp : p < phZ r) (hneg : momZ r (worstZ r p k) p k < 0) :
    Calls Try.prog 77 #[gRigV r R g ph, .int .i64 (p : Int), .int .i64 (k : Int)] w (FuPost w r p k) := by
  have hex := worst_few hneg
  clear hneg
  have HM : Hid (∀ z ∈ ridersZ r p k, -800000000000000 ≤ z ∧ z ≤ 800000000000000) := fun z hz => by
    obtain ⟨i, _, rfl⟩ := List.mem_map.1 hz
    exact rider_bd hv p k i
  have hs0 := mom_bd hv (fun _ => false) p k r.seats.length
  have hlen := ridersZ_len r p k
  have HMo : Hid (∀ X, Below w.heap.size w X → Calls Try.prog 71 #[gRigV r R g ph, .int .i64 (p : Int), .int .i64 (k : Int), .func (.func 89) #[] #[]] X fun e w' => e = .returned (.int .i64 (momZ r (fun _ => false) p k)) ∧ Below X.heap.size X w') := fun X hX =>
    moment_any r R B g ph p k X _ _ (fun _ => false) (Nat.le_trans hB hX.size) (hR.below (hX.mono hB)) hv (hL.keep (hX.block g hL.lt)) hk hp (fun a w => rfl) (fun i x hi hx => (no_any _ x).mono fun e w' h => ⟨h.1, by rw [h.2]; exact Below.refl _ _⟩)
  unfold FuPost
  obtain ⟨s, hs⟩ : ∃ s, s = momZ r (fun _ => false) p k := ⟨_, rfl⟩
  rw [show momK r (fun _ => false) p k r.seats.length = momZ r (fun _ => false) p k from rfl, ← hs] at hs0
  rw [← hs] at hex HMo ⊢
  clear hs
  have HT : Hid (∀ j, j < r.seats.length → (ridersZ r p k).getD j 0 = (r.full - r.empty) * armZ r.feet k (seatAt r j p)) := fun j hj => by
    simp [ridersZ, riderZ, hj]
  have HT2 : Hid (∀ j, -800000000000000 ≤ (r.full - r.empty) * armZ r.feet k (seatAt r j p) ∧ (r.full - r.empty) * armZ r.feet k (seatAt r j p) ≤ 800000000000000) := fun j => rider_bd hv p k j
  have hR0 := Lib.hid hR
  obtain ⟨A1, k1, rs, A2, k2⟩ := R
  obtain ⟨hs20, hsb, ⟨h3, h8, hsp, hgr, hcv⟩, hce, hfr, hem, hfu⟩ := rigB_parts hv
  obtain ⟨W, hW⟩ : ∃ W, W = w.alloc (.cells (gCells r ⟨A1, k1, rs, A2, k2⟩ g ph).toArray 101) := ⟨_, rfl⟩
  have bW : Below w.heap.size w W := by subst hW; exact (Below.refl _ _).alloc (Nat.le_refl _) _
  have rW : Row W w.heap.size 101 (gCells r ⟨A1, k1, rs, A2, k2⟩ g ph) := by subst hW; exact Row.new w _ (gCells r ⟨A1, k1, rs, A2, k2⟩ g ph).toArray
  have HLn : Hid (∀ X, Below w.heap.size w X → Lines X g r.feet r.feet.length) := fun X hX => hL.keep (hX.block g hL.lt)
  obtain ⟨rd, hrd⟩ : ∃ rd, rd = ridersZ r p k := ⟨_, rfl⟩
  rw [← hrd] at hex HM hlen HT ⊢
  clear hrd hR hL
  have zW := rW.lt
  unfold gRigV at HMo ⊢
  unfold gCells at rW hW
  dsimp only at rW hW HMo ⊢
  obtain ⟨_, q0, q1, q2, q3, q4, q5, q6, q7, q8, q9⟩ := Row.at_10 rW
  go_enter Try.func77, Try.ntmps77
  go_upto_region 1 with (fail)
  rw [← hW]
  clear hW
  go_wp2_with fail
  refine (HMo.out W bW).mono ?_
  rintro e w1 ⟨rfl, hb1⟩
  have b1 := bW.trans (hb1.mono bW.size)
  have r1 := rW.below hb1 zW
  have z1 := r1.lt
  clear q0 q1 q2 q3 q4 q5 q6 q7 q8 q9 rW zW bW hb1 HMo
  obtain ⟨_, q0, q1, q2, q3, q4, q5, q6, q7, q8, q9⟩ := Row.at_10 r1
  obtain ⟨M, hM, hmk⟩ := run_mkInts r.seats.length (by omega) w1
  go_upto_region 3 with (fail)
  clear hmk
  obtain ⟨X, hX⟩ : ∃ X, X = w1.alloc (.cells M 3) := ⟨_, rfl⟩
  rw [← hX]
  have b2 : Below w.heap.size w X := by subst hX; exact b1.alloc b1.size _
  have r2 : Row X w.heap.size 101 (gCells r ⟨A1, k1, rs, A2, k2⟩ g ph) := by subst hX; exact r1.alloc _
  have d2 : RdIn X w1.heap.size rd 0 := by subst hX; exact ⟨_, Row.new w1 _ M, by simpa [hlen] using hM, fun i hi => absurd hi (Nat.not_lt_zero _)⟩
  obtain ⟨G, hG⟩ : ∃ G, G = w1.heap.size := ⟨_, rfl⟩
  rw [← hG] at d2 ⊢
  have zG : w.heap.size < G := by rw [hG]; exact z1
  clear hX hG hM q0 q1 q2 q3 q4 q5 q6 q7 q8 q9 r1 z1 b1
  have r3 := r2
  unfold gCells at r3
  dsimp only at r3
  obtain ⟨_, q0, q1, q2, q3, q4, q5, q6, q7, q8, q9⟩ := Row.at_10 r3
  clear r3
  go_wp2_with fail
  go_loopw [28] (fun i wr => ∃ j : Nat, j ≤ r.seats.length ∧ i = .int .i64 j ∧ Below w.heap.size w wr ∧ Row wr w.heap.size 101 (gCells r ⟨A1, k1, rs, A2, k2⟩ g ph) ∧ RdIn wr G rd j) (fun i _ => r.seats.length - (intOf i).toNat)
  case atStart => exact ⟨0, Nat.zero_le _, rfl, b2, r2, d2⟩
  case round =>
    obtain ⟨j, hj, rfl, hbel, rj, dj⟩ := hrel
    clear q0 q1 q2 q3 q4 q5 q6 q7 q8 q9 b2 r2 d2
    by_cases hlt : j < r.seats.length
    · have hRj := RigIn.below hR0.out (hbel.mono hB)
      have hBj : B ≤ wr.heap.size := Nat.le_trans hB hbel.size
      obtain ⟨bs, o, hA1, hbs, hc⟩ := hRj.s.outer (by omega)
      dsimp only at hA1 hc
      subst hA1
      have hcj := hc j hlt
      clear hc
      obtain ⟨b2, o2, hA2, hb2, c0, c1, c2⟩ := (hRj.s.inner j hlt).atp (k := p) (by rw [phZ_at hv hlt]; exact hp)
      dsimp only at hA2
      have hpl : (p : Int) < ((pathAt r.seats j).length : Int) := by rw [phZ_at hv hlt]; omega
      obtain ⟨N, hN⟩ : ∃ N, N = (pathAt r.seats j).length := ⟨_, rfl⟩
      rw [← hN] at hcj hpl
      rw [hA2] at hcj
      have hpn : p < N := by omega
      have hp0 : (0 : Int) ≤ (p : Int) := by omega
      have hN0 : 0 < N := by omega
      have hnil2 : ¬ r.seats = [] := by intro e; rw [e] at hlt; simp at hlt
      have hnil : ¬ r.feet = [] := by intro e; rw [e] at hk; simp at hk
      have hkl : (k : Int) < (r.feet.length : Int) := by omega
      have hk0 : (0 : Int) ≤ (k : Int) := by omega
      have hjl : (j : Int) < (r.seats.length : Int) := by omega
      have hj0 : (0 : Int) ≤ (j : Int) := by omega
      have hqs := seat_span hv j p
      have hrt := HT.out j hlt
      have hrb := HT2.out j
      obtain ⟨q, hq0⟩ : ∃ q, q = seatAt r j p := ⟨_, rfl⟩
      have hst : ptAt (pathAt r.seats j) p = q := by rw [hq0]; rfl
      rw [← hq0] at hqs hrt hrb
      rw [hst] at c0 c1 c2
      obtain ⟨zz, hzz⟩ : ∃ zz, zz = armZ r.feet k q := ⟨_, rfl⟩
      rw [← hzz] at hrt hrb
      obtain ⟨D, hD⟩ : ∃ D, D = r.full - r.empty := ⟨_, rfl⟩
      rw [← hD] at hrt hrb
      have e1 : IntKind.i64.wrap (r.full - r.empty) = D := by rw [hD]; exact IntWalk.i64_in _ (by omega)
      obtain ⟨T, hT⟩ : ∃ T, T = D * zz := ⟨_, rfl⟩
      rw [← hT] at hrt hrb
      have e2 : IntKind.i64.wrap (D * zz) = T := by rw [← hT]; exact IntWalk.i64_in _ (by omega)
      have e3 : IntKind.i64.wrap ((j : Int) + 1) = (j : Int) + 1 := IntWalk.i64_in _ (by omega)
      have ha := ptAt_spanA hsp k
      have hb := ptAt_spanA hsp ((k + 1) % r.feet.length)
      have HI : Hid (∀ X, Below wr.heap.size wr X → Calls Try.prog 86 #[lineV (ptAt r.feet k) (ptAt r.feet ((k + 1) % r.feet.length)), ptV q] X fun e w' => e = .returned (.int .i64 zz) ∧ Below X.heap.size X w') := fun X _ => inside_at zz _ _ q (by rw [hzz]; rfl) ha hb hqs X
      unfold lineV ptV at HI
      have Hrt := Lib.hid hrt
      have Lj := HLn.out wr hbel
      obtain ⟨⟨v0, hv0⟩, hf0⟩ := dj.at (i := j) (by omega)
      have Hrj := Lib.hid rj
      clear hq0 hst hzz hN hqs hRj hD hT hrt hrb ha hb
      unfold gCells at rj
      dsimp only at rj
      have zj := rj.lt
      have zb2 : b2 < wr.heap.size := by omega
      have zG2 := dj.lt
      obtain ⟨_, q0, q1, q2, q3, q4, q5, q6, q7, q8, q9⟩ := Row.at_10 rj
      go_upto_region 6 with (fail)
      refine wp_region_add (m := 20) (w0 := wr) (ord := [0, 1, 2, 3, 4, 5, 6, 7, 8, 9, 10, 11, 12, 13, 14, 15, 16, 17, 18, 19, 20, 21]) (ds := [(0, 33), (1, 34), (2, 35), (3, 36), (4, 37), (5, 38), (6, 39), (7, 40), (8, 41), (9, 42), (10, 43), (11, 44), (12, 45), (13, 46), (14, 47), (15, 48), (16, 49), (17, 50), (18, 51), (19, 52)]) (l := [isV ?va0, isV ?va1, isV ?va2, isV ?va3, isV ?va4, isV ?va5, isV ?va6, isV ?va7, isV (.int .i64 D), isV ?va9, isV ?va10, isV ?va11, isV ?va12, isV ?va13, isV ?va14, isV ?va15, isV ?va16, isV ?va17, isV ?va18, isV (.int .i64 T)]) (by kernel_rfl) (by kernel_rfl) (by first | rfl | kernel_rfl) (AddSteps.cons (k := 0) (k' := 1) rfl ?sa0 (AddSteps.cons (k := 1) (k' := 2) rfl ?sa1 (AddSteps.cons (k := 2) (k' := 3) rfl ?sa2 (AddSteps.cons (k := 3) (k' := 4) rfl ?sa3 (AddSteps.cons (k := 4) (k' := 5) rfl ?sa4 (AddSteps.cons (k := 5) (k' := 6) rfl ?sa5 (AddSteps.cons (k := 6) (k' := 7) rfl ?sa6 (AddSteps.cons (k := 7) (k' := 8) rfl ?sa7 (AddSteps.cons (k := 8) (k' := 9) rfl ?sa8 (AddSteps.cons (k := 9) (k' := 10) rfl ?sa9 (AddSteps.cons (k := 10) (k' := 11) rfl ?sa10 (AddSteps.cons (k := 11) (k' := 12) rfl ?sa11 (AddSteps.cons (k := 12) (k' := 13) rfl ?sa12 (AddSteps.cons (k := 13) (k' := 14) rfl ?sa13 (AddSteps.cons (k := 14) (k' := 15) rfl ?sa14 (AddSteps.cons (k := 15) (k' := 16) rfl ?sa15 (AddSteps.cons (k := 16) (k' := 17) rfl ?sa16 (AddSteps.cons (k := 17) (k' := 18) rfl ?sa17 (AddSteps.cons (k := 18) (k' := 19) rfl ?sa18 (AddSteps.cons (k := 19) (k' := 20) rfl ?sa19 AddSteps.nil)))))))))))))))))))) ?sta ?fina
      case sa0 =>
        refine AddStep.go (o := ⟨some 33, _, _, _, _, _⟩) rfl rfl (fun xs y hy hV K hK => ?_)
        clear hV
        simp only [putsF, List.foldl_cons, List.foldl_nil, Act.put, List.setIfInBounds_toArray, List.set_cons_zero, List.set_cons_succ] at hK ⊢
        go_wp2_with fail
        exact hK.out _ _ (Below.refl _ _) (by exact rfl)
      case sa1 =>
        refine AddStep.go (o := ⟨some 34, _, _, _, _, _⟩) rfl rfl (fun xs y hy hV K hK => ?_)
        clear hV
        simp only [putsF, List.foldl_cons, List.foldl_nil, Act.put, List.setIfInBounds_toArray, List.set_cons_zero, List.set_cons_succ] at hK ⊢
        go_wp2_with fail
        exact hK.out _ _ (Below.refl _ _) (by exact rfl)
      case sa2 =>
        refine AddStep.go (o := ⟨some 35, _, _, _, _, _⟩) rfl rfl (fun xs y hy hV K hK => ?_)
        clear hV
        simp only [putsF, List.foldl_cons, List.foldl_nil, Act.put, List.setIfInBounds_toArray, List.set_cons_zero, List.set_cons_succ] at hK ⊢
        go_wp2_with fail
        exact hK.out _ _ (Below.refl _ _) (by exact rfl)
      case sa3 =>
        refine AddStep.go (o := ⟨some 36, _, _, _, _, _⟩) rfl rfl (fun xs y hy hV K hK => ?_)
        have e2 : xs 2 = _ := hV 2 (by kernel_rfl)
        clear hV
        simp only [putsF, List.foldl_cons, List.foldl_nil, Act.put, List.setIfInBounds_toArray, List.set_cons_zero, List.set_cons_succ] at hK ⊢
        simp only [e2] at hK ⊢
        clear e2
        go_wp2_with fail
        exact hK.out _ _ (Below.refl _ _) (by exact rfl)
      case sa4 =>
        refine AddStep.go (o := ⟨some 37, _, _, _, _, _⟩) rfl rfl (fun xs y hy hV K hK => ?_)
        have e3 : xs 3 = _ := hV 3 (by kernel_rfl)
        clear hV
        simp only [putsF, List.foldl_cons, List.foldl_nil, Act.put, List.setIfInBounds_toArray, List.set_cons_zero, List.set_cons_succ] at hK ⊢
        simp only [e3] at hK ⊢
        clear e3
        obtain ⟨_, q0, q1, q2, q3, q4, q5, q6, q7, q8, q9⟩ := Row.at_10 (rj.below hy zj)
        obtain ⟨d0, d1, d2, d3, d4, d5⟩ := (Lj.keep (hy.block g Lj.lt)).cells hk
        have c0 := (hy.cell (p := ⟨b2, o2 + p * 3, none⟩) zb2).trans c0
        have c1 := (hy.cell (p := ⟨b2, o2 + p * 3 + 1, none⟩) zb2).trans c1
        have c2 := (hy.cell (p := ⟨b2, o2 + p * 3 + 2, none⟩) zb2).trans c2
        go_wp2_with fail
        exact hK.out _ _ (Below.refl _ _) (by exact rfl)
      case sa5 =>
        refine AddStep.go (o := ⟨some 38, _, _, _, _, _⟩) rfl rfl (fun xs y hy hV K hK => ?_)
        clear hV
        simp only [putsF, List.foldl_cons, List.foldl_nil, Act.put, List.setIfInBounds_toArray, List.set_cons_zero, List.set_cons_succ] at hK ⊢
        go_wp2_with fail
        exact hK.out _ _ (Below.refl _ _) (by exact rfl)
      case sa6 =>
        refine AddStep.go (o := ⟨some 39, _, _, _, _, _⟩) rfl rfl (fun xs y hy hV K hK => ?_)
        have e5 : xs 5 = _ := hV 5 (by kernel_rfl)
        clear hV
        simp only [putsF, List.foldl_cons, List.foldl_nil, Act.put, List.setIfInBounds_toArray, List.set_cons_zero, List.set_cons_succ] at hK ⊢
        simp only [e5] at hK ⊢
        clear e5
        go_wp2_with fail
        exact hK.out _ _ (Below.refl _ _) (by exact rfl)
      case sa7 =>
        refine AddStep.go (o := ⟨some 40, _, _, _, _, _⟩) rfl rfl (fun xs y hy hV K hK => ?_)
        have e6 : xs 6 = _ := hV 6 (by kernel_rfl)
        clear hV
        simp only [putsF, List.foldl_cons, List.foldl_nil, Act.put, List.setIfInBounds_toArray, List.set_cons_zero, List.set_cons_succ] at hK ⊢
        simp only [e6] at hK ⊢
        clear e6
        obtain ⟨_, q0, q1, q2, q3, q4, q5, q6, q7, q8, q9⟩ := Row.at_10 (rj.below hy zj)
        obtain ⟨d0, d1, d2, d3, d4, d5⟩ := (Lj.keep (hy.block g Lj.lt)).cells hk
        have c0 := (hy.cell (p := ⟨b2, o2 + p * 3, none⟩) zb2).trans c0
        have c1 := (hy.cell (p := ⟨b2, o2 + p * 3 + 1, none⟩) zb2).trans c1
        have c2 := (hy.cell (p := ⟨b2, o2 + p * 3 + 2, none⟩) zb2).trans c2
        go_wp2_with fail
        exact hK.out _ _ (Below.refl _ _) (by exact rfl)
      case sa8 =>
        refine AddStep.go (o := ⟨some 41, _, _, _, _, _⟩) rfl rfl (fun xs y hy hV K hK => ?_)
        have e4 : xs 4 = _ := hV 4 (by kernel_rfl)
        have e7 : xs 7 = _ := hV 7 (by kernel_rfl)
        clear hV
        simp only [putsF, List.foldl_cons, List.foldl_nil, Act.put, List.setIfInBounds_toArray, List.set_cons_zero, List.set_cons_succ] at hK ⊢
        simp only [e4, e7] at hK ⊢
        clear e4 e7
        go_wp2_with fail
        exact hK.out _ _ (Below.refl _ _) (by exact rfl)
      case sa9 =>
        refine AddStep.go (o := ⟨some 42, _, _, _, _, _⟩) rfl rfl (fun xs y hy hV K hK => ?_)
        clear hV
        simp only [putsF, List.foldl_cons, List.foldl_nil, Act.put, List.setIfInBounds_toArray, List.set_cons_zero, List.set_cons_succ] at hK ⊢
        go_wp2_with fail
        exact hK.out _ _ (Below.refl _ _) (by exact rfl)
      case sa10 =>
        refine AddStep.go (o := ⟨some 43, _, _, _, _, _⟩) rfl rfl (fun xs y hy hV K hK => ?_)
        have e9 : xs 9 = _ := hV 9 (by kernel_rfl)
        clear hV
        simp only [putsF, List.foldl_cons, List.foldl_nil, Act.put, List.setIfInBounds_toArray, List.set_cons_zero, List.set_cons_succ] at hK ⊢
        simp only [e9] at hK ⊢
        clear e9
        obtain ⟨_, q0, q1, q2, q3, q4, q5, q6, q7, q8, q9⟩ := Row.at_10 (rj.below hy zj)
        obtain ⟨d0, d1, d2, d3, d4, d5⟩ := (Lj.keep (hy.block g Lj.lt)).cells hk
        have c0 := (hy.cell (p := ⟨b2, o2 + p * 3, none⟩) zb2).trans c0
        have c1 := (hy.cell (p := ⟨b2, o2 + p * 3 + 1, none⟩) zb2).trans c1
        have c2 := (hy.cell (p := ⟨b2, o2 + p * 3 + 2, none⟩) zb2).trans c2
        go_wp2_with fail
        exact hK.out _ _ (Below.refl _ _) (by exact rfl)
      case sa11 =>
        refine AddStep.go (o := ⟨some 44, _, _, _, _, _⟩) rfl rfl (fun xs y hy hV K hK => ?_)
        clear hV
        simp only [putsF, List.foldl_cons, List.foldl_nil, Act.put, List.setIfInBounds_toArray, List.set_cons_zero, List.set_cons_succ] at hK ⊢
        go_wp2_with fail
        exact hK.out _ _ (Below.refl _ _) (by exact rfl)
      case sa12 =>
        refine AddStep.go (o := ⟨some 45, _, _, _, _, _⟩) rfl rfl (fun xs y hy hV K hK => ?_)
        have e10 : xs 10 = _ := hV 10 (by kernel_rfl)
        have e11 : xs 11 = _ := hV 11 (by kernel_rfl)
        clear hV
        simp only [putsF, List.foldl_cons, List.foldl_nil, Act.put, List.setIfInBounds_toArray, List.set_cons_zero, List.set_cons_succ] at hK ⊢
        simp only [e10, e11] at hK ⊢
        clear e10 e11
        go_wp2_with fail
        exact hK.out _ _ (Below.refl _ _) (by exact rfl)
      case sa13 =>
        refine AddStep.go (o := ⟨some 46, _, _, _, _, _⟩) rfl rfl (fun xs y hy hV K hK => ?_)
        have e12 : xs 12 = _ := hV 12 (by kernel_rfl)
        clear hV
        simp only [putsF, List.foldl_cons, List.foldl_nil, Act.put, List.setIfInBounds_toArray, List.set_cons_zero, List.set_cons_succ] at hK ⊢
        simp only [e12] at hK ⊢
        clear e12
        obtain ⟨_, q0, q1, q2, q3, q4, q5, q6, q7, q8, q9⟩ := Row.at_10 (rj.below hy zj)
        obtain ⟨d0, d1, d2, d3, d4, d5⟩ := (Lj.keep (hy.block g Lj.lt)).cells hk
        have c0 := (hy.cell (p := ⟨b2, o2 + p * 3, none⟩) zb2).trans c0
        have c1 := (hy.cell (p := ⟨b2, o2 + p * 3 + 1, none⟩) zb2).trans c1
        have c2 := (hy.cell (p := ⟨b2, o2 + p * 3 + 2, none⟩) zb2).trans c2
        go_wp2_with fail
        exact hK.out _ _ (Below.refl _ _) (by exact rfl)
      case sa14 =>
        refine AddStep.go (o := ⟨some 47, _, _, _, _, _⟩) rfl rfl (fun xs y hy hV K hK => ?_)
        clear hV
        simp only [putsF, List.foldl_cons, List.foldl_nil, Act.put, List.setIfInBounds_toArray, List.set_cons_zero, List.set_cons_succ] at hK ⊢
        go_wp2_with fail
        exact hK.out _ _ (Below.refl _ _) (by exact rfl)
      case sa15 =>
        refine AddStep.go (o := ⟨some 48, _, _, _, _, _⟩) rfl rfl (fun xs y hy hV K hK => ?_)
        clear hV
        simp only [putsF, List.foldl_cons, List.foldl_nil, Act.put, List.setIfInBounds_toArray, List.set_cons_zero, List.set_cons_succ] at hK ⊢
        go_wp2_with fail
        exact hK.out _ _ (Below.refl _ _) (by exact rfl)
      case sa16 =>
        refine AddStep.go (o := ⟨some 49, _, _, _, _, _⟩) rfl rfl (fun xs y hy hV K hK => ?_)
        have e14 : xs 14 = _ := hV 14 (by kernel_rfl)
        have e15 : xs 15 = _ := hV 15 (by kernel_rfl)
        clear hV
        simp only [putsF, List.foldl_cons, List.foldl_nil, Act.put, List.setIfInBounds_toArray, List.set_cons_zero, List.set_cons_succ] at hK ⊢
        simp only [e14, e15] at hK ⊢
        clear e14 e15
        go_wp2_with fail
        exact hK.out _ _ (Below.refl _ _) (by exact rfl)
      case sa17 =>
        refine AddStep.go (o := ⟨some 50, _, _, _, _, _⟩) rfl rfl (fun xs y hy hV K hK => ?_)
        have e16 : xs 16 = _ := hV 16 (by kernel_rfl)
        clear hV
        simp only [putsF, List.foldl_cons, List.foldl_nil, Act.put, List.setIfInBounds_toArray, List.set_cons_zero, List.set_cons_succ] at hK ⊢
        simp only [e16] at hK ⊢
        clear e16
        obtain ⟨_, q0, q1, q2, q3, q4, q5, q6, q7, q8, q9⟩ := Row.at_10 (rj.below hy zj)
        obtain ⟨d0, d1, d2, d3, d4, d5⟩ := (Lj.keep (hy.block g Lj.lt)).cells hk
        have c0 := (hy.cell (p := ⟨b2, o2 + p * 3, none⟩) zb2).trans c0
        have c1 := (hy.cell (p := ⟨b2, o2 + p * 3 + 1, none⟩) zb2).trans c1
        have c2 := (hy.cell (p := ⟨b2, o2 + p * 3 + 2, none⟩) zb2).trans c2
        go_wp2_with fail
        exact hK.out _ _ (Below.refl _ _) (by exact rfl)
      case sa18 =>
        refine AddStep.go (o := ⟨some 51, _, _, _, _, _⟩) rfl rfl (fun xs y hy hV K hK => ?_)
        have e13 : xs 13 = _ := hV 13 (by kernel_rfl)
        have e17 : xs 17 = _ := hV 17 (by kernel_rfl)
        clear hV
        simp only [putsF, List.foldl_cons, List.foldl_nil, Act.put, List.setIfInBounds_toArray, List.set_cons_zero, List.set_cons_succ] at hK ⊢
        simp only [e13, e17] at hK ⊢
        clear e13 e17
        go_wp2_with (go_at_call 86; refine (HI.out y hy).mono ?_; rintro e z ⟨rfl, hz⟩)
        exact hK.out _ _ hz (by exact rfl)
      case sa19 =>
        refine AddStep.go (o := ⟨some 52, _, _, _, _, _⟩) rfl rfl (fun xs y hy hV K hK => ?_)
        have e8 : xs 8 = .int .i64 D := (hV 8 (by kernel_rfl))
        have e18 : xs 18 = _ := hV 18 (by kernel_rfl)
        clear hV
        simp only [putsF, List.foldl_cons, List.foldl_nil, Act.put, List.setIfInBounds_toArray, List.set_cons_zero, List.set_cons_succ] at hK ⊢
        simp only [e8, e18] at hK ⊢
        clear e8 e18
        go_wp2_with fail
        exact hK.out _ _ (Below.refl _ _) (by exact rfl)
      case sta => exact (AllSt.cons (stable_isV _) (AllSt.cons (stable_isV _) (AllSt.cons (stable_isV _) (AllSt.cons (stable_isV _) (AllSt.cons (stable_isV _) (AllSt.cons (stable_isV _) (AllSt.cons (stable_isV _) (AllSt.cons (stable_isV _) (AllSt.cons (stable_isV _) (AllSt.cons (stable_isV _) (AllSt.cons (stable_isV _) (AllSt.cons (stable_isV _) (AllSt.cons (stable_isV _) (AllSt.cons (stable_isV _) (AllSt.cons (stable_isV _) (AllSt.cons (stable_isV _) (AllSt.cons (stable_isV _) (AllSt.cons (stable_isV _) (AllSt.cons (stable_isV _) (AllSt.cons (stable_isV _) AllSt.nil))))))))))))))))))))
      case fina =>
        intro xs y hy hV
        have e0 : xs 0 = _ := hV 0 (by decide)
        have e1 : xs 1 = _ := hV 1 (by decide)
        have e2 : xs 2 = _ := hV 2 (by decide)
        have e3 : xs 3 = _ := hV 3 (by decide)
        have e4 : xs 4 = _ := hV 4 (by decide)
        have e5 : xs 5 = _ := hV 5 (by decide)
        have e6 : xs 6 = _ := hV 6 (by decide)
        have e7 : xs 7 = _ := hV 7 (by decide)
        have e8 : xs 8 = .int .i64 D := (hV 8 (by decide))
        have e9 : xs 9 = _ := hV 9 (by decide)
        have e10 : xs 10 = _ := hV 10 (by decide)
        have e11 : xs 11 = _ := hV 11 (by decide)
        have e12 : xs 12 = _ := hV 12 (by decide)
        have e13 : xs 13 = _ := hV 13 (by decide)
        have e14 : xs 14 = _ := hV 14 (by decide)
        have e15 : xs 15 = _ := hV 15 (by decide)
        have e16 : xs 16 = _ := hV 16 (by decide)
        have e17 : xs 17 = _ := hV 17 (by decide)
        have e18 : xs 18 = _ := hV 18 (by decide)
        have e19 : xs 19 = .int .i64 T := (hV 19 (by decide))
        clear hV
        simp only [putsF, List.foldl_cons, List.foldl_nil, Act.put, List.setIfInBounds_toArray, List.set_cons_zero, List.set_cons_succ]
        simp only [e0, e1, e2, e3, e4, e5, e6, e7, e8, e9, e10, e11, e12, e13, e14, e15, e16, e17, e18, e19]
        clear e0 e1 e2 e3 e4 e5 e6 e7 e8 e9 e10 e11 e12 e13 e14 e15 e16 e17 e18 e19
        have dy := dj.below hy zG2
        have hv1 := (hy.cell (p := ⟨G, j, none⟩) zG2).trans hv0
        have hf1 := (hy.frozen (p := ⟨G, j, none⟩) zG2).trans hf0
        show wpOps _ _ _ [20, 21] _ _
        refine wpOps_go (o := ⟨some 53, _, _, _, _, _⟩) rfl rfl (fun K hK => ?_)
        go_wp2_with fail
        refine hK.out _ _ ?_
        refine wpOps_go (o := ⟨none, _, _, _, _, _⟩) rfl rfl (fun K hK => ?_)
        go_wp2_with fail
        refine hK.out _ _ (wpOps_nil ?_)
        go_wp2_with fail
        go_roundw
        case rel => exact ⟨j + 1, by omega, by go_num, (hbel.trans (hy.mono hbel.size)).setCell (p := ⟨G, j, none⟩) (Nat.le_of_lt zG) _, (Hrj.out.below hy zj).far (p := ⟨G, j, none⟩) (Nat.ne_of_lt zG) _, dy.set (by omega) Hrt.out⟩
        case measure => simp [intOf]; omega
    · obtain rfl : j = r.seats.length := by omega
      clear hlt
      have zG2 := dj.lt
      rw [← hlen] at dj
      obtain ⟨M2, hM2, hmk2⟩ := run_mkBools r.seats.length (by omega) wr
      go_upto_region 9 with (fail)
      clear hmk2
      obtain ⟨X2, hX2⟩ : ∃ X2, X2 = wr.alloc (.cells M2 4) := ⟨_, rfl⟩
      rw [← hX2]
      have b4 : Below w.heap.size w X2 := by subst hX2; exact hbel.alloc hbel.size _
      have d4 : RdIn X2 G rd rd.length := by subst hX2; exact dj.below ((Below.refl _ _).alloc (Nat.le_refl _) _) zG2
      have l4 : Row X2 wr.heap.size 4 (ldCells r.seats.length []) := by subst hX2; have h := Row.new wr 4 M2; rw [hM2] at h; exact h
      obtain ⟨G2, hG2⟩ : ∃ G2, G2 = wr.heap.size := ⟨_, rfl⟩
      rw [← hG2] at l4 ⊢
      have zGG : w.heap.size < G2 := by omega
      have zne : G ≠ G2 := by omega
      clear hX2 hM2 hG2 rj dj zG2
      have hcall := fewest_any rd G 0 r.seats.length s X2 d4.lt (by simpa using d4.cells 0) (by omega) HM.out (by omega)
      rw [hlen] at hcall
      go_wp2_with fail
      refine hcall.mono ?_
      clear hcall
      rintro e w3 ⟨⟨n0, hfew, rfl⟩, hb3⟩
      have b5 := b4.trans (hb3.mono b4.size)
      have d5 := d4.below hb3 d4.lt
      have l5 := l4.below hb3 l4.lt
      have hbz := (few_is hfew hex).1
      have Hfew := Lib.hid hfew
      clear d4 l4 b4 hb3 hfew hex hbel
      go_wp2_with fail
      go_loopw [7, 12, 63] (fun sm lf i wr => ∃ (j L : Nat) (S : Int) (ld : List Bool), j ≤ r.seats.length ∧ i = .int .i64 j ∧ lf = .int .i64 L ∧ sm = .int .i64 S ∧ ld.length = j ∧ Hid (belowZ S (minSel (rd.drop j) L) = true) ∧ Hid (progSel rd s n0 = ld ++ progSel (rd.drop j) S L) ∧ (-((r.seats.length : Int) + 1 + (j : Int)) * 800000000000000 ≤ S ∧ S ≤ ((r.seats.length : Int) + 1 + (j : Int)) * 800000000000000) ∧ Below w.heap.size w wr ∧ RdIn wr G rd rd.length ∧ Row wr G2 4 (ldCells r.seats.length ld)) (fun _ _ i _ => r.seats.length - (intOf i).toNat)
      case atStart => exact ⟨0, n0, s, [], Nat.zero_le _, rfl, rfl, rfl, rfl, Lib.hid (by simpa using hbz), Lib.hid (by simp), by omega, b5, d5, l5⟩
      case round =>
        obtain ⟨j, L, S, ld, hj, rfl, rfl, rfl, hld, Hbz, Hps, hSb, hbel, dj, lj⟩ := hrel
        clear d5 l5 b5 hbz
        have zGj := dj.lt
        by_cases hlt : j < r.seats.length
        · have hjd : j < rd.length := by omega
          have hcx := dj.cell hjd
          obtain ⟨x, hx⟩ : ∃ x, x = rd.getD j 0 := ⟨_, rfl⟩
          rw [← hx] at hcx
          have hxg : rd[j] = x := by rw [hx]; simp [hjd]
          have hdr : rd.drop j = x :: rd.drop (j + 1) := by rw [List.drop_eq_getElem_cons hjd, hxg]
          have hxb := HM.out x (by rw [← hxg]; exact List.getElem_mem _)
          have Hdr := Lib.hid hdr
          have hjl : (j : Int) < (r.seats.length : Int) := by omega
          have hj0 : (0 : Int) ≤ (j : Int) := by omega
          have e3 : IntKind.i64.wrap ((j : Int) + 1) = (j : Int) + 1 := IntWalk.i64_in _ (by omega)
          have hzt := dj.lt
          have HB := Hbz.out
          rw [hdr] at HB
          have hLn := below_some HB
          have hdl : (rd.drop (j + 1)).length = r.seats.length - (j + 1) := by simp; omega
          simp only [List.length_cons, hdl] at hLn
          have HB := Lib.hid HB
          have HL := fun (L1 : Nat) (X : World) (hX : Below wr.heap.size wr X) (hL1 : L1 ≤ r.seats.length - (j + 1)) => leastSum_any (rd.drop (j + 1)) G (j + 1) (r.seats.length - (j + 1)) L1 X ((dj.below hX zGj).cells (j + 1)) (by omega) (by omega) (fun z hz => HM.out z (List.mem_of_mem_drop hz))
          rw [hdl] at HL
          have HL := Lib.hid HL
          clear hx hxg hdr hdl
          by_cases hL : L = 0
          · subst hL
            go_wp2_with fail
            go_roundw
            case rel =>
              refine ⟨j + 1, 0, S, ld ++ [false], by omega, by go_num, rfl, rfl, by simp [hld], Lib.hid (sel_step HB.out (fun h => absurd h.1 (Nat.lt_irrefl _))), Lib.hid ?_, by omega, hbel, dj, by rw [ldCells_no (by omega)]; exact lj⟩
              rw [Hps.out, Hdr.out, progSel, if_neg (fun h => absurd h.1 (Nat.lt_irrefl _))]
              simp
            case measure => simp [intOf]; omega
          · obtain ⟨L1, rfl⟩ : ∃ L1, L = L1 + 1 := ⟨L - 1, by omega⟩
            have hL0 : (0 : Int) < ((L1 + 1 : Nat) : Int) := by omega
            have e4 : IntKind.i64.wrap (((L1 + 1 : Nat) : Int) - 1) = (L1 : Int) := by rw [IntWalk.i64_in _ (by omega)]; omega
            have e5 : IntKind.i64.wrap (S + x) = S + x := IntWalk.i64_in _ (by omega)
            obtain ⟨Li, hLi⟩ : ∃ Li : Int, Li = ((L1 + 1 : Nat) : Int) := ⟨_, rfl⟩
            rw [← hLi] at hL0 e4 ⊢
            have HLi := Lib.hid hLi
            clear hLi
            have hVb := lsum_bd (zs := rd.drop (j + 1)) (fun z hz => HM.out z (List.mem_of_mem_drop hz)) (by simp; omega) (n := L1) (by simp; omega)
            have HL1 := HL.out L1 wr (Below.refl _ _) (by omega)
            obtain ⟨V, hV⟩ : ∃ V, V = lsum (rd.drop (j + 1)) L1 := ⟨_, rfl⟩
            rw [← hV] at hVb HL1
            have HV := Lib.hid hV
            have e6 : IntKind.i64.wrap (S + x + V) = S + x + V := IntWalk.i64_in _ (by omega)
            clear hV hVb
            go_upto_region 13 with (fail)
            have hx1 : ((j : Int) + 1).toNat = j + 1 := by omega
            have hx2 : (0 : Int) ≤ (j : Int) + 1 := by omega
            have hx3 : (j : Int) + 1 ≤ (r.seats.length : Int) := by omega
            have hx4 : ¬ (r.seats.length : Int) < (j : Int) + 1 := by omega
            have Hadr : ∃ ad, (∀ X : World, Below wr.heap.size wr X → Calls Try.prog 91 #[.slice (some ⟨G, ad, none⟩) (r.seats.length - (j + 1)) (r.seats.length - (j + 1)), .int .i64 (L1 : Int)] X fun e w' => e = .returned (.int .i64 V) ∧ Below X.heap.size X w') ∧ (if r.seats.length = j + 1 then (0 : Nat) else j + 1) = ad := by
              by_cases hend : r.seats.length = j + 1
              · refine ⟨0, fun X hX => ?_, if_pos hend⟩
                have h := leastSum_any (rd.drop (j + 1)) G 0 (r.seats.length - (j + 1)) L1 X (fun i hi => by simp at hi; omega) (by simp; omega) (by simp; omega) (fun z hz => HM.out z (List.mem_of_mem_drop hz))
                rw [show (rd.drop (j + 1)).length = r.seats.length - (j + 1) by simp; omega, ← HV.out] at h
                exact h
              · refine ⟨j + 1, fun X hX => ?_, if_neg hend⟩
                have h := HL.out L1 X hX (by omega)
                rw [← HV.out] at h
                exact h
            obtain ⟨ad, had, hadr⟩ := Hadr
            have HC := Lib.hid had
            clear had HL1
            have hstep : (0 < L1 + 1 ∧ belowZ (S + x) (minSel (rd.drop (j + 1)) (L1 + 1 - 1)) = true) ↔ S + x + V < 0 := by
              rw [Nat.add_sub_cancel, below_lsum (S + x) _ (show L1 ≤ (rd.drop (j + 1)).length by simp; omega), ← HV.out]
              simp
            have Hstep := Lib.hid hstep
            clear hstep
            by_cases hend : r.seats.length = j + 1
            · rw [if_pos hend] at hadr
              subst hadr
              have hendT := eq_true hend
              clear hend
              go_wp2_with fail
              refine (HC.out wr (Below.refl _ _)).mono ?_
              rintro e w4 ⟨rfl, hb4⟩
              have b6 := hbel.trans (hb4.mono hbel.size)
              have d6 := dj.below hb4 zGj
              have l6 := lj.below hb4 lj.lt
              by_cases htest : S + x + V < 0
              · have Hrest := Lib.hid (Hstep.out.2 htest)
                obtain ⟨⟨v0, hv0⟩, hf0⟩ : (∃ v, w4.cell? ⟨G2, j, none⟩ = some v) ∧ w4.frozen? ⟨G2, j, none⟩ = false :=
                  ⟨⟨(ldCells r.seats.length ld)[j]'(by rw [ldCells_len (by omega)]; exact hlt), by rw [l6.cell (by rw [ldCells_len (by omega)]; exact hlt)]; exact List.getElem?_eq_getElem _⟩, l6.frozen j⟩
                go_wp2_with fail
                go_roundw
                case rel =>
                  refine ⟨j + 1, L1, S + x, ld ++ [true], by omega, by go_num, rfl, rfl, by simp [hld], Lib.hid Hrest.out.2, Lib.hid ?_, by omega, b6.setCell (p := ⟨G2, j, none⟩) (Nat.le_of_lt zGG) _, ?_, ?_⟩
                  · rw [Hps.out, Hdr.out, progSel, if_pos Hrest.out]
                    simp
                  · obtain ⟨xs, x1, x2, x3⟩ := d6
                    exact ⟨xs, x1.far (p := ⟨G2, j, none⟩) zne _, x2, x3⟩
                  · have h := l6.set j (.bool true)
                    rw [← hld, ldCells_yes (by omega)] at h
                    rw [← hld]
                    exact h
                case measure => simp [intOf]; omega
              · have Hrest := Lib.hid (fun h => htest (Hstep.out.1 h))
                go_wp2_with fail
                go_roundw
                case rel =>
                  refine ⟨j + 1, L1 + 1, S, ld ++ [false], by omega, by go_num, ?_, rfl, by simp [hld], Lib.hid (sel_step HB.out Hrest.out), Lib.hid ?_, by omega, b6, d6, by rw [ldCells_no (by omega)]; exact l6⟩
                  · rw [HLi.out]
                  · rw [Hps.out, Hdr.out, progSel, if_neg Hrest.out]
                    simp
                case measure => simp [intOf]; omega
            · rw [if_neg hend] at hadr
              subst hadr
              go_wp2_with fail
              refine (HC.out wr (Below.refl _ _)).mono ?_
              rintro e w4 ⟨rfl, hb4⟩
              have b6 := hbel.trans (hb4.mono hbel.size)
              have d6 := dj.below hb4 zGj
              have l6 := lj.below hb4 lj.lt
              by_cases htest : S + x + V < 0
              · have Hrest := Lib.hid (Hstep.out.2 htest)
                obtain ⟨⟨v0, hv0⟩, hf0⟩ : (∃ v, w4.cell? ⟨G2, j, none⟩ = some v) ∧ w4.frozen? ⟨G2, j, none⟩ = false :=
                  ⟨⟨(ldCells r.seats.length ld)[j]'(by rw [ldCells_len (by omega)]; exact hlt), by rw [l6.cell (by rw [ldCells_len (by omega)]; exact hlt)]; exact List.getElem?_eq_getElem _⟩, l6.frozen j⟩
                go_wp2_with fail
                go_roundw
                case rel =>
                  refine ⟨j + 1, L1, S + x, ld ++ [true], by omega, by go_num, rfl, rfl, by simp [hld], Lib.hid Hrest.out.2, Lib.hid ?_, by omega, b6.setCell (p := ⟨G2, j, none⟩) (Nat.le_of_lt zGG) _, ?_, ?_⟩
                  · rw [Hps.out, Hdr.out, progSel, if_pos Hrest.out]
                    simp
                  · obtain ⟨xs, x1, x2, x3⟩ := d6
                    exact ⟨xs, x1.far (p := ⟨G2, j, none⟩) zne _, x2, x3⟩
                  · have h := l6.set j (.bool true)
                    rw [← hld, ldCells_yes (by omega)] at h
                    rw [← hld]
                    exact h
                case measure => simp [intOf]; omega
              · have Hrest := Lib.hid (fun h => htest (Hstep.out.1 h))
                go_wp2_with fail
                go_roundw
                case rel =>
                  refine ⟨j + 1, L1 + 1, S, ld ++ [false], by omega, by go_num, ?_, rfl, by simp [hld], Lib.hid (sel_step HB.out Hrest.out), Lib.hid ?_, by omega, b6, d6, by rw [ldCells_no (by omega)]; exact l6⟩
                  · rw [HLi.out]
                  · rw [Hps.out, Hdr.out, progSel, if_neg Hrest.out]
                    simp
                case measure => simp [intOf]; omega
        · obtain rfl : j = r.seats.length := by omega
          go_wp2_with fail
          go_ret
          refine ⟨hbel, n0, _, Hfew.out, rfl, Nat.le_of_lt zGG, ?_⟩
          have hd : rd.drop r.seats.length = [] := by rw [← hlen]; simp
          rw [Hps.out, hd, show progSel [] S L = [] from rfl, List.append_nil]
          have hc : ldCells r.seats.length ld = ld.map Value.bool := by simp [ldCells, hld]
          rw [hc] at lj
          exact lj
end Go.Proofs.Ytkmiapfkebdpbaa
