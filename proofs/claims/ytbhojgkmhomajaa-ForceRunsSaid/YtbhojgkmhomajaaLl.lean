/- The walk of ForceEnvelope. Conditions: the arguments read as data. -/
import Derived.Test.YtbhojgkmhomajaaLk
import Derived.Test.YtbhojgkmhomajaaLc
import Derived.Test.YtbhojgkmhomajaaLi
import Derived.Deep.DeepMust
namespace Go.Proofs.Ytbhojgkmhomajaa
open Go.RowKit

/-- The kept part of an answer of Keeps, where its error is none. -/
theorem keepS_kept {t : List Pt} {m : Mot} {x : Lim} {fails : Bool} (h : (keepS t m x fails).2.2 = 0) : limE t m x = 0 ∧ (keepS t m x fails).2.1 = (keepsZ t m.top.toNat (stepOf m fails).toNat x).2 := by
  unfold keepS at h ⊢
  by_cases h0 : limE t m x = 0
  · rw [if_neg (by simp [h0])]
    exact ⟨h0, rfl⟩
  · rw [if_pos h0] at h
    exact absurd h h0
theorem keepS_err (t : List Pt) (m : Mot) (x : Lim) (fails : Bool) : (keepS t m x fails).2.2 = limE t m x := by
  unfold keepS
  by_cases h0 : limE t m x = 0
  · rw [if_neg (by simp [h0]), h0]
  · rw [if_pos h0]
theorem run_fine {t : List Pt} {m : Mot} {x : Lim} {l : List Int} (h0 : limE t m x = 0) (h : (keepsZ t m.top.toNat m.ease.toNat x).2 = true) : (runS t m x l).2.2 ≠ 32 := by
  obtain ⟨hp, hm, hx⟩ := limE_zero.1 h0
  have hm' := (motB_iff m).1 hm
  have hp' := (pathB_iff t).1 hp
  unfold runS
  rw [if_neg (by simp [h0])]
  split
  · simp
  split
  · simp
  · rename_i h3 h4
    have hno := bad_none (show badI m.top m.ease l = -1 by omega)
    have hk := run_kept (t := t) (top := m.top.toNat) (ease := m.ease.toNat) (x := x) (by omega) h l 0 0 (Int.le_refl _) (by omega) (by rw [Int.toNat_of_nonneg (by omega), Int.toNat_of_nonneg (by omega)]; exact hno)
    have hb : beyondI x (runI t l 0 0) = -1 := beyond_none (List.all_eq_true.2 hk)
    rw [if_neg (by rw [hb]; simp)]
    simp
def rough (m : Mot) : Mot := ⟨m.top, m.jerk, m.jerk⟩
theorem limE_rough {t : List Pt} {m : Mot} {x : Lim} (h0 : limE t m x = 0) : limE t (rough m) x = 0 := by
  obtain ⟨hp, hm, hx⟩ := limE_zero.1 h0
  have hm' := (motB_iff m).1 hm
  exact limE_zero.2 ⟨hp, (motB_iff _).2 ⟨hm'.1, hm'.2.2.1, hm'.2.2.1, Int.le_refl _⟩, hx⟩
theorem keeps_safe {t : List Pt} {m : Mot} {x : Lim} (h0 : limE t m x = 0) (h : (keepsZ t m.top.toNat m.jerk.toNat x).2 = true) : (keepsZ t m.top.toNat m.ease.toNat x).2 = true := by
  obtain ⟨hp, hm, hx⟩ := limE_zero.1 h0
  have hm' := (motB_iff m).1 hm
  exact keeps_less h (Nat.le_refl _) (by omega)
theorem nums_one (l : List Int) : ∀ u ∈ nums l, u.oneCell' = true := by
  intro u hu
  simp only [nums, List.mem_map] at hu
  obtain ⟨z, _, rfl⟩ := hu
  rfl
theorem Row.at_7 {w : World} {g : Nat} {t : TypeId} {v0 v1 v2 v3 v4 v5 v6 : Value} (h : Row w g t [v0, v1, v2, v3, v4, v5, v6]) : (∀ o, w.frozen? ⟨g, o, none⟩ = false) ∧ w.cell? ⟨g, 0, none⟩ = some v0 ∧ w.cell? ⟨g, 1, none⟩ = some v1 ∧ w.cell? ⟨g, 2, none⟩ = some v2 ∧ w.cell? ⟨g, 3, none⟩ = some v3 ∧ w.cell? ⟨g, 4, none⟩ = some v4 ∧ w.cell? ⟨g, 5, none⟩ = some v5 ∧ w.cell? ⟨g, 6, none⟩ = some v6 :=
  ⟨fun o => h.frozen o, h.cell (j := 0) (by simp), h.cell (j := 1) (by simp), h.cell (j := 2) (by simp), h.cell (j := 3) (by simp), h.cell (j := 4) (by simp), h.cell (j := 5) (by simp), h.cell (j := 6) (by simp)⟩

theorem fresh_own (Y : World) (t : TypeId) (size : Nat) : (Y.alloc (.cells #[] t)).drew.ownsRow Y.heap.size t size (.slice (some ⟨Y.heap.size, 0, none⟩) 0 0) 0 [] :=
  owns_drew (World.ownsRow_made (w := Y) #[] 0 (Nat.le_refl _) (Nat.zero_le _) (by simp))
theorem fresh_below (Y : World) (o : Obj) : Below Y.heap.size Y (Y.alloc o).drew := Below.drew (Below.alloc (Below.refl _ _) (Nat.le_refl _) _)

set_option maxRecDepth 100000 in
set_option maxHeartbeats 8000000 in
theorem envelope_walk (t : List Pt) (m : Mot) (x : Lim) (fails : Bool) (l : List Int) (A A2 : Option Addr) (c c2 B : Nat) (w : World) (hB : B ≤ w.heap.size) (hr : Reads w B 3 A t.length (ptCells t)) (hn : t.length ≤ maxLen) (hl : Reads w B 1 A2 l.length (nums l)) (_hnl : l.length ≤ maxLen) :
    Calls Try.prog 12 #[.slice A t.length c, rideV m x fails, .slice A2 l.length c2] w (TruePost w) := by
  obtain ⟨i0, hi, hz0, hz1, hz2⟩ := info_parts Try.info_int
  obtain ⟨W, hW⟩ : ∃ W, W = w.alloc (.cells #[.int .i64 m.top, .int .i64 m.ease, .int .i64 m.jerk, .int .i64 x.side, .int .i64 x.low, .int .i64 x.high, .bool fails] 39) := ⟨_, rfl⟩
  have bW : Below w.heap.size w W := by subst hW; exact (Below.refl _ _).alloc (Nat.le_refl _) _
  have rC : Row W w.heap.size 39 [.int .i64 m.top, .int .i64 m.ease, .int .i64 m.jerk, .int .i64 x.side, .int .i64 x.low, .int .i64 x.high, .bool fails] := by subst hW; exact Row.new w _ _
  have hrW := hr.below (bW.mono hB)
  obtain ⟨_, q0, q1, q2, q3, q4, q5, q6⟩ := Row.at_7 rC
  have z0 := rC.lt
  unfold rideV
  go_enter Try.func12, Try.ntmps12
  by_cases hbig : 70 < t.length ∨ 100 < l.length
  · have fin : ∀ X : World, Below w.heap.size w X → Calls Try.prog 15 #[] X fun e w' => e = .returned (.bool true) ∧ Below w.heap.size w w' := fun X hX => (works_any X).mono fun _ _ h => ⟨h.1, hX.trans (h.2.mono hX.size)⟩
    have Hfin := Lib.hid fin
    clear fin
    by_cases h70 : 70 < t.length
    · have h70' : (70 : Int) < (t.length : Int) := by omega
      go_wp2_with fail
      rw [← hW]
      refine (Hfin.out _ bW).mono ?_
      rintro e w4 ⟨rfl, hb4⟩
      go_wp2_with fail
      go_ret
      exact ⟨rfl, hb4⟩
    · have h70' : ¬ (70 : Int) < (t.length : Int) := by omega
      have h100' : (100 : Int) < (l.length : Int) := by omega
      go_wp2_with fail
      rw [← hW]
      refine (Hfin.out _ bW).mono ?_
      rintro e w4 ⟨rfl, hb4⟩
      go_wp2_with fail
      go_ret
      exact ⟨rfl, hb4⟩
  have h70' : ¬ (70 : Int) < (t.length : Int) := by omega
  have h100' : ¬ (100 : Int) < (l.length : Int) := by omega
  have hl100 : l.length ≤ 400 := by omega
  have hown := own_any t A c B W (Nat.le_trans hB bW.size) hrW (by omega)
  clear hbig
  go_wp2_with fail
  rw [← hW]
  clear hW
  refine hown.mono ?_
  rintro e w1 ⟨hb1, A1, c1, rfl, hr1⟩
  have b1 := bW.trans (hb1.mono bW.size)
  have r1 := rC.below hb1 rC.lt
  obtain ⟨_, q0, q1, q2, q3, q4, q5, q6⟩ := Row.at_7 r1
  have z1 := r1.lt
  have hk1 := Keeps_any t m x false A1 c1 w1.heap.size w1 (Nat.le_refl _) hr1 hn
  have HE1 := Lib.hid (keepS_err t m x false)
  have HK1 := Lib.hid (fun h => (keepS_kept (t := t) (m := m) (x := x) (fails := false) h).2)
  unfold motV limV at hk1
  go_wp2_with fail
  refine hk1.mono ?_
  rintro e w2 ⟨hb2, rfl⟩
  obtain ⟨⟨C1, kept, E1⟩, hC⟩ : ∃ R, R = keepS t m x false := ⟨_, rfl⟩
  rw [← hC] at HE1 HK1 ⊢
  dsimp only at HE1 HK1 ⊢
  clear hC
  unfold encC chgV
  have b2 := b1.trans (hb2.mono b1.size)
  have r2 := r1.below hb2 r1.lt
  obtain ⟨_, q0, q1, q2, q3, q4, q5, q6⟩ := Row.at_7 r2
  have z2 := r2.lt
  obtain ⟨X, hX⟩ : ∃ X, X = w2.alloc (.cells #[.int .i64 (C1.ph : Int), .int .i64 (C1.bf : Int), .int .i64 (C1.af : Int)] 24) := ⟨_, rfl⟩
  have bX2 : Below w2.heap.size w2 X := by subst hX; exact (Below.refl _ _).alloc (Nat.le_refl _) _
  have hk2 := Keeps_any t m x true A1 c1 w1.heap.size X (Nat.le_trans hb2.size bX2.size) ((hr1.below hb2).below (bX2.mono hb2.size)) hn
  have HE2 := Lib.hid (keepS_err t m x true)
  have HK2 := Lib.hid (fun h => (keepS_kept (t := t) (m := m) (x := x) (fails := true) h).2)
  unfold motV limV at hk2
  go_wp2_with fail
  rw [← hX]
  have bX := b2.trans (bX2.mono b2.size)
  have rX := r2.below bX2 r2.lt
  have hrX := (hr1.below hb2).below (bX2.mono hb2.size)
  clear hX
  refine hk2.mono ?_
  rintro e w3 ⟨hb3, rfl⟩
  obtain ⟨⟨C2, safe, E2⟩, hC⟩ : ∃ R, R = keepS t m x true := ⟨_, rfl⟩
  rw [← hC] at HE2 HK2 ⊢
  dsimp only at HE2 HK2 ⊢
  clear hC
  unfold encC chgV
  have b3 := bX.trans (hb3.mono bX.size)
  have r3 := rX.below hb3 rX.lt
  have hr3 := hrX.below (hb3.mono (Nat.le_trans hb2.size bX2.size))
  obtain ⟨_, q0, q1, q2, q3, q4, q5, q6⟩ := Row.at_7 r3
  have z3 := r3.lt
  obtain rfl : E2 = E1 := HE2.out.trans HE1.out.symm
  obtain ⟨Y, hY⟩ : ∃ Y, Y = w3.alloc (.cells #[.int .i64 (C2.ph : Int), .int .i64 (C2.bf : Int), .int .i64 (C2.af : Int)] 24) := ⟨_, rfl⟩
  have bY3 : Below w3.heap.size w3 Y := by subst hY; exact (Below.refl _ _).alloc (Nat.le_refl _) _
  have bY := b3.trans (bY3.mono b3.size)
  have rY := r3.below bY3 r3.lt
  have hrY := hr3.below (bY3.mono (by have := hb3.size; have := bX2.size; have := hb2.size; omega))
  by_cases he : E2 = 0
  case neg =>
    have he' : (E2 != 0) = true := by simpa using he
    go_wp2_with fail
    rw [← hY]
    clear hY
    refine (works_any _).mono ?_
    rintro e w4 ⟨rfl, hb4⟩
    go_wp2_with fail
    go_ret
    exact ⟨rfl, bY.trans (hb4.mono bY.size)⟩
  case pos =>
    subst he
    have h0 : limE t m x = 0 := HE1.out.symm
    have hk1 := HK1.out rfl
    have hk2 := HK2.out rfl
    have hsafe : safe = true → kept = true := fun h => hk1.trans (keeps_safe h0 (hk2.symm.trans h))
    have Hf1 : Hid (kept = true → (runS t m x l).2.2 ≠ 32) := fun h => run_fine h0 (hk1.symm.trans h)
    have Hf2 : Hid (safe = true → (runS t (rough m) x l).2.2 ≠ 32) := fun h => run_fine (limE_rough h0) (hk2.symm.trans h)
    clear hk1 hk2
    have h3c : (safe = false ∧ kept = false) ∨ (safe = false ∧ kept = true) ∨ (safe = true ∧ kept = true) := by
      cases safe with
      | false => cases kept with
        | false => exact .inl ⟨rfl, rfl⟩
        | true => exact .inr (.inl ⟨rfl, rfl⟩)
      | true => exact .inr (.inr ⟨rfl, hsafe rfl⟩)
    clear hsafe
    obtain ⟨G1, hG1⟩ : ∃ G1, G1 = (runS t m x l).2.2 := ⟨_, rfl⟩
    obtain ⟨G2, hG2⟩ : ∃ G2, G2 = (runS t (rough m) x l).2.2 := ⟨_, rfl⟩
    have hg1 : kept = true → (G1 == 32) = false := fun h => by have := Hf1.out h; rw [← hG1] at this; simpa using this
    have hg2 : safe = true → (G2 != 32) = true := fun h => by have := Hf2.out h; rw [← hG2] at this; simpa using this
    have HG1 := Lib.hid hG1
    have HG2 := Lib.hid hG2
    clear hG1 hG2
    have mm1 : 0 + l.length ≤ maxLen := by unfold maxLen; omega
    have mm2 : (0 + l.length) * 8 ≤ 140737488355328 := by omega
    have HL1 : Hid (∀ X, Below Y.heap.size Y X → Reads X B 1 A2 l.length (nums l)) := fun X hX => (hl.below (bY.mono hB)).below (hX.mono (by have := bY.size; omega))
    have HRun1 : Hid (∀ X A' c', Below Y.heap.size Y X → Reads X X.heap.size 1 A' l.length (nums l) → Calls Try.prog 26 #[.slice A1 t.length c1, .agg #[.int .i64 m.top, .int .i64 m.ease, .int .i64 m.jerk], .agg #[.int .i64 x.side, .int .i64 x.low, .int .i64 x.high],   .slice A' l.length c'] X fun e w' => (∃ A n c a, e = .returned (.tuple #[.slice A n c, .int .i64 a, .int .i64 G1])) ∧ Below Y.heap.size Y w') := fun X A' c' hX hrd => by
      refine (Run_any t m x l A1 A' c1 c' X.heap.size X (Nat.le_refl _) ((hrY.below (hX.mono (by have := bY3.size; have := hb3.size; have := bX2.size; have := hb2.size; omega))).more (by have := hX.size; have := bY3.size; have := hb3.size; have := bX2.size; have := hb2.size; omega)) hn hrd hl100).mono ?_
      rintro e w' ⟨hb, A4, c4, rfl, _⟩
      exact ⟨⟨A4, _, c4, _, by rw [← HG1.out]⟩, below_step hX hb⟩
    have HRun2 : Hid (∀ X A' c', Below Y.heap.size Y X → Reads X X.heap.size 1 A' l.length (nums l) → Calls Try.prog 26 #[.slice A1 t.length c1, .agg #[.int .i64 m.top, .int .i64 m.jerk, .int .i64 m.jerk], .agg #[.int .i64 x.side, .int .i64 x.low, .int .i64 x.high],   .slice A' l.length c'] X fun e w' => (∃ A n c a, e = .returned (.tuple #[.slice A n c, .int .i64 a, .int .i64 G2])) ∧ Below X.heap.size X w') := fun X A' c' hX hrd => by
      refine (Run_any t (rough m) x l A1 A' c1 c' X.heap.size X (Nat.le_refl _) ((hrY.below (hX.mono (by have := bY3.size; have := hb3.size; have := bX2.size; have := hb2.size; omega))).more (by have := hX.size; have := bY3.size; have := hb3.size; have := bX2.size; have := hb2.size; omega)) hn hrd hl100).mono ?_
      rintro e w' ⟨hb, A4, c4, rfl, _⟩
      exact ⟨⟨A4, _, c4, _, by rw [← HG2.out]⟩, hb⟩
    have zY := rY.lt
    rcases h3c with ⟨rfl, rfl⟩ | ⟨rfl, rfl⟩ | ⟨rfl, rfl⟩
    all_goals
      first | (have hg1' := hg1 rfl) | skip
      first | (have hg2' := hg2 rfl) | skip
      clear hg1 hg2
      go_upto_region 10 with (fail)
      rw [← hY]
      clear hY q0 q1 q2 q3 q4 q5 q6
      obtain ⟨_, q0, q1, q2, q3, q4, q5, q6⟩ := Row.at_7 rY
      go_region_held3 (fun y => y.cell? ⟨w.heap.size, 0, none⟩ = some (.int .i64 m.top) ∧ y.cell? ⟨w.heap.size, 1, none⟩ = some (.int .i64 m.ease) ∧ y.cell? ⟨w.heap.size, 2, none⟩ = some (.int .i64 m.jerk) ∧ y.cell? ⟨w.heap.size, 3, none⟩ = some (.int .i64 x.side) ∧ y.cell? ⟨w.heap.size, 4, none⟩ = some (.int .i64 x.low) ∧ y.cell? ⟨w.heap.size, 5, none⟩ = some (.int .i64 x.high)) (go_keep) (first
        | (go_at_call 26; go_must (refine (HRun1.out _ _ _ ?_ ?_).mono ?_; (first | (with_reducible exact bx1) | (with_reducible exact Below.drew bx1) | (with_reducible exact below_drewN bx1 _)); (first | (with_reducible exact hrd1) | (exact hrd1.drewN _))); rintro e x4 ⟨⟨A4, n4, c4, a4, rfl⟩, by1⟩; have rZ := rY.below by1 zY; obtain ⟨_, q0, q1, q2, q3, q4, q5, q6⟩ := Row.at_7 rZ)
        | ((fail_if_success (go_simp; go_at_call 26)); (refine step_app _ (by rfl) _ _ _ (by rfl) Y.heap.size _ i0 _ 1 8 Try.underlying47 hi hz0 hz1 hz2 rfl (by decide) (.slice (some ⟨Y.heap.size, 0, none⟩) 0 0) 0 [] (by rfl) (fresh_own Y _ 1) B A2 l.length c2 (nums l) (by rfl) (HL1.out _ (fresh_below Y _)) (nums_one l) mm1 mm2 (fresh_below Y _).size ?_; intro v1 X1 own1 hb1; rw [Nat.zero_add, List.nil_append] at own1; obtain ⟨AN1, cN1, rfl, hrd1⟩ := own_reads own1; have bx1 : Below Y.heap.size Y X1 := Below.trans (fresh_below Y _) hb1; have rZ := rY.below bx1 zY; obtain ⟨_, q0, q1, q2, q3, q4, q5, q6⟩ := Row.at_7 rZ)))
      obtain ⟨Z, hZ⟩ : ∃ Z, Z = x4.alloc (.cells #[.int .i64 m.top, .int .i64 m.jerk, .int .i64 m.jerk] 35) := ⟨_, rfl⟩
      have bZ : Below Y.heap.size Y Z := by subst hZ; exact by1.alloc by1.size _
      have rX4 := rY.below by1 zY
      have rZ : Row Z w.heap.size 39 [.int .i64 m.top, .int .i64 m.ease, .int .i64 m.jerk, .int .i64 x.side, .int .i64 x.low, .int .i64 x.high, .bool fails] := by subst hZ; exact rX4.alloc _
      have mZ : Row Z x4.heap.size 35 [.int .i64 m.top, .int .i64 m.jerk, .int .i64 m.jerk] := by subst hZ; exact Row.new x4 _ _
      have zZ1 := rZ.lt
      have zZ2 := mZ.lt
      have HL3 : Hid (∀ X, Below Z.heap.size Z X → Reads X B 1 A2 l.length (nums l)) := fun X hX => HL1.out X (below_step bZ hX)
      have HRun3 : Hid (∀ X A' c', Below Z.heap.size Z X → Reads X X.heap.size 1 A' l.length (nums l) → Calls Try.prog 26 #[.slice A1 t.length c1, .agg #[.int .i64 m.top, .int .i64 m.jerk, .int .i64 m.jerk], .agg #[.int .i64 x.side, .int .i64 x.low, .int .i64 x.high], .slice A' l.length c'] X fun e w' => (∃ A n c a, e = .returned (.tuple #[.slice A n c, .int .i64 a, .int .i64 G2])) ∧ Below Z.heap.size Z w') := fun X A' c' hX hrd =>
        (HRun2.out X A' c' (below_step bZ hX) hrd).mono fun _ _ h => ⟨h.1, below_step hX h.2⟩
      have z4 : w.heap.size < x4.heap.size := rX4.lt
      go_upto_region 14 with (fail)
      rw [← hZ]
      clear hZ q0 q1 q2 q3 q4 q5 q6
      obtain ⟨_, q0, q1, q2, q3, q4, q5, q6⟩ := Row.at_7 rZ
      obtain ⟨_, y0, y1, y2⟩ := Row.at_3 mZ
      go_region_held3 (fun y => y.cell? ⟨x4.heap.size, 0, none⟩ = some (.int .i64 m.top) ∧ y.cell? ⟨x4.heap.size, 1, none⟩ = some (.int .i64 m.jerk) ∧ y.cell? ⟨x4.heap.size, 2, none⟩ = some (.int .i64 m.jerk) ∧ y.cell? ⟨w.heap.size, 3, none⟩ = some (.int .i64 x.side) ∧ y.cell? ⟨w.heap.size, 4, none⟩ = some (.int .i64 x.low) ∧ y.cell? ⟨w.heap.size, 5, none⟩ = some (.int .i64 x.high)) (go_keep) (first
        | (go_at_call 26; go_must (refine (HRun3.out _ _ _ ?_ ?_).mono ?_; (first | (with_reducible exact bx2) | (with_reducible exact Below.drew bx2) | (with_reducible exact below_drewN bx2 _)); (first | (with_reducible exact hrd2) | (exact hrd2.drewN _))); rintro e x5 ⟨⟨A5, n5, c5, a5, rfl⟩, by2⟩; obtain ⟨_, q0, q1, q2, q3, q4, q5, q6⟩ := Row.at_7 (rZ.below by2 zZ1); obtain ⟨_, y0, y1, y2⟩ := Row.at_3 (mZ.below by2 zZ2))
        | ((fail_if_success (go_simp; go_at_call 26)); (refine step_app _ (by rfl) _ _ _ (by rfl) Z.heap.size _ i0 _ 1 8 Try.underlying47 hi hz0 hz1 hz2 rfl (by decide) (.slice (some ⟨Z.heap.size, 0, none⟩) 0 0) 0 [] (by rfl) (fresh_own Z _ 1) B A2 l.length c2 (nums l) (by rfl) (HL3.out _ (fresh_below Z _)) (nums_one l) mm1 mm2 (fresh_below Z _).size ?_; intro v2 X2 own2 hbz2; rw [Nat.zero_add, List.nil_append] at own2; obtain ⟨AN2, cN2, rfl, hrd2⟩ := own_reads own2; have bx2 : Below Z.heap.size Z X2 := Below.trans (fresh_below Z _) hbz2; obtain ⟨_, q0, q1, q2, q3, q4, q5, q6⟩ := Row.at_7 (rZ.below bx2 zZ1); obtain ⟨_, y0, y1, y2⟩ := Row.at_3 (mZ.below bx2 zZ2))))
      have b5 := bY.trans ((bZ.trans (by2.mono bZ.size)).mono bY.size)
      go_wp2_with fail
      refine (works_any _).mono ?_
      rintro e w9 ⟨rfl, hb9⟩
      go_wp2_with fail
      go_ret
      exact ⟨rfl, b5.trans (hb9.mono b5.size)⟩
end Go.Proofs.Ytbhojgkmhomajaa
