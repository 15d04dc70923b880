/- The walk of ForceRuns. Conditions: the arguments read as data. -/
import Derived.Test.YtbhojgkmhomajaaLq
import Derived.Test.YtbhojgkmhomajaaLl
namespace Go.Proofs.Ytbhojgkmhomajaa
open Go.RowKit

theorem run_appG {P : Program} (w : World) (base : Nat) (t ty e : TypeId) (i : TypeInfo) (z : Value) (size bytes : Nat) (ht : P.underlying t = some (.slice e)) (hi : P.info? e = some i) (hz : i.zero = some z)
    (hsize : i.size = size) (hby : i.bytes = bytes) (hzs : z.cells.size = size) (hsz : 0 < size)
    (v : Value) (n : Nat) (xs : List Value) (hown : w.ownsRow base e size v n xs)
    (B : Nat) (A : Option Addr) (m c : Nat) (news : List Value) (hr : Reads w B size A m news) (h1 : ∀ u ∈ news, u.oneCell' = true)
    (h63 : n + m ≤ maxLen) (hbytes : (n + m) * bytes ≤ 140737488355328) (hbase : base ≤ w.heap.size) :
    ∃ v' w', (Builtin.append_ #[t, t] ty #[v, .slice A m c]).run P w = .ok v' w' ∧ w'.ownsRow base e size v' (n + m) (xs ++ news) ∧ w.grownBy w' v.ownBlock := by
  rcases A with _ | ad
  · have hm : m = 0 := by
      rcases Nat.eq_zero_or_pos m with h0 | h0
      · exact h0
      · obtain ⟨b, o, h, _⟩ := hr.2 h0
        cases h
    subst hm
    have hn : news = [] := List.eq_nil_of_length_eq_zero (by simpa using hr.1)
    subst hn
    refine ⟨v, w, ?_, by simpa using hown, ⟨rfl, rfl, rfl, Nat.le_refl _, fun _ _ _ => rfl⟩⟩
    rcases hown.2 with ⟨rfl, rfl⟩ | ⟨g, cap, cur, rfl, _, _, hnc, _⟩
    · simp [Builtin.append_, run_underlying ht, sizeOf, typeInfo, hi, Builtin.lenOf, Builtin.firstCells]
    · simp [Builtin.append_, run_underlying ht, sizeOf, typeInfo, hi, Builtin.lenOf, Builtin.firstCells, hnc, storeCells]
  · have hcells : ∀ j u, news[j]? = some u → w.cell? (ad.add j) = some u := by
      intro j u hu
      rcases Nat.eq_zero_or_pos m with h0 | h0
      · subst h0
        have hn : news = [] := List.eq_nil_of_length_eq_zero (by simpa using hr.1)
        subst hn
        simp at hu
      · obtain ⟨b, o, h, _, hc⟩ := hr.2 h0
        injection h with h
        subst h
        rw [Addr.add_lit]
        exact hc j u hu
    obtain ⟨v', w', hrun, h2, h3, _, h5⟩ := run_append_own_at (P := P) w base t ty e i z size bytes ht hi hz hsize hby hzs hsz v n xs hown ad m c news hr.1 hcells h1 h63 hbytes hbase
    exact ⟨v', w', hrun, h2, h3⟩
theorem step_appG {P : Program} (w : World) {ops : Array Oper} {o : Oper} {a : Act} {K : Act → World → Prop} {Q : Exit → Act → World → Prop} {E : Prop} (hgd : o.guard = none) (s x : Operand) (t : TypeId)
    (ho : o.op = .call { callee := .builtin .append, args := #[s, x], argTypes := #[t, t] })
    (base : Nat) (e : TypeId) (i : TypeInfo) (z : Value) (size bytes : Nat) (ht : P.underlying t = some (.slice e)) (hi : P.info? e = some i) (hz : i.zero = some z)
    (hsize : i.size = size) (hby : i.bytes = bytes) (hzs : z.cells.size = size) (hsz : 0 < size)
    (v : Value) (n : Nat) (xs : List Value) (hs : a.eval s = v) (hown : w.ownsRow base e size v n xs)
    (B : Nat) (A : Option Addr) (m c : Nat) (news : List Value) (hx : a.eval x = .slice A m c) (hr : Reads w B size A m news) (h1 : ∀ u ∈ news, u.oneCell' = true)
    (h63 : n + m ≤ maxLen) (hbytes : (n + m) * bytes ≤ 140737488355328) (hbase : base ≤ w.heap.size)
    (h : ∀ v' w', w'.ownsRow base e size v' (n + m) (xs ++ news) → w.grownBy w' v.ownBlock → K (a.put o.dst v') w') :
    if Region.wanted o (yielded ops a.tmps) = true then Oper.wp P o a w K Q else E := by
  have hw : Region.wanted o (yielded ops a.tmps) = true := by simp [Region.wanted, hgd]
  rw [if_pos hw]
  obtain ⟨v', w', hrun, h2, h3⟩ := run_appG (P := P) w base t o.type e i z size bytes ht hi hz hsize hby hzs hsz v n xs hown B A m c news hr h1 h63 hbytes hbase
  unfold Oper.wp execOp
  simp only [ho, resolve, invoke, builtin, Sem.run_bind, Sem.run_pure, Result.andThen_ok, List.map_toArray, List.map_cons, List.map_nil, hs, hx, hrun]
  exact h v' w' h2 h3
def OwPost2 (w : World) (t : List Pt) (e : Ending) (w' : World) : Prop := Below w.heap.size w w' ∧ ∃ A c, e = .returned (.slice A t.length c) ∧ Reads w' w'.heap.size 3 A t.length (ptCells t) ∧ w'.ownsRow w.heap.size 28 3 (.slice A t.length c) t.length (ptCells t)
set_option maxHeartbeats 1000000 in
theorem own_any2 (t : List Pt) (A : Option Addr) (c B : Nat) (w : World) (hB : B ≤ w.heap.size) (hr : Reads w B 3 A t.length (ptCells t)) (hn : t.length ≤ 1000) :
    Calls Try.prog 16 #[.slice A t.length c] w (OwPost2 w t) := by
  obtain ⟨i0, hi, hz0, hz1, hz2⟩ := info_parts Try.info_pt
  have hones : ∀ u ∈ ptCells t, u.oneCell' = true := by
    intro u hu
    simp only [ptCells, List.mem_flatMap] at hu
    obtain ⟨p, _, hu⟩ := hu
    simp at hu
    rcases hu with rfl | rfl | rfl <;> rfl
  have hown := World.ownsRow_made (w := w) (e := 28) (size := 3) (base := w.heap.size) #[] 0 (Nat.le_refl _) (Nat.zero_le _) (by simp)
  have m1 : 0 + t.length ≤ maxLen := by unfold maxLen; omega
  have m2 : (0 + t.length) * 24 ≤ 140737488355328 := by omega
  have hrX := hr.alloc hB (.cells #[] 28)
  have hm := Lib.hid hn
  clear hn
  go_enter Try.func16, Try.ntmps16
  go_wp2_with (at_builtin; refine wpList_app _ rfl _ _ 22 rfl w.heap.size 28 i0 (.agg #[.int .i64 0, .int .i64 0, .int .i64 0]) 3 24 Try.underlying22 hi hz0 hz1 hz2 rfl (by decide) (.slice (some ⟨w.heap.size, 0, none⟩) 0 0) 0 [] rfl hown B A t.length c (ptCells t) rfl hrX hones m1 m2 (by simp) ?_)
  intro v' w1 hown' hbel'
  obtain ⟨A', c', rfl, hrd⟩ := own_reads hown'
  have hb := ((Below.refl w.heap.size w).alloc (Nat.le_refl _) (.cells #[] 28)).trans hbel'
  have hrd2 : Reads w1 w1.heap.size 3 A' t.length (ptCells t) := by simpa using hrd
  go_wp2_with fail
  go_ret
  exact ⟨hb, A', c', rfl, hrd2, by simpa using hown'⟩
theorem reads_own {w : World} {base : Nat} {e : TypeId} {size n c : Nat} {A : Option Addr} {xs : List Value} (h : w.ownsRow base e size (.slice A n c) n xs) : Reads w w.heap.size size A n xs := by
  obtain ⟨A', c', he, hr⟩ := own_reads h
  injection he with h1
  subst h1
  exact hr
theorem own_ge {w : World} {base : Nat} {e : TypeId} {size n : Nat} {v : Value} {xs : List Value} (h : w.ownsRow base e size v n xs) {g : Nat} (hg : g < base) : v.ownBlock = none ∨ v.ownBlock ≠ some g := by
  cases hv : v.ownBlock with
  | none => exact .inl rfl
  | some k => refine .inr fun e => ?_; injection e with e; have := (h.lt k hv).1; omega
theorem grown_to {W y X : World} {g : Nat} (hyb : Below W.heap.size W y) (hg : y.grownBy X (some g)) (h : W.heap.size ≤ g) : Below W.heap.size W X := hyb.grown hg hyb.size fun k e => by injection e with e; omega
theorem fresh_own0 (Y : World) (t : TypeId) (size : Nat) : (Y.alloc (.cells #[] t)).ownsRow Y.heap.size t size (.slice (some ⟨Y.heap.size, 0, none⟩) 0 0) 0 [] := World.ownsRow_made (w := Y) #[] 0 (Nat.le_refl _) (Nat.zero_le _) (by simp)
theorem fresh_below0 (Y : World) (o : Obj) : Below Y.heap.size Y (Y.alloc o) := Below.alloc (Below.refl _ _) (Nat.le_refl _) _
theorem runS_len (t : List Pt) (m : Mot) (x : Lim) (l : List Int) : (runS t m x l).1.length ≤ l.length := by
  unfold runS
  split
  · simp
  split
  · simp
  split
  · simp
  split
  · simp
  · simp [runI_length]

set_option maxRecDepth 100000 in
set_option maxHeartbeats 2000000 in
theorem runs_walk (t : List Pt) (m : Mot) (x : Lim) (fails : Bool) (l : List Int) (A A2 : Option Addr) (c c2 B : Nat) (w : World) (hB : B ≤ w.heap.size) (hr : Reads w B 3 A t.length (ptCells t)) (hn : t.length ≤ maxLen) (hl : Reads w B 1 A2 l.length (nums l)) :
    Calls Try.prog 6 #[.slice A t.length c, rideV m x fails, .slice A2 l.length c2] w (TruePost w) := by
  obtain ⟨i0, hi, hz0, hz1, hz2⟩ := info_parts Try.info_int
  obtain ⟨W, hW⟩ : ∃ W, W = w.alloc (.cells #[.int .i64 m.top, .int .i64 m.ease, .int .i64 m.jerk, .int .i64 x.side, .int .i64 x.low, .int .i64 x.high, .bool fails] 39) := ⟨_, rfl⟩
  have bW : Below w.heap.size w W := by subst hW; exact (Below.refl _ _).alloc (Nat.le_refl _) _
  have rC : Row W w.heap.size 39 [.int .i64 m.top, .int .i64 m.ease, .int .i64 m.jerk, .int .i64 x.side, .int .i64 x.low, .int .i64 x.high, .bool fails] := by subst hW; exact Row.new w _ _
  have hrW := hr.below (bW.mono hB)
  have hlW := hl.below (bW.mono hB)
  obtain ⟨_, q0, q1, q2, q3, q4, q5, q6⟩ := Row.at_7 rC
  have z0 := rC.lt
  have zBW : B ≤ W.heap.size := Nat.le_trans hB bW.size
  unfold rideV
  go_enter Try.func6, Try.ntmps6
  by_cases hbig : 70 < t.length ∨ 400 < l.length
  · have fin : ∀ X : World, Below w.heap.size w X → Calls Try.prog 15 #[] X fun e w' => e = .returned (.bool true) ∧ Below w.heap.size w w' := fun X hX => (works_any X).mono fun _ _ h => ⟨h.1, hX.trans (h.2.mono hX.size)⟩
    have Hfin := Lib.hid fin
    clear fin
    by_cases h70 : 70 < t.length
    · have h70' : (70 : Int) < (t.length : Int) := by omega
      go_wp2_with fail
      rw [← hW]
      refine (Hfin.out _ bW).mono ?_
      rintro e w4 ⟨rfl, hb4⟩
      go_wp2_with fail
      go_ret
      exact ⟨rfl, hb4⟩
    · have h70' : ¬ (70 : Int) < (t.length : Int) := by omega
      have h100' : (400 : Int) < (l.length : Int) := by omega
      go_wp2_with fail
      rw [← hW]
      refine (Hfin.out _ bW).mono ?_
      rintro e w4 ⟨rfl, hb4⟩
      go_wp2_with fail
      go_ret
      exact ⟨rfl, hb4⟩
  have h70' : ¬ (70 : Int) < (t.length : Int) := by omega
  have h100' : ¬ (400 : Int) < (l.length : Int) := by omega
  have hl400 : l.length ≤ 400 := by omega
  have mm1 : 0 + l.length ≤ maxLen := by unfold maxLen; omega
  have mm2 : (0 + l.length) * 8 ≤ 140737488355328 := by omega
  obtain ⟨⟨L, at0, E⟩, hR⟩ : ∃ R, R = runS t m x l := ⟨_, rfl⟩
  have hLl : L.length ≤ 400 := by
    have := runS_len t m x l
    rw [← hR] at this
    dsimp only at this
    omega
  have HO : Hid (∀ X, Below W.heap.size W X → Calls Try.prog 16 #[.slice A t.length c] X (OwPost2 X t)) := fun X hX =>
    own_any2 t A c B X (Nat.le_trans zBW hX.size) (hrW.below (hX.mono zBW)) (by omega)
  have HL : Hid (∀ X, Below W.heap.size W X → Reads X B 1 A2 l.length (nums l)) := fun X hX => hlW.below (hX.mono zBW)
  have HRu : Hid (∀ X A1 c1 A' c', Reads X X.heap.size 3 A1 t.length (ptCells t) → Reads X X.heap.size 1 A' l.length (nums l) → Calls Try.prog 26 #[.slice A1 t.length c1, .agg #[.int .i64 m.top, .int .i64 m.ease, .int .i64 m.jerk], .agg #[.int .i64 x.side, .int .i64 x.low, .int .i64 x.high], .slice A' l.length c'] X fun e w' => (∃ A c, e = .returned (.tuple #[.slice A L.length c, .int .i64 at0, .int .i64 E]) ∧ Reads w' w'.heap.size 3 A L.length (ptCells L)) ∧ Below X.heap.size X w') := fun X A1 c1 A' c' hX hrd => by
    refine (Run_any t m x l A1 A' c1 c' X.heap.size X (Nat.le_refl _) hX hn hrd hl400).mono ?_
    rintro e w' ⟨hb, A4, c4, rfl, hrd4⟩
    rw [← hR] at hrd4
    exact ⟨⟨A4, c4, by rw [← hR], hrd4⟩, hb⟩
  have HRr : Hid (∀ X, Below W.heap.size W X → Calls Try.prog 27 #[.slice A t.length c, .agg #[.int .i64 m.top, .int .i64 m.ease, .int .i64 m.jerk], .agg #[.int .i64 x.side, .int .i64 x.low, .int .i64 x.high], .slice A2 l.length c2] X fun e w' => (∃ A c, e = .returned (.tuple #[.slice A L.length c, .int .i64 at0, .int .i64 E]) ∧ Reads w' w'.heap.size 3 A L.length (ptCells L)) ∧ Below X.heap.size X w') := fun X hX => by
    refine (rRun_any t m x l A A2 c c2 B X (Nat.le_trans zBW hX.size) (hrW.below (hX.mono zBW)) hn (hlW.below (hX.mono zBW)) hl400).mono ?_
    rintro e w' ⟨hb, A4, c4, rfl, hrd4⟩
    rw [← hR] at hrd4
    exact ⟨⟨A4, c4, by rw [← hR], hrd4⟩, hb⟩
  clear hbig hR
  go_upto_region 3 with (fail)
  rw [← hW]
  clear hW
  go_region_held3 (fun y => y.cell? ⟨w.heap.size, 0, none⟩ = some (.int .i64 m.top) ∧ y.cell? ⟨w.heap.size, 1, none⟩ = some (.int .i64 m.ease) ∧ y.cell? ⟨w.heap.size, 2, none⟩ = some (.int .i64 m.jerk) ∧ y.cell? ⟨w.heap.size, 3, none⟩ = some (.int .i64 x.side) ∧ y.cell? ⟨w.heap.size, 4, none⟩ = some (.int .i64 x.low) ∧ y.cell? ⟨w.heap.size, 5, none⟩ = some (.int .i64 x.high)) (go_keep) (first
    | (go_at_call 16
       refine (HO.out _ ?_).mono ?_
       · first | (with_reducible exact bx1) | (with_reducible exact bx1.drew) | (with_reducible exact below_drewN bx1 _) | (with_reducible exact Below.refl _ _) | (with_reducible exact Below.drew (Below.refl _ _)) | (with_reducible exact below_drewN (Below.refl _ _) _) | (with_reducible exact fresh_below W _) | (with_reducible exact Below.alloc (Below.refl _ _) (Nat.le_refl _) _) | (with_reducible exact below_drewN (Below.alloc (Below.refl _ _) (Nat.le_refl _) _) _) | (with_reducible exact Below.alloc (Below.drew (Below.refl _ _)) (Nat.le_refl _) _)
       rintro e y1 ⟨hy1, A1, c1, rfl, hr1, ho1⟩
       first
         | (have hrd2 : Reads y1 y1.heap.size 1 AN1 l.length (nums l) := (hrd1.below hy1).more hy1.size; have hyb : Below W.heap.size W y1 := Below.trans bx1 (Below.mono hy1 bx1.size))
         | (have hyb : Below W.heap.size W y1 := below_drewN_out' hy1; have fa : (0 : Nat) = 0 := rfl)
         | (have hyb : Below W.heap.size W y1 := Below.trans (fresh_below W (.cells #[] 3)) (Below.mono hy1 (fresh_below W (.cells #[] 3)).size); have fb := owns_heap (fresh_own W 3 1) (fun g _ hg => hy1.block g hg))
         | (have hyb : Below W.heap.size W y1 := Below.trans (fresh_below0 W (.cells #[] 3)) (Below.mono hy1 (fresh_below0 W (.cells #[] 3)).size); have fb := owns_heap (fresh_own0 W 3 1) (fun g _ hg => hy1.block g hg))
         | (have hyb : Below W.heap.size W y1 := hy1; have fa : (0 : Nat) = 0 := rfl)
       obtain ⟨_, q0, q1, q2, q3, q4, q5, q6⟩ := Row.at_7 (rC.below hyb z0))
    | (go_at_call 26
       refine (HRu.out _ _ _ _ _ ?_ ?_).mono ?_
       · first | (with_reducible exact hr2) | (exact hr2.drewN _) | (with_reducible exact hr1) | (exact hr1.drewN _)
       · first | (with_reducible exact hrd2) | (exact hrd2.drewN _) | (with_reducible exact hrd1) | (exact hrd1.drewN _)
       rintro e x4 ⟨⟨A4, c4, rfl, hrd4⟩, by4⟩
       have byW : Below W.heap.size W x4 := (by first | exact Below.trans bxf (Below.mono by4 bxf.size) | exact Below.trans hyb (Below.mono by4 hyb.size))
       obtain ⟨_, q0, q1, q2, q3, q4, q5, q6⟩ := Row.at_7 (rC.below byW z0))
    | ((fail_if_success (go_simp; go_at_call 26)); (fail_if_success (go_simp; go_at_call 16))
       first
         | (refine step_appG _ (by rfl) _ _ _ (by rfl) y1.heap.size _ i0 _ 1 8 Try.underlying47 hi hz0 hz1 hz2 rfl (by decide) (.slice (some ⟨y1.heap.size, 0, none⟩) 0 0) 0 [] (by rfl) (fresh_own0 y1 _ 1) B A2 l.length c2 (nums l) (by rfl) (HL.out _ (Below.trans hyb (Below.mono (fresh_below0 y1 _) hyb.size))) (nums_one l) mm1 mm2 (fresh_below0 y1 _).size ?_
            intro v1 X1 own1 hg1
            rw [Nat.zero_add, List.nil_append] at own1
            obtain ⟨AN1, cN1, rfl, hrd1⟩ := own_reads own1
            have bxx := grown_to (fresh_below0 y1 (.cells #[] 3)) hg1 (Nat.le_refl _)
            have bxf : Below W.heap.size W X1 := Below.trans hyb (Below.mono bxx hyb.size)
            have hr2 : Reads X1 X1.heap.size 3 A1 t.length (ptCells t) := (hr1.below bxx).more bxx.size)
         | (refine step_appG _ (by rfl) _ _ _ (by rfl) y1.heap.size _ i0 _ 1 8 Try.underlying47 hi hz0 hz1 hz2 rfl (by decide) (.slice (some ⟨y1.heap.size, 0, none⟩) 0 0) 0 [] (by rfl) (fresh_own y1 _ 1) B A2 l.length c2 (nums l) (by rfl) (HL.out _ (Below.trans hyb (Below.mono (fresh_below y1 _) hyb.size))) (nums_one l) mm1 mm2 (fresh_below y1 _).size ?_
            intro v1 X1 own1 hg1
            rw [Nat.zero_add, List.nil_append] at own1
            obtain ⟨AN1, cN1, rfl, hrd1⟩ := own_reads own1
            have bxx := grown_to (fresh_below y1 (.cells #[] 3)) hg1 (Nat.le_refl _)
            have bxf : Below W.heap.size W X1 := Below.trans hyb (Below.mono bxx hyb.size)
            have hr2 : Reads X1 X1.heap.size 3 A1 t.length (ptCells t) := (hr1.below bxx).more bxx.size)
         | (refine step_appG _ (by rfl) _ _ _ (by rfl) W.heap.size _ i0 _ 1 8 Try.underlying47 hi hz0 hz1 hz2 rfl (by decide) (.slice (some ⟨W.heap.size, 0, none⟩) 0 0) 0 [] (by rfl) fb B A2 l.length c2 (nums l) (by rfl) (HL.out _ hyb) (nums_one l) mm1 mm2 hyb.size ?_
            intro v1 X1 own1 hg1
            rw [Nat.zero_add, List.nil_append] at own1
            obtain ⟨AN1, cN1, rfl, hrd1⟩ := own_reads own1
            have bxf : Below W.heap.size W X1 := grown_to hyb hg1 (Nat.le_refl _)
            have hr2 : Reads X1 X1.heap.size 3 A1 t.length (ptCells t) := reads_own (ho1.kept hg1 (own_ge ho1 (by simp))))
         | (refine step_appG _ (by rfl) _ _ _ (by rfl) W.heap.size _ i0 _ 1 8 Try.underlying47 hi hz0 hz1 hz2 rfl (by decide) (.slice (some ⟨W.heap.size, 0, none⟩) 0 0) 0 [] (by rfl) (owns_drew fb) B A2 l.length c2 (nums l) (by rfl) (HL.out _ hyb.drew) (nums_one l) mm1 mm2 hyb.size ?_
            intro v1 X1 own1 hg1
            rw [Nat.zero_add, List.nil_append] at own1
            obtain ⟨AN1, cN1, rfl, hrd1⟩ := own_reads own1
            have bxf : Below W.heap.size W X1 := grown_to hyb.drew hg1 (Nat.le_refl _)
            have hr2 : Reads X1 X1.heap.size 3 A1 t.length (ptCells t) := reads_own (World.ownsRow.kept (owns_drew ho1) hg1 (own_ge ho1 (by simp))))
         | (refine step_appG _ (by rfl) _ _ _ (by rfl) W.heap.size _ i0 _ 1 8 Try.underlying47 hi hz0 hz1 hz2 rfl (by decide) (.slice (some ⟨W.heap.size, 0, none⟩) 0 0) 0 [] (by rfl) (fresh_own0 W _ 1) B A2 l.length c2 (nums l) (by rfl) (HL.out _ (fresh_below0 W _)) (nums_one l) mm1 mm2 (fresh_below0 W _).size ?_
            intro v1 X1 own1 hg1
            rw [Nat.zero_add, List.nil_append] at own1
            obtain ⟨AN1, cN1, rfl, hrd1⟩ := own_reads own1
            have bx1 : Below W.heap.size W X1 := grown_to (fresh_below0 W (.cells #[] 3)) hg1 (Nat.le_refl _))
         | (refine step_appG _ (by rfl) _ _ _ (by rfl) W.heap.size _ i0 _ 1 8 Try.underlying47 hi hz0 hz1 hz2 rfl (by decide) (.slice (some ⟨W.heap.size, 0, none⟩) 0 0) 0 [] (by rfl) (fresh_own W _ 1) B A2 l.length c2 (nums l) (by rfl) (HL.out _ (fresh_below W _)) (nums_one l) mm1 mm2 (fresh_below W _).size ?_
            intro v1 X1 own1 hg1
            rw [Nat.zero_add, List.nil_append] at own1
            obtain ⟨AN1, cN1, rfl, hrd1⟩ := own_reads own1
            have bx1 : Below W.heap.size W X1 := grown_to (fresh_below W (.cells #[] 3)) hg1 (Nat.le_refl _))
       obtain ⟨_, q0, q1, q2, q3, q4, q5, q6⟩ := Row.at_7 (rC.below (by first | exact bxf | exact bx1) z0)))
  all_goals
    have zx4 : w.heap.size < x4.heap.size := Nat.lt_of_lt_of_le z0 byW.size
    have hn4l : L.length ≤ maxLen := by unfold maxLen; omega
    go_wp2_with fail
    refine (HRr.out _ byW).mono ?_
    rintro e x5 ⟨⟨A5, c5, rfl, hrd5⟩, by5⟩
    have byW5 : Below W.heap.size W x5 := byW.trans (by5.mono byW.size)
    have hrd4' := (hrd4.below by5).more by5.size
    go_wp2_with fail
    refine (samePoints_any L L A4 A5 L.length L.length c4 c5 _ _ x5 hrd4' hrd5 hn4l hn4l).mono ?_
    rintro e x6 ⟨rfl, hk6⟩
    rw [show decide (L = L) = true from by simp]
    have hb6 := hk6.to_below (Nat.le_refl _) (by simp)
    have byW6 : Below W.heap.size W x6 := byW5.trans (hb6.mono byW5.size)
    go_wp2_with fail
    refine (works_any _).mono ?_
    rintro e x7 ⟨rfl, hb7⟩
    go_wp2_with fail
    go_ret
    exact ⟨rfl, bW.trans ((byW6.trans (hb7.mono byW6.size)).mono bW.size)⟩
end Go.Proofs.Ytbhojgkmhomajaa
