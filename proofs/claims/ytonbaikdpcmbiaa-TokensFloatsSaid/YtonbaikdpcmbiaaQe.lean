/- Contract of the specification's Float. Conditions: the arguments read as data; the deals' slice is no longer than its capacity. -/
import Derived.Test.YtonbaikdpcmbiaaQb
import Derived.Test.YtonbaikdpcmbiaaRa
import Derived.Test.YtonbaikdpcmbiaaAp
import Derived.Test.YtonbaikdpcmbiaaVf
/- Contract of Float. Conditions: the arguments read as data. -/
namespace Go.Proofs.Ytonbaikdpcmbiaa
open Go.RowKit

theorem fid_ok58 : ∀ a w, Sem.run Try.prog (callFunc 58 a) w = Result.ok (Next.enter 58 a) w := fun a w => by kernel_rfl
theorem row_8 {w : World} {g : Nat} {t : TypeId} {v0 v1 v2 v3 v4 v5 v6 v7 : Value} (h : Row w g t [v0, v1, v2, v3, v4, v5, v6, v7]) : (∀ o, w.frozen? ⟨g, o, none⟩ = false) ∧ w.cell? ⟨g, 0, none⟩ = some v0 ∧ w.cell? ⟨g, 1, none⟩ = some v1 ∧ w.cell? ⟨g, 2, none⟩ = some v2 ∧ w.cell? ⟨g, 3, none⟩ = some v3 ∧ w.cell? ⟨g, 4, none⟩ = some v4 ∧ w.cell? ⟨g, 5, none⟩ = some v5 ∧ w.cell? ⟨g, 6, none⟩ = some v6 ∧ w.cell? ⟨g, 7, none⟩ = some v7 :=
  ⟨fun o => h.frozen o, h.cell (j := 0) (by simp), h.cell (j := 1) (by simp), h.cell (j := 2) (by simp), h.cell (j := 3) (by simp), h.cell (j := 4) (by simp), h.cell (j := 5) (by simp), h.cell (j := 6) (by simp), h.cell (j := 7) (by simp)⟩
theorem Try.info_intQ : (Try.prog.info? 3).map (fun i => (i.zero, i.size, i.bytes)) = some (some (.int .i64 0), 1, 8) := by kernel_rfl
theorem row_nx (w : World) (t : TypeId) (cs : Array Value) (g : Nat) (hg : g = w.heap.size) : Row (w.alloc (.cells cs t)) g t cs.toList := by subst hg; exact Row.new w t cs
/-- As much cash as there may be in the first j tills. -/
def fillC (m j : Nat) : List Int := List.replicate j 1000000 ++ List.replicate (m - j) 0
theorem fillC_len (m j : Nat) (h : j ≤ m) : (fillC m j).length = m := by simp [fillC]; omega
theorem fillC_set (m j : Nat) (h : j < m) : (fillC m j).set j 1000000 = fillC m (j + 1) := by
  simp only [fillC]
  rw [List.set_append_right _ _ (by simp), List.length_replicate, Nat.sub_self, show m - j = (m - (j + 1)) + 1 from by omega, List.replicate_succ, List.set_cons_zero, List.replicate_succ', List.append_assoc]
  rfl
theorem fillC_all (m : Nat) : fillC m m = List.replicate m 1000000 := by simp [fillC]
def FloatPost (w : World) (F : Fair) (l : List Deal) (e : Ending) (w' : World) : Prop :=
  Below w.heap.size w w' ∧ ∃ A m c, e = .returned (.tuple #[.slice A m c, .int .i64 (floatS F l).2]) ∧ Reads w' w'.heap.size 1 A m (intCells (floatS F l).1) ∧ m ≤ 8

set_option maxHeartbeats 1000000 in
set_option maxRecDepth 100000 in
theorem Float_any (F : Fair) (R : Refs) (l : List Deal) (A : Option Addr) (c B : Nat) (w : World) (hB : B ≤ w.heap.size) (hF : FairIn w B F R) (hl : Reads w B 5 A l.length (dealCells l)) (hn : l.length ≤ maxLen) :
    Calls Try.prog 30 #[fairV F R, .slice A l.length c] w (FloatPost w F l) := by
  obtain ⟨A1, c1, A2, c2, A3, c3⟩ := R
  obtain ⟨i0, hi, hz0, hz1, hz2⟩ := info_parts Try.info_intQ
  obtain ⟨W, hW⟩ : ∃ W, W = w.alloc (.cells (fairCells F ⟨A1, c1, A2, c2, A3, c3⟩) 25) := ⟨_, rfl⟩
  have sW : W.heap.size = w.heap.size + 1 := by subst hW; simp
  have bW : Below w.heap.size w W := by subst hW; exact (Below.refl _ _).alloc (Nat.le_refl _) _
  have rF : Row W w.heap.size 25 (fairCells F ⟨A1, c1, A2, c2, A3, c3⟩).toList := by subst hW; exact Row.new _ _ _
  unfold fairV
  dsimp only
  go_enter Try.func30, Try.ntmps30
  go_wp2_with fail
  rw [← hW]
  clear hW
  refine (valid_any F ⟨A1, c1, A2, c2, A3, c3⟩ W B (by omega) (hF.below (bW.mono hB))).mono ?_
  rintro e w1 ⟨rfl, hb1⟩
  have b1 := below_step bW hb1
  have s1 := hb1.size
  replace rF := rF.below hb1 rF.lt
  cases hv : validB F with
  | false =>
    have hq : Hid (floatS F l = ([], 10)) := by show _ = _; simp [floatS, hv]
    go_wp2_with fail
    go_ret2
    exact ⟨b1, none, 0, 0, by rw [hq.out]; rfl, by rw [hq.out]; exact Reads.none_, by omega⟩
  | true =>
    have hbd := bounds_of hv
    have hcl := hbd.c
    have hs8 := hbd.s2
    obtain ⟨m, hm⟩ : ∃ m, m = F.cash.length := ⟨_, rfl⟩
    have hmk := fun X => run_make_rowN (P := Try.prog) 22 3 i0 _ Try.underlying22 hi hz0 .i64 .i64 m m (Nat.le_refl _) (by rw [hz2]; omega) (by omega) X
    rw [hz1, Nat.mul_one] at hmk
    obtain ⟨fz, q0, q1, q2, q3, q4, q5, q6, q7⟩ := row_8 rF
    have zF := rF.lt
    have zF1 : w.heap.size < w1.heap.size + 1 := by omega
    have zF2 : w.heap.size < w1.heap.size + 1 + 1 := by omega
    rw [← hm] at q3
    have hm8 : m ≤ 8 := by omega
    have Hm := Lib.hid hm
    clear hm
    go_wp2_with fail
    clear q0 q1 q2 q3 q4 q5 q6 q7 hmk
    go_loopw [7, 26] (fun _ i wr => ∃ j : Nat, j ≤ m ∧ i = .int .i64 j ∧ Below w.heap.size w wr ∧ w1.heap.size + 1 + 1 < wr.heap.size ∧ Row wr w.heap.size 25 [.int .i64 F.purses, .int .i64 F.boxes, .slice A1 F.stock.length c1, .slice (some ⟨w1.heap.size + 1 + 1, 0, none⟩) m m, .slice A3 F.bundles.length c3, .int .i64 F.refund, .int .i64 F.band, .int .i64 F.hours] ∧ Row wr w1.heap.size 3 (intCells (List.replicate m 0)) ∧ Row wr (w1.heap.size + 1) 22 [.slice (some ⟨w1.heap.size, 0, none⟩) m m] ∧ Row wr (w1.heap.size + 1 + 1) 3 (intCells (fillC m j))) (fun _ i _ => m - (intOf i).toNat)
    case atStart =>
      have rF' : Row (w1.setCell ⟨w.heap.size, 3, none⟩ (.slice (some ⟨w1.heap.size + 1 + 1, 0, none⟩) m m)) w.heap.size 25 [.int .i64 F.purses, .int .i64 F.boxes, .slice A1 F.stock.length c1, .slice (some ⟨w1.heap.size + 1 + 1, 0, none⟩) m m, .slice A3 F.bundles.length c3, .int .i64 F.refund, .int .i64 F.band, .int .i64 F.hours] := rF.set 3 _
      have bX : Below w.heap.size w (w1.setCell ⟨w.heap.size, 3, none⟩ (.slice (some ⟨w1.heap.size + 1 + 1, 0, none⟩) m m)) := b1.setCell (Nat.le_refl _) _
      have sX : (w1.setCell ⟨w.heap.size, 3, none⟩ (.slice (some ⟨w1.heap.size + 1 + 1, 0, none⟩) m m)).heap.size = w1.heap.size := by simp [World.setCell]
      generalize w1.setCell ⟨w.heap.size, 3, none⟩ (.slice (some ⟨w1.heap.size + 1 + 1, 0, none⟩) m m) = X1 at *
      refine ⟨0, Nat.zero_le _, rfl, ?_, by simp; omega, ?_, ?_, ?_, ?_⟩
      · exact ((bX.alloc (by omega) _).alloc (by simp; omega) _).alloc (by simp; omega) _
      · exact ((rF'.alloc _).alloc _).alloc _
      · exact ((new_ints X1 w1.heap.size m sX.symm).alloc _).alloc _
      · exact (row_nx _ _ #[.slice (some ⟨w1.heap.size, 0, none⟩) m m] (w1.heap.size + 1) (by simp; omega)).alloc _
      · exact new_ints _ (w1.heap.size + 1 + 1) m (by simp; omega)
    case round =>
      obtain ⟨j, hj, rfl, hbel, hsz, rB, rn, rv, rc⟩ := hrel
      have zB := rB.lt
      obtain ⟨fzB, q0, q1, q2, q3, q4, q5, q6, q7⟩ := row_8 rB
      by_cases hlt : j < m
      · have hlt' : (j : Int) < (m : Int) := by omega
        have hfz := rc.frozen
        have c1' := int_at2 rc (k := j) (by rw [fillC_len _ _ hj]; omega)
        have hset := rc.set j (.int .i64 1000000)
        rw [int_set2, fillC_set _ _ hlt] at hset
        have Hset := Lib.hid hset
        clear hset
        go_wp2_with fail
        go_roundw
        case rel =>
          refine ⟨j + 1, by omega, by go_num, hbel.setCell (by dsimp only; omega) _, by simpa [World.setCell] using hsz, rB.far (by dsimp only; omega) _, rn.far (by dsimp only; omega) _, rv.far (by dsimp only; omega) _, Hset.out⟩
        case measure => simp [intOf]; omega
      · have hge : ¬ (j : Int) < (m : Int) := by omega
        have ej : j = m := by omega
        subst ej
        have hjc := Hm.out
        have hjs : j = F.stock.length := by omega
        have HJ := Lib.hid hjs
        have e1 : (richS F).cash.length = j := by simp [hjc]
        have gx : w.heap.size ≤ w1.heap.size := by omega
        have hFk : ∀ x, KeptBut [w1.heap.size + 1, w1.heap.size] wr x → FairIn x wr.heap.size (richS F) ⟨A1, c1, some ⟨w1.heap.size + 1 + 1, 0, none⟩, j, A3, c3⟩ ∧ Reads x wr.heap.size 5 A l.length (dealCells l) := by
          intro x hx
          have bB : Below B w x := (hbel.mono hB).trans (hx.to_below (by omega) (by simp; omega))
          have rc' := rc.kept hx (by simp; omega)
          rw [fillC_all] at rc'
          refine ⟨⟨(hF.s1.below bB).more (by omega), ?_, (hF.s3.below bB).more (by omega), hF.l1, ?_, hF.l3⟩, (hl.below bB).more (by omega)⟩
          · have := rc'.reads (size := 1) (n := j) (B := wr.heap.size) (by simp [intCells]) (by omega)
            rw [e1]
            dsimp only [withC]
            rw [← hjc]
            exact this
          · rw [e1]; unfold maxLen; omega
        have h0 : NeedP (w1.heap.size + 1) w1.heap.size (richS F) l 0 wr := by
          refine ⟨?_, ?_⟩
          · dsimp only [withC]; rw [← hjs]; exact rv
          · rw [needK, e1]; exact rn
        have HC : Calls Try.prog 45 #[.agg #[.int .i64 F.purses, .int .i64 F.boxes, .slice A1 F.stock.length c1, .slice (some ⟨w1.heap.size + 1 + 1, 0, none⟩) j j, .slice A3 F.bundles.length c3, .int .i64 F.refund, .int .i64 F.band, .int .i64 F.hours], .slice A l.length c, .func (.func 58) #[] #[.pointer (some ⟨w1.heap.size + 1, 0, none⟩)]] wr (FPost wr wr.heap.size (richS F) ⟨A1, c1, some ⟨w1.heap.size + 1 + 1, 0, none⟩, j, A3, c3⟩ l [w1.heap.size + 1, w1.heap.size] (NeedP (w1.heap.size + 1) w1.heap.size (richS F) l)) := by
          have h := follow_gen (richS F) ⟨A1, c1, some ⟨w1.heap.size + 1 + 1, 0, none⟩, j, A3, c3⟩ l A c wr.heap.size wr 58 #[.pointer (some ⟨w1.heap.size + 1, 0, none⟩)] [w1.heap.size + 1, w1.heap.size] (NeedP (w1.heap.size + 1) w1.heap.size (richS F) l) (Nat.le_refl _) (hFk wr (KeptBut.refl _ _)).1 (hFk wr (KeptBut.refl _ _)).2 hn (by simp; omega)
            (fun k x x' hk hp => ⟨Row.keep hp.1 (hk _ (by simp)).2, Row.keep hp.2 (hk _ (by simp)).2⟩) h0 fid_ok58 hFk
            (fun h200 => need_ok2 wr.heap.size wr.heap.size (w1.heap.size + 1) w1.heap.size (richS F) _ l h200 (by omega) (fun i hi => geti_repl _ _ _ (by simpa [withC] using hi)) ⟨by omega, by omega⟩)
          unfold fairV at h
          rw [e1] at h
          exact h
        have HCC := Lib.hid HC
        clear HC hFk h0 e1 hjs hjc
        go_wp2_with fail
        refine HCC.out.mono ?_
        rintro e w5 ⟨hk5, hp⟩
        have s5 := hk5.size
        have b5 : Below w.heap.size w w5 := hbel.trans (hk5.to_below (by omega) (by simp; omega))
        have hvr := rich_valid hv
        rcases hp with ⟨hv', rfl⟩ | ⟨hv', h200, rfl⟩ | ⟨hv', h200, hg, rfl⟩ | ⟨hv', h200, C, t, L, hg, hS, hL0, hP, rfl⟩
        · rw [hvr] at hv'; cases hv'
        · have hq : Hid (floatS F l = ([], 2)) := by
            have : errS (richS F) l = 2 := by simp [errS, hvr, h200]
            show _ = _; simp [floatS, hv, this]
          clear q0 q1 q2 q3 q4 q5 q6 q7
          go_wp2_with fail
          go_ret2
          exact ⟨b5.alloc b5.size _, none, 0, 0, by rw [hq.out]; rfl, by rw [hq.out]; exact Reads.none_, by omega⟩
        · have hq : Hid (floatS F l = ([], 11)) := by
            have h2 : ¬ 200 < l.length := by omega
            have : errS (richS F) l = 11 := by simp [errS, hvr, h2, hg]
            show _ = _; simp [floatS, hv, this]
          clear q0 q1 q2 q3 q4 q5 q6 q7 hg
          go_wp2_with fail
          go_ret2
          exact ⟨b5.alloc b5.size _, none, 0, 0, by rw [hq.out]; rfl, by rw [hq.out]; exact Reads.none_, by omega⟩
        · have herr : errS (richS F) l = 0 := by
            have h2 : ¬ 200 < l.length := by omega
            simp [errS, hvr, h2, hg]
          have hq : Hid (floatS F l = (needK (richS F) l l.length, 0)) := by show _ = _; simp [floatS, hv, herr]
          have hnl : Hid ((needK (richS F) l l.length).length = j) := by show _ = _; rw [(float_facts herr).1, ← Hm.out]
          obtain ⟨pv, pn⟩ := hP
          have v0 : w5.cell? ⟨w1.heap.size + 1, 0, none⟩ = some (.slice (some ⟨w1.heap.size, 0, none⟩) j j) := by
            have := pv.cell (j := 0) (by simp)
            dsimp only [withC] at this
            rw [← HJ.out] at this
            exact this
          have zv := pv.lt
          have zn := pn.lt
          clear q0 q1 q2 q3 q4 q5 q6 q7 hg herr pv
          go_wp2_with fail
          go_ret2
          refine ⟨b5.alloc b5.size _, some ⟨w1.heap.size, 0, none⟩, j, j, by rw [hq.out]; rfl, ?_, hm8⟩
          rw [hq.out]
          exact (pn.alloc _).reads (by simp [intCells, hnl.out]) (by simp; omega)
end Go.Proofs.Ytonbaikdpcmbiaa
/- Contract of the specification's With. Conditions: the arguments read as data; at most 1000 numbers. -/
namespace Go.Proofs.Ytonbaikdpcmbiaa
open Go.RowKit

/-- The cash of a fair lies in a block of its own. -/
def CashAt (w' : World) (N : Nat) (cs : List Int) (A : Option Addr) : Prop := cs.length = 0 ∨ ∃ g, A = some ⟨g, 0, none⟩ ∧ N ≤ g ∧ Row w' g 3 (intCells cs)
def WithP (w : World) (F : Fair) (R : Refs) (cs : List Int) (e : Ending) (w' : World) : Prop :=
  Below w.heap.size w w' ∧ ∃ A c, e = .returned (fairV (withC F cs) ⟨R.A1, R.c1, A, c, R.A3, R.c3⟩) ∧ CashAt w' w.heap.size cs A
theorem cash_of {w : World} {base : Nat} {v : Value} {cs : List Int} (h : w.ownsRow base 3 1 v cs.length (intCells cs)) : ∃ A c, v = .slice A cs.length c ∧ CashAt w base cs A := by
  rcases Nat.eq_zero_or_pos cs.length with h0 | h0
  · rcases h.2 with ⟨rfl, _⟩ | ⟨g, cap, cur, rfl, _⟩
    · exact ⟨none, 0, by rw [h0], .inl h0⟩
    · exact ⟨_, _, rfl, .inl h0⟩
  · obtain ⟨g, cap, rfl, hb, _⟩ := World.ownsRow.form h h0
    exact ⟨_, _, rfl, .inr ⟨g, rfl, hb, (Row.of_own h).1⟩⟩
theorem CashAt.keep {w w' : World} {N M : Nat} {cs : List Int} {A : Option Addr} (h : CashAt w N cs A) (hk : ∀ g, N ≤ g → g < w.heap.size → w'.heap[g]? = w.heap[g]?) (hM : M ≤ N) : CashAt w' M cs A := by
  rcases h with h | ⟨g, e, hg, hr⟩
  · exact .inl h
  · exact .inr ⟨g, e, by omega, hr.keep (hk g hg hr.lt)⟩
theorem with_fair {w' : World} {B N : Nat} {F : Fair} {R : Refs} {cs : List Int} {A : Option Addr} {c : Nat} (hF : FairIn w' B F R) (hB : B ≤ w'.heap.size) (hc : CashAt w' N cs A) (hn : cs.length ≤ 1000) : FairIn w' w'.heap.size (withC F cs) ⟨R.A1, R.c1, A, c, R.A3, R.c3⟩ := by
  refine ⟨hF.s1.more hB, ?_, hF.s3.more hB, hF.l1, by unfold maxLen; dsimp only [withC]; omega, hF.l3⟩
  rcases hc with h | ⟨g, e, hg, hr⟩
  · exact ⟨by simp [intCells], fun h2 => by dsimp only  at h2; omega⟩
  · dsimp only
    rw [e]
    exact hr.reads (by simp [intCells]) hr.lt
theorem far8 {x : World} {b g : Nat} {v0 v1 v2 v3 v4 v5 v6 v7 : Value} (h : g ≠ b) : ((((((((x.setCell ⟨b, 0, none⟩ v0).setCell ⟨b, 1, none⟩ v1).setCell ⟨b, 2, none⟩ v2).setCell ⟨b, 3, none⟩ v3).setCell ⟨b, 4, none⟩ v4).setCell ⟨b, 5, none⟩ v5).setCell ⟨b, 6, none⟩ v6).setCell ⟨b, 7, none⟩ v7).heap[g]? = x.heap[g]? := by
  rw [Below.heap_setCell _ _ _ _ h, Below.heap_setCell _ _ _ _ h, Below.heap_setCell _ _ _ _ h, Below.heap_setCell _ _ _ _ h, Below.heap_setCell _ _ _ _ h, Below.heap_setCell _ _ _ _ h, Below.heap_setCell _ _ _ _ h, Below.heap_setCell _ _ _ _ h]
theorem bel8 {B : Nat} {a x : World} {b : Nat} {v0 v1 v2 v3 v4 v5 v6 v7 : Value} (h : Below B a x) (hb : B ≤ b) : Below B a ((((((((x.setCell ⟨b, 0, none⟩ v0).setCell ⟨b, 1, none⟩ v1).setCell ⟨b, 2, none⟩ v2).setCell ⟨b, 3, none⟩ v3).setCell ⟨b, 4, none⟩ v4).setCell ⟨b, 5, none⟩ v5).setCell ⟨b, 6, none⟩ v6).setCell ⟨b, 7, none⟩ v7) :=
  (((((((h.setCell hb _).setCell hb _).setCell hb _).setCell hb _).setCell hb _).setCell hb _).setCell hb _).setCell hb _

set_option maxHeartbeats 1000000 in
set_option maxRecDepth 100000 in
theorem With_any (F : Fair) (R : Refs) (cs : List Int) (A : Option Addr) (c B : Nat) (w : World) (hB : B ≤ w.heap.size) (hc : Reads w B 1 A cs.length (intCells cs)) (hn : cs.length ≤ 1000) :
    Calls Try.prog 32 #[fairV F R, .slice A cs.length c] w (WithP w F R cs) := by
  obtain ⟨A1, c1, A2, c2, A3, c3⟩ := R
  obtain ⟨i0, hi, hz0, hz1, hz2⟩ := info_parts Try.info_intQ
  obtain ⟨W, hW⟩ : ∃ W, W = (w.alloc (.cells (fairCells F ⟨A1, c1, A2, c2, A3, c3⟩) 25)).alloc (.cells #[.int .i64 0, .int .i64 0, .slice none 0 0, .slice none 0 0, .slice none 0 0, .int .i64 0, .int .i64 0, .int .i64 0] 25) := ⟨_, rfl⟩
  have sW : W.heap.size = w.heap.size + 2 := by subst hW; simp
  have bW : Below w.heap.size w W := by subst hW; exact ((Below.refl _ _).alloc (Nat.le_refl _) _).alloc (by simp) _
  have rF : Row W w.heap.size 25 (fairCells F ⟨A1, c1, A2, c2, A3, c3⟩).toList := by subst hW; exact (Row.new _ _ _).alloc _
  have rR : Row W (w.heap.size + 1) 25 [.int .i64 0, .int .i64 0, .slice none 0 0, .slice none 0 0, .slice none 0 0, .int .i64 0, .int .i64 0, .int .i64 0] := by subst hW; exact row_nx _ _ _ _ (by simp)
  have m1 : 0 + cs.length ≤ maxLen := by unfold maxLen; omega
  have m2 : (0 + cs.length) * 8 ≤ 140737488355328 := by omega
  unfold fairV
  dsimp only
  go_enter Try.func32, Try.ntmps32
  go_wp2_with (at_builtin; refine wpList_app _ rfl _ _ 22 rfl (w.heap.size + 2) 3 i0 (.int .i64 0) 1 8 Try.underlying22 hi hz0 hz1 hz2 rfl (by decide) (.slice none 0 0) 0 [] rfl (owns_nil _ _ _ _) B A cs.length c (intCells cs) rfl ?qr ?q1 m1 m2 ?qb ?_)
  case qr => exact (hc.alloc hB _).alloc (by simp; omega) _
  case q1 => intro u hu; simp [intCells] at hu; obtain ⟨y, _, rfl⟩ := hu; rfl

  intro v' w1 hown hb1
  replace hb1 : Below (w.heap.size + 2) W w1 := by rw [hW]; exact hb1
  clear hW
  obtain ⟨A', c', rfl, hca⟩ := cash_of hown
  replace rF := rF.below hb1 (by omega)
  replace rR := rR.below hb1 (by omega)
  have s1 := hb1.size
  obtain ⟨fzF, q0, q1, q2, q3, q4, q5, q6, q7⟩ := row_8 rF
  obtain ⟨fzR, p0, p1, p2, p3, p4, p5, p6, p7⟩ := row_8 rR
  have z0 : w.heap.size < w1.heap.size := by omega
  have z1 : w.heap.size + 1 < w1.heap.size := by omega
  clear hown
  go_wp2_with fail
  refine bodyPost_ret (v := .agg #[.int .i64 F.purses, .int .i64 F.boxes, .slice A1 F.stock.length c1, .slice A' cs.length c', .slice A3 F.bundles.length c3, .int .i64 F.refund, .int .i64 F.band, .int .i64 F.hours]) (by simp [results, Try.results32, go_sem, *]) rfl ?_
  refine ⟨bel8 ((bW.trans (hb1.mono (by omega))).setCell (Nat.le_refl _) _) (by omega), A', c', rfl, ?_⟩
  refine hca.keep (fun g hg _ => ?_) (by omega)
  rw [far8 (by omega), Below.heap_setCell _ _ _ _ (by dsimp only; omega)]
end Go.Proofs.Ytonbaikdpcmbiaa
namespace Go.Proofs.Ytonbaikdpcmbiaa
open Go.RowKit

def fillR (cs : List Int) (j : Nat) : List Int := List.replicate j 1000000 ++ cs.drop j
theorem fillR_len (cs : List Int) (j : Nat) (h : j ≤ cs.length) : (fillR cs j).length = cs.length := by simp [fillR]; omega
theorem fillR_set (cs : List Int) (j : Nat) (h : j < cs.length) : (fillR cs j).set j 1000000 = fillR cs (j + 1) := by
  simp only [fillR]
  rw [List.set_append_right _ _ (by simp), List.length_replicate, Nat.sub_self, List.drop_eq_getElem_cons h, List.set_cons_zero, List.replicate_succ', List.append_assoc]
  rfl
theorem fillR_all (cs : List Int) : fillR cs cs.length = List.replicate cs.length 1000000 := by simp [fillR]
/-- What is needed behind k rounds. -/
def needPre (F : Fair) (l : List Deal) : Nat → List Int
  | 0 => List.replicate F.cash.length 0
  | k + 1 => needK F l k
/-- A count in a block of its own, in new memory. -/
def FMid (V : World) (C : Count) (s13 : Value) (wx : World) : Prop :=
  ∃ g K, s13 = .pointer (some ⟨g, 0, none⟩) ∧ V.heap.size ≤ g ∧ Below V.heap.size V wx ∧ Row wx g 35 (countL C K) ∧ CountIn wx wx.heap.size C K ∧ CFresh V.heap.size K
theorem FMid_intro {V wx : World} {C : Count} {s13 : Value} (g : Nat) (K : CRefs) (h1 : s13 = .pointer (some ⟨g, 0, none⟩)) (h2 : V.heap.size ≤ g) (h3 : Below V.heap.size V wx) (h4 : Row wx g 35 (countL C K)) (h5 : CountIn wx wx.heap.size C K) (h6 : CFresh V.heap.size K) : FMid V C s13 wx := ⟨g, K, h1, h2, h3, h4, h5, h6⟩

theorem pre_go {F : Fair} {l : List Deal} (h : errS F l = 0) (k : Nat) : ∃ t, goS F l k = some (playS F (l.take k), t) := by
  obtain ⟨_, _, C, t, h1, h2⟩ := err_parts (begin_ok h k)
  refine ⟨t, ?_⟩
  rw [h2, ← h1]
  unfold goS
  rw [List.take_length]
theorem needPre_len {F : Fair} {l : List Deal} (he : errS (richS F) l = 0) (k : Nat) (hk : k ≤ l.length + 1) : (needPre (richS F) l k).length = F.cash.length := by
  cases k with
  | zero => simp [needPre]
  | succ k =>
    obtain ⟨h1, h2, _⟩ := err_zero he
    obtain ⟨t, ht⟩ := pre_go he k
    have := (needK_facts h1 (fun i hi => geti_repl _ _ _ (by simpa [withC] using hi)) h2 k (by omega) ⟨_, ht⟩).1
    simpa [needPre, withC] using this
theorem needPre_step {F : Fair} {l : List Deal} (he : errS (richS F) l = 0) (k : Nat) (hk : k ≤ l.length) : needPre (richS F) l (k + 1) = maxC (needPre (richS F) l k) (playS (richS F) (l.take k)).cash := by
  obtain ⟨t, ht⟩ := pre_go he k
  cases k with
  | zero =>
    have h0 : goS (richS F) l 0 = some (beginS (richS F), 0) := by simp [goS, runS]
    rw [h0] at ht
    simp only [Option.some.injEq, Prod.mk.injEq] at ht
    rw [← ht.1]
    simp only [needPre, needK, maxC, beginS, List.length_replicate, List.zipWith_replicate, Nat.min_self]
    rfl
  | succ k => simp only [needPre]; exact needK_succ _ _ _ _ _ ht

set_option maxHeartbeats 2000000 in
set_option maxRecDepth 100000 in
theorem rFloat_any (F : Fair) (R : Refs) (l : List Deal) (A : Option Addr) (c B : Nat) (w : World) (hB : B ≤ w.heap.size) (hF : FairIn w B F R) (hl : Reads w B 5 A l.length (dealCells l)) (hn : l.length ≤ maxLen) (hcap : l.length ≤ c) :
    Calls Try.prog 31 #[fairV F R, .slice A l.length c] w (FloatPost w F l) := by
  obtain ⟨A1, c1, A2, c2, A3, c3⟩ := R
  obtain ⟨i0, hi, hz0, hz1, hz2⟩ := info_parts Try.info_intQ
  obtain ⟨W, hW⟩ : ∃ W, W = w.alloc (.cells (fairCells F ⟨A1, c1, A2, c2, A3, c3⟩) 25) := ⟨_, rfl⟩
  have sW : W.heap.size = w.heap.size + 1 := by subst hW; simp
  have bW : Below w.heap.size w W := by subst hW; exact (Below.refl _ _).alloc (Nat.le_refl _) _
  have rF : Row W w.heap.size 25 (fairCells F ⟨A1, c1, A2, c2, A3, c3⟩).toList := by subst hW; exact Row.new _ _ _
  unfold fairV
  dsimp only
  go_enter Try.func31, Try.ntmps31
  go_wp2_with fail
  rw [← hW]
  clear hW
  refine (rCheck_any F ⟨A1, c1, A2, c2, A3, c3⟩ W B (by omega) (hF.below (bW.mono hB))).mono ?_
  rintro e w1 ⟨rfl, hb1⟩
  have b1 := below_step bW hb1
  have s1 := hb1.size
  replace rF := rF.below hb1 rF.lt
  cases hv : validB F with
  | false =>
    have hq : Hid (floatS F l = ([], 10)) := by show _ = _; simp [floatS, hv]
    have he : chkE F = 10 := by simp [chkE, hv]
    rw [he]
    go_wp2_with fail
    go_ret2
    exact ⟨b1, none, 0, 0, by rw [hq.out]; rfl, by rw [hq.out]; exact Reads.none_, by omega⟩
  | true =>
    have he : chkE F = 0 := by simp [chkE, hv]
    rw [he]
    clear he
    have hbd := bounds_of hv
    have hcl := hbd.c
    have hs8 := hbd.s2
    have hs1 := hbd.s1
    have hc8 : F.cash.length ≤ 8 := by omega
    have hc1 : 1 ≤ F.cash.length := by omega
    have Hcl := Lib.hid hcl
    clear hcl
    obtain ⟨fz, q0, q1, q2, q3, q4, q5, q6, q7⟩ := row_8 rF
    have zF := rF.lt
    go_wp2_with fail
    refine (With_any F ⟨A1, c1, A2, c2, A3, c3⟩ F.cash A2 c2 B w1 (by omega) (hF.below (b1.mono hB)).s2 (by omega)).mono ?_
    rintro e w2 ⟨hb2, A', c', rfl, hca⟩
    obtain ⟨g, rfl, hg, rg⟩ : ∃ g, A' = some ⟨g, 0, none⟩ ∧ w1.heap.size ≤ g ∧ Row w2 g 3 (intCells F.cash) := by
      rcases hca with h | h
      · omega
      · exact h
    have b2 := below_step b1 hb2
    have s2 := hb2.size
    have zg := rg.lt
    replace rF := rF.below hb2 rF.lt
    obtain ⟨m, hm⟩ : ∃ m, m = F.cash.length := ⟨_, rfl⟩
    have hm8 : m ≤ 8 := by omega
    have Hm := Lib.hid hm
    unfold fairV
    dsimp only [withC]
    rw [← hm]
    clear q0 q1 q2 q3 q4 q5 q6 q7 hm hca
    go_wp2_with fail
    go_loopw [8] (fun i wr => ∃ j : Nat, j ≤ m ∧ i = .int .i64 j ∧ Below w.heap.size w wr ∧ w2.heap.size < wr.heap.size ∧ Row wr w.heap.size 25 (fairCells F ⟨A1, c1, A2, c2, A3, c3⟩).toList ∧ Row wr w2.heap.size 25 [.int .i64 F.purses, .int .i64 F.boxes, .slice A1 F.stock.length c1, .slice (some ⟨g, 0, none⟩) m c', .slice A3 F.bundles.length c3, .int .i64 F.refund, .int .i64 F.band, .int .i64 F.hours] ∧ Row wr g 3 (intCells (fillR F.cash j))) (fun i _ => m - (intOf i).toNat)
    case atStart => exact ⟨0, Nat.zero_le _, rfl, b2.alloc b2.size _, by simp, rF.alloc _, Row.new _ _ _, by simpa [fillR] using rg.alloc _⟩
    case round =>
      obtain ⟨j, hj, rfl, hbel, hsz, rB, rR, rC⟩ := hrel
      have zB := rB.lt
      have hjl : j ≤ F.cash.length := by rw [← Hm.out]; exact hj
      obtain ⟨fzR, q0, q1, q2, q3, q4, q5, q6, q7⟩ := row_8 rR
      have sR := hbel.size
      by_cases hlt : j < m
      · have hlt' : (j : Int) < (m : Int) := by omega
        have hjc : j < F.cash.length := by rw [← Hm.out]; exact hlt
        have hfz := rC.frozen
        have c1' := int_at2 rC (k := j) (by rw [fillR_len _ _ hjl]; exact hjc)
        have hset := rC.set j (.int .i64 1000000)
        rw [int_set2, fillR_set _ _ hjc] at hset
        have Hset := Lib.hid hset
        clear hset
        go_wp2_with fail
        go_roundw
        case rel =>
          exact ⟨j + 1, by omega, by go_num, hbel.setCell (by dsimp only; omega) _, by simpa [World.setCell] using hsz, rB.far (by dsimp only; omega) _, rR.far (by dsimp only; omega) _, Hset.out⟩
        case measure => simp [intOf]; omega
      · have hge : ¬ (j : Int) < (m : Int) := by omega
        have ej : j = m := by omega
        subst ej
        have hjc := Hm.out
        have e1 : (richS F).cash.length = j := by simp [hjc]
        rw [hjc, fillR_all] at rC
        have hFr : FairIn wr wr.heap.size (richS F) ⟨A1, c1, some ⟨g, 0, none⟩, c', A3, c3⟩ := by
          have bB : Below B w wr := hbel.mono hB
          refine ⟨(hF.s1.below bB).more (by omega), ?_, (hF.s3.below bB).more (by omega), hF.l1, ?_, hF.l3⟩
          · rw [e1]
            dsimp only [withC]
            exact rC.reads (by simp [intCells, hjc]) (by omega)
          · rw [e1]; unfold maxLen; omega
        have hlr := (hl.below (hbel.mono hB)).more (show B ≤ wr.heap.size by omega)
        have HC : Calls Try.prog 19 #[.agg #[.int .i64 F.purses, .int .i64 F.boxes, .slice A1 F.stock.length c1, .slice (some ⟨g, 0, none⟩) j c', .slice A3 F.bundles.length c3, .int .i64 F.refund, .int .i64 F.band, .int .i64 F.hours], .slice A l.length c] wr (fun e w' => e = .returned (.tuple #[.int .i64 (atS (richS F) l), .int .i64 (errS (richS F) l)]) ∧ Below wr.heap.size wr w') := by
          have h := rCheckDeals_any (richS F) ⟨A1, c1, some ⟨g, 0, none⟩, c', A3, c3⟩ l A c wr.heap.size wr (Nat.le_refl _) hFr hlr hn
          unfold fairV at h
          rw [e1] at h
          exact h
        have HCC := Lib.hid HC
        have E1 := Lib.hid e1
        clear HC e1 hjc
        go_wp2_with fail
        refine HCC.out.mono ?_
        rintro e w4 ⟨rfl, hb4⟩
        have s4 := hb4.size
        have b4 := below_step hbel hb4
        replace rB := rB.below hb4 zB
        replace rR := rR.below hb4 rR.lt
        have hF4 := (hFr.below hb4)
        have hl4 := hlr.below hb4
        clear q0 q1 q2 q3 q4 q5 q6 q7
        obtain ⟨fzB, y0, y1, y2, y3, y4, y5, y6, y7⟩ := row_8 rB
        replace y3 : w4.cell? ⟨w.heap.size, 3, none⟩ = some (.slice A2 j c2) := by rw [Hm.out]; exact y3
        by_cases herr : errS (richS F) l = 0
        case neg =>
          have hq : Hid (floatS F l = ([], errS (richS F) l)) := by show _ = _; simp [floatS, hv, herr]
          have he' : (errS (richS F) l != 0) = true := by simpa using herr
          clear herr
          go_wp2_with fail
          go_ret2
          exact ⟨b4, none, 0, 0, by rw [hq.out]; rfl, by rw [hq.out]; exact Reads.none_, by omega⟩
        have hq : Hid (floatS F l = (needK (richS F) l l.length, 0)) := by show _ = _; simp [floatS, hv, herr]
        have Herr := Lib.hid herr
        have hmk := fun X => run_make_rowN (P := Try.prog) 22 3 i0 _ Try.underlying22 hi hz0 .i64 .i64 j j (Nat.le_refl _) (by rw [hz2]; omega) (by omega) X
        rw [hz1, Nat.mul_one] at hmk
        rw [herr]
        clear herr
        go_wp2_with fail
        obtain ⟨X, hX⟩ : ∃ X, X = w4.alloc (.cells (madeCells #[.int .i64 0] j) 3) := ⟨_, rfl⟩
        rw [← hX]
        have sX : X.heap.size = w4.heap.size + 1 := by subst hX; simp
        have bX : Below w.heap.size w X := by subst hX; exact b4.alloc b4.size _
        have rNX : Row X w4.heap.size 3 (intCells (List.replicate j 0)) := by subst hX; exact new_ints _ _ _ rfl
        have rRX : Row X w2.heap.size 25 [.int .i64 F.purses, .int .i64 F.boxes, .slice A1 F.stock.length c1, .slice (some ⟨g, 0, none⟩) j c', .slice A3 F.bundles.length c3, .int .i64 F.refund, .int .i64 F.band, .int .i64 F.hours] := by subst hX; exact rR.alloc _
        have hFX : FairIn X w4.heap.size (richS F) ⟨A1, c1, some ⟨g, 0, none⟩, c', A3, c3⟩ := by subst hX; exact (hF4.alloc (by omega) _).more (by omega)
        have hlX : Reads X w4.heap.size 5 A l.length (dealCells l) := by subst hX; exact (hl4.alloc (by omega) _).more (by omega)
        have z24 : w2.heap.size < w4.heap.size := rR.lt
        clear hX y0 y1 y2 y3 y4 y5 y6 y7 rB rR hF4 hl4 hFr hlr rC hmk
        obtain ⟨wo, rfl⟩ : ∃ wo : World, wo = wr := ⟨_, rfl⟩
        go_loopw [12] (fun n wr => ∃ k : Nat, k ≤ l.length + 1 ∧ n = .int .i64 k ∧ KeptBut [w4.heap.size] X wr ∧ Row wr w4.heap.size 3 (intCells (needPre (richS F) l k))) (fun n _ => l.length + 1 - (intOf n).toNat)
        case atStart => exact ⟨0, by omega, rfl, KeptBut.refl _ _, by simp only [needPre, E1.out]; exact rNX⟩
        case round =>
          obtain ⟨k, hk, rfl, hkp, rN⟩ := hrel
          obtain ⟨wy, rfl⟩ : ∃ wy : World, wy = wr := ⟨_, rfl⟩
          have sy := hkp.size
          have by4 : Below w4.heap.size X wy := hkp.to_below (by omega) (by simp)
          by_cases hle : k ≤ l.length
          · have hle' : (k : Int) ≤ (l.length : Int) := by omega
            have c1' : (0 : Int) ≤ (k : Int) := by omega
            have c2' : (k : Int) ≤ (c : Int) := by omega
            have c3' : k ≤ c := by omega
            have rRy := rRX.kept hkp (by simp; omega)
            have zRy := rRy.lt
            have zNy := rN.lt
            have HP : Hid (∀ x : World, Below wy.heap.size wy x → Calls Try.prog 49 #[.agg #[.int .i64 F.purses, .int .i64 F.boxes, .slice A1 F.stock.length c1, .slice (some ⟨g, 0, none⟩) j c', .slice A3 F.bundles.length c3, .int .i64 F.refund, .int .i64 F.band, .int .i64 F.hours], .slice A k c] x fun e w' => PdPost x (richS F) (l.take k) e w' ∧ Below wy.heap.size wy w') := fun x hx => by
              have h := played_pre (richS F) ⟨A1, c1, some ⟨g, 0, none⟩, c', A3, c3⟩ l k hle A c w4.heap.size wy x (by omega) (hFX.below by4) (hlX.below by4) Herr.out hx
              unfold fairV at h
              rw [E1.out] at h
              exact h
            obtain ⟨fy, q0, q1, q2, q3, q4, q5, q6, q7⟩ := row_8 rRy
            go_upto_region 16 with (fail)
            go_cut [13] (fun s13 wx => FMid wy (playS (richS F) (l.take k)) s13 wx)
            case first =>
              have ne1 : ¬ wy.heap.size = w2.heap.size := by omega
              have ne2 : ¬ w2.heap.size = wy.heap.size := by omega
              go_region_held3 (fun x => x.cell? ⟨w2.heap.size, 0, none⟩ = some (.int .i64 F.purses) ∧ x.cell? ⟨w2.heap.size, 1, none⟩ = some (.int .i64 F.boxes) ∧ x.cell? ⟨w2.heap.size, 2, none⟩ = some (.slice A1 F.stock.length c1) ∧ x.cell? ⟨w2.heap.size, 3, none⟩ = some (.slice (some ⟨g, 0, none⟩) j c') ∧ x.cell? ⟨w2.heap.size, 4, none⟩ = some (.slice A3 F.bundles.length c3) ∧ x.cell? ⟨w2.heap.size, 5, none⟩ = some (.int .i64 F.refund) ∧ x.cell? ⟨w2.heap.size, 6, none⟩ = some (.int .i64 F.band) ∧ x.cell? ⟨w2.heap.size, 7, none⟩ = some (.int .i64 F.hours)) (go_keep) (first
                | (go_at_call 49; go_must (refine (HP.out _ ?_).mono ?_; (first | exact Below.refl _ _ | exact Below.drew (Below.refl _ _) | exact below_drewN (Below.refl _ _) _ | exact Below.alloc (Below.refl _ _) (Nat.le_refl _) _ | exact Below.drew (Below.alloc (Below.refl _ _) (Nat.le_refl _) _) | exact below_drewN (Below.alloc (Below.refl _ _) (Nat.le_refl _) _) _); rintro e x3 ⟨⟨hb3, ⟨G1, g1, G2, g2, G3, g3, G4, g4⟩, rfl, hC, hf⟩, bx3⟩; obtain ⟨_, q0, q1, q2, q3, q4, q5, q6, q7⟩ := row_8 (Row.below rRy bx3 zRy); (first | (have rz : Row x3 wy.heap.size 35 zeroC5.toList := Row.below (row_new wy _ zeroC5 _ rfl) hb3 (al_lt _ _); obtain ⟨fz, z0, z1, z2, z3, z4⟩ := Row.at_5 rz) | (have rz : Row x3 wy.heap.size 35 zeroC5.toList := Row.below (Row.drew (row_new wy _ zeroC5 _ rfl)) hb3 (al_lt' _ _); obtain ⟨fz, z0, z1, z2, z3, z4⟩ := Row.at_5 rz) | (have rz : Row x3 wy.heap.size 35 zeroC5.toList := Row.below (row_new wy.drew _ zeroC5 _ rfl) hb3 (al_lt _ _); obtain ⟨fz, z0, z1, z2, z3, z4⟩ := Row.at_5 rz) | skip))))
              all_goals
                go_wp2_with fail
                go_meet
                refine FMid_intro _ ⟨G1, g1, G2, g2, G3, g3, G4, g4⟩ rfl ?_ ?_ ?_ ?_ ?_
                · first | (with_reducible exact Nat.le_refl _) | (with_reducible exact bx3.size)
                · first | (with_reducible exact Below.alloc bx3 bx3.size _) | (with_reducible exact belr5 bx3 (Nat.le_refl _))
                · simp only [countL]
                  first | (with_reducible exact rowr5) | (with_reducible exact setr5 rz)
                · first | (with_reducible exact countAl hC _) | (with_reducible exact cofr5 hC (off_fresh hf (al_lt _ _))) | (with_reducible exact cofr5 hC (off_fresh hf (al_lt' _ _)))
                · exact hf.mono (by simp)
            case rest =>
              obtain ⟨g2, ⟨G1, g1, G2, k2, G3, g3, G4, g4⟩, e13, hg2, bM, rM, hCM, hfM⟩ := hcut
              subst e13
              obtain ⟨tk, hgo⟩ := pre_go Herr.out k
              obtain ⟨h1v, h200, _⟩ := err_zero Herr.out
              obtain ⟨inv, _⟩ := go_inv h1v h200 hgo
              have hnp := needPre_len Herr.out k hk
              have hstep := needPre_step Herr.out k hle
              have ncs := inv.n2
              have ncs2 : (playS (richS F) (l.take k)).cash.length = j := by rw [ncs]; dsimp only [withC]; rw [← Hcl.out, ← Hm.out]
              rw [← Hm.out] at hnp
              have cb : ∀ i : Nat, i < j → 0 ≤ geti (playS (richS F) (l.take k)).cash i ∧ geti (playS (richS F) (l.take k)).cash i ≤ 1000000000 := fun i hi => cash_bd inv (by dsimp only [withC]; rw [← Hcl.out, ← Hm.out]; exact hi)
              have rNc := rN.below bM zNy
              have hs2 := hCM.s2
              have hg4 : ¬ g2 = w4.heap.size := by omega
              have rM1 : Row wc g2 35 (countL (playS (richS F) (l.take k)) ⟨G1, g1, G2, k2, G3, g3, G4, g4⟩) := rM
              clear hgo inv ncs hFX hlX HP q0 q1 q2 q3 q4 q5 q6 q7 hCM rM
              generalize playS (richS F) (l.take k) = C at *
              generalize needPre (richS F) l k = np at *
              have Hstep := Lib.hid hstep
              have Hncs := Lib.hid ncs2
              have Hnp := Lib.hid hnp
              clear hstep ncs2 hnp
              go_wp2_with fail
              go_loopw [14] (fun i wr => ∃ q : Nat, q ≤ j ∧ i = .int .i64 q ∧ KeptBut [w4.heap.size] wc wr ∧ Row wr w4.heap.size 3 (intCells (mixN np C.cash q))) (fun i _ => j - (intOf i).toNat)
              case atStart => exact ⟨0, Nat.zero_le _, rfl, KeptBut.refl _ _, by rw [mixN_zero]; exact rNc⟩
              case round =>
                obtain ⟨q, hq, rfl, hkz, rNz⟩ := hrel
                by_cases hqj : q < j
                · have hqj' : (q : Int) < (j : Int) := by omega
                  have rMz := rM1.kept hkz (by simpa using hg4)
                  have v1 : wr.cell? ⟨g2, 1, none⟩ = some (.slice G2 C.cash.length k2) := rMz.cell (j := 1) (by simp)
                  rw [Hncs.out] at v1
                  obtain ⟨bc, oc, hG, hbc, hcc⟩ := hs2.at1 (show q < C.cash.length by rw [Hncs.out]; exact hqj)
                  have hbc4 : wy.heap.size ≤ bc := hfM bc oc (by simp [hG])
                  have c0 : wr.cell? ⟨bc, oc + q, none⟩ = some (.int .i64 (geti C.cash q)) := (World.cell?_of_block (w := wc) (hkz.block bc hbc (by simp; omega))).trans (hcc q (by rw [Hncs.out]; exact hqj))
                  rw [hG] at v1
                  have c1 := int_at2 rNz (k := q) (by rw [mixN_len _ _ _ (by rw [Hnp.out, Hncs.out]) (by rw [Hnp.out]; exact hq), Hnp.out]; exact hqj)
                  rw [mixN_at _ _ _ (by rw [Hnp.out, Hncs.out]) (by rw [Hnp.out]; exact hqj)] at c1
                  have hfz := rNz.frozen
                  have hgl := rNz.lt
                  have hb1' := cb q hqj
                  have ew : wrap64 (1000000 - geti C.cash q) = 1000000 - geti C.cash q := wrap64_id (by omega) (by omega)
                  have Hsn := Lib.hid (mixN_succ np C.cash q (by rw [Hnp.out, Hncs.out]) (by rw [Hnp.out]; exact hqj))
                  have w1' : IntKind.i64.wrap (1000000 - geti C.cash q) = 1000000 - geti C.cash q := (i64w2 _).trans ew
                  have HG := Lib.hid hG
                  clear hG hb1' hcc
                  generalize geti np q = nj at *
                  generalize hx1 : (1000000 - geti C.cash q) = x1 at *
                  have Hx1 := Lib.hid hx1
                  have Hew := Lib.hid ew
                  clear hx1 ew
                  by_cases hless : nj < x1
                  · have Hmx : Hid (max nj x1 = if nj < wrap64 x1 then wrap64 x1 else nj) := by show _ = _; rw [Hew.out, if_pos hless]; omega
                    go_wp2_with fail
                    refine wp_tail 14 (by kernel_rfl) (by kernel_rfl) ?_
                    simp only [List.take_succ_cons, List.take_zero, List.drop_succ_cons, List.drop_zero]
                    repeat still_step
                    refine wpStill_nil ?_
                    clear w1'
                    go_wp2_with fail
                    go_roundw
                    case rel => exact ⟨q + 1, by omega, by go_num, (hkz.drewN _).set (by simp) _, by
                      rw [Hsn.out, Hx1.out, Hmx.out]
                      have h3 := (rNz.drewN 1).set q (.int .i64 (if nj < wrap64 x1 then wrap64 x1 else nj))
                      rw [int_set2] at h3
                      with_reducible exact h3⟩
                    case measure => simp [intOf]; omega
                  · have Hmx : Hid (max nj x1 = if nj < wrap64 x1 then wrap64 x1 else nj) := by show _ = _; rw [Hew.out, if_neg hless]; omega
                    go_wp2_with fail
                    refine wp_tail 14 (by kernel_rfl) (by kernel_rfl) ?_
                    simp only [List.take_succ_cons, List.take_zero, List.drop_succ_cons, List.drop_zero]
                    repeat still_step
                    refine wpStill_nil ?_
                    clear w1'
                    go_wp2_with fail
                    go_roundw
                    case rel => exact ⟨q + 1, by omega, by go_num, (hkz.drewN _).set (by simp) _, by
                      rw [Hsn.out, Hx1.out, Hmx.out]
                      have h3 := (rNz.drewN 1).set q (.int .i64 (if nj < wrap64 x1 then wrap64 x1 else nj))
                      rw [int_set2] at h3
                      with_reducible exact h3⟩
                    case measure => simp [intOf]; omega
                · have hge2 : ¬ (q : Int) < (j : Int) := by omega
                  have eq : q = j := by omega
                  rw [eq, mixN_all _ _ _ (by rw [Hnp.out]; exact Nat.le_refl _) (by rw [Hncs.out]; exact Nat.le_refl _)] at rNz
                  clear eq
                  go_wp2_with fail
                  go_roundw
                  case rel => exact ⟨k + 1, by omega, by go_num, (hkp.below bM).trans hkz, by rw [Hstep.out]; exact rNz⟩
                  case measure => simp [intOf]; omega
          · have hge : ¬ (k : Int) ≤ (l.length : Int) := by omega
            have ek : k = l.length + 1 := by omega
            have hnp := needPre_len Herr.out k hk
            rw [ek, ← Hm.out] at hnp
            rw [ek] at rN
            have bfin := bX.trans (by4.mono (by omega))
            have Hnp := Lib.hid hnp
            clear ek hnp
            go_wp2_with fail
            go_ret2
            refine ⟨bfin, some ⟨w4.heap.size, 0, none⟩, j, j, by rw [hq.out]; rfl, ?_, hm8⟩
            rw [hq.out]
            exact rN.reads (by simpa [intCells, needPre] using Hnp.out) (by omega)
end Go.Proofs.Ytonbaikdpcmbiaa
