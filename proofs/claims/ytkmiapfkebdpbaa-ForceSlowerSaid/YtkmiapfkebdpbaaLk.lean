/- Contracts of run and Run. Conditions: the arguments read as data. -/
import Derived.Test.YtkmiapfkebdpbaaLj
namespace Go.Proofs.Ytkmiapfkebdpbaa
open Go.RowKit

theorem runI_step {t : List Pt} {l : List Int} {k : Nat} (h : k < l.length) (ph bf : Int) : runI t (l.drop k) ph bf = feltI t ph bf (l[k]?.getD 0) :: runI t (l.drop (k + 1)) (ph + l[k]?.getD 0) (l[k]?.getD 0) := by
  rw [drop_at h]; rfl
theorem ptCells_app (a : List Pt) (p : Pt) : ptCells (a ++ [p]) = ptCells a ++ [.int .i64 p.x, .int .i64 p.y, .int .i64 p.z] := by simp [ptCells]
theorem owns_heap {w w' : World} {base : Nat} {e : TypeId} {size n : Nat} {v : Value} {xs : List Value} (h : w.ownsRow base e size v n xs) (hk : ∀ g, base ≤ g → g < w.heap.size → w'.heap[g]? = w.heap[g]?) : w'.ownsRow base e size v n xs := by
  refine ⟨h.1, ?_⟩
  rcases h.2 with h2 | ⟨g, cap, cur, hv, hb, hg, hr⟩
  · exact .inl h2
  · exact .inr ⟨g, cap, cur, hv, hb, (hk g hb (Array.getElem?_eq_some_iff.1 hg).1).trans hg, hr⟩
def RnPost (w : World) (L : List Pt) (e : Ending) (w' : World) : Prop := Below w.heap.size w w' ∧ ∃ A c, e = .returned (.slice A L.length c) ∧ Reads w' w'.heap.size 3 A L.length (ptCells L)

set_option maxRecDepth 100000 in
set_option maxHeartbeats 4000000 in
theorem run_any (t : List Pt) (l : List Int) (A A2 : Option Addr) (c c2 B : Nat) (w : World) (hB : B ≤ w.heap.size) (hr : Reads w B 3 A t.length (ptCells t)) (ht : pathB t = true) (hl : Reads w B 1 A2 l.length (nums l)) (hn : l.length ≤ 400) (hs : ∀ k, k < l.length → 0 ≤ l[k]?.getD 0 ∧ l[k]?.getD 0 ≤ 10) :
    Calls Try.prog 63 #[.slice A t.length c, .slice A2 l.length c2] w (RnPost w (runI t l 0 0)) := by
  obtain ⟨i0, hi, hz0, hz1, hz2⟩ := info_parts Try.info_pt
  obtain ⟨W, hW⟩ : ∃ W, W = w.alloc (.cells #[.int .i64 0, .int .i64 0, .int .i64 0] 24) := ⟨_, rfl⟩
  have bW : Below w.heap.size w W := by subst hW; exact (Below.refl _ _).alloc (Nat.le_refl _) _
  have rW : Row W w.heap.size 24 [.int .i64 0, .int .i64 0, .int .i64 0] := by subst hW; exact Row.new w _ _
  obtain ⟨n, hnl⟩ : ∃ n, n = l.length := ⟨_, rfl⟩
  rw [← hnl] at hl hn hs ⊢
  have Hnl := Lib.hid hnl
  have Hs := Lib.hid hs
  clear hnl hs
  go_enter Try.func63, Try.ntmps63
  go_wp2_with fail
  rw [← hW]
  clear hW
  go_loopw [5, 12] (fun v i wr => ∃ (k : Nat) (ph bf af : Int) (done : List Pt), k ≤ n ∧ i = .int .i64 k ∧ done.length = k ∧ (0 ≤ ph ∧ ph ≤ 10 * (k : Int)) ∧ (0 ≤ bf ∧ bf ≤ 10) ∧ runI t l 0 0 = done ++ runI t (l.drop k) ph bf ∧ wr.ownsRow (w.heap.size + 1) 28 3 v done.length (ptCells done) ∧ Below w.heap.size w wr ∧ Row wr w.heap.size 24 [.int .i64 ph, .int .i64 bf, .int .i64 af]) (fun _ i _ => n - (intOf i).toNat)
  case atStart => exact ⟨0, 0, 0, 0, [], Nat.zero_le _, rfl, rfl, ⟨by omega, by omega⟩, ⟨by omega, by omega⟩, by simp, owns_nil _ _ _ _, bW, rW⟩
  case round =>
    obtain ⟨k, ph, bf, af, done, hk, rfl, hdl, hph, hbf, hrun, hown, hbel, rr⟩ := hrel
    have Hrun := Lib.hid hrun
    have Hdl := Lib.hid hdl
    clear hrun hdl
    obtain ⟨fR, q0, q1, q2⟩ := Row.at_3 rr
    have zr := rr.lt
    by_cases hlt : k < n
    · obtain ⟨b, o, rfl, hb, c0⟩ := (hl.below (hbel.mono hB)).at1n hlt
      have hs := Hs.out k hlt
      have Hst := Lib.hid (runI_step (t := t) (l := l) (k := k) (by have := Hnl.out; omega) ph bf)
      obtain ⟨s, hse⟩ : ∃ s, s = l[k]?.getD 0 := ⟨_, rfl⟩
      rw [← hse] at c0 hs
      have Hse := Lib.hid hse
      clear hse
      have e1 : IntKind.i64.wrap (ph + s) = ph + s := IntWalk.i64_in _ (by omega)
      have e3 : IntKind.i64.wrap ((k : Int) + 1) = (k : Int) + 1 := IntWalk.i64_in _ (by omega)
      have hkl : (k : Int) < (n : Int) := by omega
      obtain ⟨X, hX⟩ : ∃ X, X = wr.setCell ⟨w.heap.size, 2, none⟩ (.int .i64 s) := ⟨_, rfl⟩
      have bX : Below w.heap.size w X := by subst hX; exact hbel.setCell (p := ⟨w.heap.size, 2, none⟩) (Nat.le_refl _) _
      have rX : Row X w.heap.size 24 [.int .i64 ph, .int .i64 bf, .int .i64 s] := by subst hX; exact rr.set 2 _
      have oX : X.ownsRow (w.heap.size + 1) 28 3 u5 done.length (ptCells done) := by
        subst hX
        exact owns_heap hown fun g hg _ => Below.heap_setCell wr ⟨w.heap.size, 2, none⟩ _ g (show g ≠ w.heap.size by omega)
      have hfe := felt_in t ph bf s A c B X (by have := bX.size; omega) (hr.below (bX.mono hB)) ht (by omega) (by omega) (by omega)
      unfold chgV at hfe
      go_upto_region 7 with (fail)
      rw [← hX]
      clear hX q0 q1 q2 fR
      obtain ⟨fR, q0, q1, q2⟩ := Row.at_3 rX
      have zX := rX.lt
      go_wp2_with fail
      refine hfe.mono ?_
      rintro e w1 ⟨rfl, hb1⟩
      have b1 := bX.trans (hb1.mono bX.size)
      have r1 := rX.below hb1 zX
      have o1 : w1.ownsRow (w.heap.size + 1) 28 3 u5 done.length (ptCells done) := by
        exact owns_heap oX fun g _ hg => hb1.block g hg
      obtain ⟨p, hp⟩ : ∃ p, p = feltI t ph bf s := ⟨_, rfl⟩
      rw [← hp]
      have Hp := Lib.hid hp
      clear hp q0 q1 q2 fR
      obtain ⟨fR, q0, q1, q2⟩ := Row.at_3 r1
      have z1 := r1.lt
      have m1 : done.length + 1 ≤ maxLen := by rw [Hdl.out]; unfold maxLen; omega
      have m2 : (done.length + 1) * 24 ≤ 140737488355328 := by rw [Hdl.out]; omega
      unfold ptV
      go_wp2_with (at_builtin; refine wpList_app _ rfl _ _ 22 rfl (w.heap.size + 1) 28 i0 (.agg #[.int .i64 0, .int .i64 0, .int .i64 0]) 3 24 Try.underlying22 hi hz0 hz1 hz2 rfl (by decide) u5 done.length (ptCells done) rfl ?qo (w1.heap.size + 1) (some ⟨w1.heap.size, 0, none⟩) 1 1 (ptCells [p]) rfl ?qr ?qq m1 m2 ?qb ?_)
      case qo => exact owns_alloc o1 _
      case qr => exact Row.reads (t := 28) (row_one _ _ _ _ rfl) rfl (by omega)
      case qq => intro u' hu'; simp [ptCells] at hu'; rcases hu' with rfl | rfl | rfl <;> rfl
      case qb => simp; omega
      intro v' w4 hown' hbel'
      have bA := b1.alloc b1.size (.cells #[.int .i64 p.x, .int .i64 p.y, .int .i64 p.z] 28)
      have b4 := bA.trans (hbel'.mono (by omega))
      have r4 := (r1.alloc (.cells #[.int .i64 p.x, .int .i64 p.y, .int .i64 p.z] 28)).below hbel' (by omega)
      clear q0 q1 q2 fR
      obtain ⟨fR, q0, q1, q2⟩ := Row.at_3 r4
      have z4 := r4.lt
      go_wp2_with fail
      go_roundw
      case rel =>
        refine ⟨k + 1, ph + s, s, s, done ++ [p], by omega, by go_num, by simp [Hdl.out], by omega, hs, ?_, ?_, ?_, ?_⟩
        · rw [Hrun.out, Hst.out, ← Hse.out, ← Hp.out]; simp
        · rw [ptCells_app]
          refine owns_heap (w := w4) ?_ fun g hg _ => ?_
          · simpa [ptCells] using hown'
          · exact (Below.heap_setCell _ ⟨w.heap.size, 1, none⟩ _ g (show g ≠ w.heap.size by omega)).trans (Below.heap_setCell _ ⟨w.heap.size, 0, none⟩ _ g (show g ≠ w.heap.size by omega))
        · exact (b4.setCell (p := ⟨w.heap.size, 0, none⟩) (Nat.le_refl _) _).setCell (p := ⟨w.heap.size, 1, none⟩) (Nat.le_refl _) _
        · exact (r4.set 0 _).set 1 _
      case measure => simp [intOf]; omega
    · obtain rfl : k = n := by omega
      have hkl : ¬ (k : Int) < (k : Int) := by omega
      have hown2 := own_reads hown
      obtain ⟨A', c', hA, hrd⟩ := hown2
      subst hA
      have HL : Hid (runI t l 0 0 = done) := by show _ = _; rw [Hrun.out, List.drop_of_length_le (by have := Hnl.out; omega)]; simp [runI]
      go_wp2_with fail
      go_ret
      exact ⟨hbel, A', c', by rw [HL.out]; rfl, by rw [HL.out]; exact hrd⟩

def runS (t : List Pt) (m : Mot) (x : Lim) (l : List Int) : List Pt × Int × Int :=
  if limE t m x ≠ 0 then ([], 0, limE t m x) else if 300 < l.length then ([], 0, 2) else if badI m.top m.ease l ≠ -1 then ([], badI m.top m.ease l, 1) else if beyondI x (runI t l 0 0) ≠ -1 then ([], beyondI x (runI t l 0 0), 32) else (runI t l 0 0, 0, 0)
def RuPost (w : World) (t : List Pt) (m : Mot) (x : Lim) (l : List Int) (e : Ending) (w' : World) : Prop :=
  Below w.heap.size w w' ∧ ∃ A c, e = .returned (.tuple #[.slice A (runS t m x l).1.length c, .int .i64 (runS t m x l).2.1, .int .i64 (runS t m x l).2.2]) ∧ Reads w' w'.heap.size 3 A (runS t m x l).1.length (ptCells (runS t m x l).1)
theorem bad_none {top ease : Int} {l : List Int} (h : badI top ease l = -1) : badN top ease l 0 = none := by
  unfold badI at h
  split at h
  · assumption
  · omega
theorem bad_can {top ease : Int} : ∀ (l : List Int) (bf : Int), badN top ease l bf = none → ∀ k, k < l.length → 0 ≤ l[k]?.getD 0 ∧ l[k]?.getD 0 ≤ top := by
  intro l
  induction l with
  | nil => intro bf _ k hk; simp at hk
  | cons s l ih =>
    intro bf h k hk
    simp only [badN] at h
    by_cases hc : canB top ease bf s = true
    · rw [if_pos hc] at h
      cases k with
      | zero =>
        simp only [canB, Bool.and_eq_true, decide_eq_true_eq] at hc
        simp
        omega
      | succ k =>
        have := ih s (by simpa using h) k (by simpa using hk)
        simpa using this
    · rw [if_neg hc] at h; cases h
theorem runI_felt {t : List Pt} (h : ∀ p ∈ t, spanB p = true) : ∀ (l : List Int) (ph bf : Int), (runI t l ph bf).all feltB = true := by
  intro l
  induction l with
  | nil => intro ph bf; rfl
  | cons s l ih =>
    intro ph bf
    have hb := feltI_bd h ph bf s
    simp only [runI, List.all_cons, Bool.and_eq_true]
    exact ⟨(feltB_iff _).2 ⟨hb.1, hb.2.1⟩, ih _ _⟩

set_option maxRecDepth 100000 in
set_option maxHeartbeats 4000000 in
theorem Run_any (t : List Pt) (m : Mot) (x : Lim) (l : List Int) (A A2 : Option Addr) (c c2 B : Nat) (w : World) (hB : B ≤ w.heap.size) (hr : Reads w B 3 A t.length (ptCells t)) (hnt : t.length ≤ maxLen) (hl : Reads w B 1 A2 l.length (nums l)) (hn : l.length ≤ 400) :
    Calls Try.prog 26 #[.slice A t.length c, motV m, limV x, .slice A2 l.length c2] w (RuPost w t m x l) := by
  obtain ⟨W, hW⟩ : ∃ W, W = (w.alloc (.cells #[.int .i64 m.top, .int .i64 m.ease, .int .i64 m.jerk] 35)).alloc (.cells #[.int .i64 x.side, .int .i64 x.low, .int .i64 x.high] 37) := ⟨_, rfl⟩
  have bW : Below w.heap.size w W := by subst hW; exact ((Below.refl _ _).alloc (Nat.le_refl _) _).alloc (by simp) _
  have r0 : Row W w.heap.size 35 [.int .i64 m.top, .int .i64 m.ease, .int .i64 m.jerk] := by subst hW; exact (Row.new w _ _).alloc _
  have r1 : Row W (w.heap.size + 1) 37 [.int .i64 x.side, .int .i64 x.low, .int .i64 x.high] := by
    subst hW
    have h := Row.new (w.alloc (.cells #[.int .i64 m.top, .int .i64 m.ease, .int .i64 m.jerk] 35)) 37 #[.int .i64 x.side, .int .i64 x.low, .int .i64 x.high]
    simpa only [World.size_alloc] using h
  have hc := checkLimited_any t m x A c B W (Nat.le_trans hB bW.size) (hr.below (bW.mono hB)) hnt
  unfold motV limV at hc ⊢
  go_enter Try.func26, Try.ntmps26
  go_wp2_with fail
  rw [← hW]
  clear hW
  refine hc.mono ?_
  rintro e w1 ⟨rfl, hb1⟩
  have b1 := bW.trans (hb1.mono bW.size)
  have s0 := r0.below hb1 r0.lt
  have s1 := r1.below hb1 r1.lt
  obtain ⟨q, hq⟩ : ∃ q, q = limE t m x := ⟨_, rfl⟩
  rw [← hq]
  have Hq := Lib.hid hq
  clear hq r0 r1
  obtain ⟨_, u0, u1, u2⟩ := Row.at_3 s0
  obtain ⟨_, v0, v1, v2⟩ := Row.at_3 s1
  have z1 := s1.lt
  have z0 := s0.lt
  by_cases h0 : q = 0
  case neg =>
    have h1 : (q != 0) = true := by simpa using h0
    have HS : Hid (runS t m x l = ([], 0, q)) := by show _ = _; unfold runS; rw [← Hq.out, if_pos h0]
    go_wp2_with fail
    go_ret3
    exact ⟨b1, none, 0, by rw [HS.out]; rfl, by rw [HS.out]; exact Reads.none_⟩
  case pos =>
    subst h0
    have HS : Hid (runS t m x l = if 300 < l.length then ([], 0, 2) else if badI m.top m.ease l ≠ -1 then ([], badI m.top m.ease l, 1) else if beyondI x (runI t l 0 0) ≠ -1 then ([], beyondI x (runI t l 0 0), 32) else (runI t l 0 0, 0, 0)) := by
      show _ = _
      unfold runS
      rw [← Hq.out, if_neg (by simp)]
    obtain ⟨hpa, hmo, hli⟩ := limE_zero.1 Hq.out.symm
    by_cases h3 : 300 < l.length
    · have h3' : (300 : Int) < (l.length : Int) := by omega
      have HS2 : Hid (runS t m x l = ([], 0, 2)) := by show _ = _; rw [HS.out, if_pos h3]
      go_wp2_with fail
      go_ret3
      exact ⟨b1, none, 0, by rw [HS2.out]; rfl, by rw [HS2.out]; exact Reads.none_⟩
    have h3' : ¬ (300 : Int) < (l.length : Int) := by omega
    have HS2 : Hid (runS t m x l = if badI m.top m.ease l ≠ -1 then ([], badI m.top m.ease l, 1) else if beyondI x (runI t l 0 0) ≠ -1 then ([], beyondI x (runI t l 0 0), 32) else (runI t l 0 0, 0, 0)) := by show _ = _; rw [HS.out, if_neg h3]
    have hfi := firstImpossible_any m l A2 c2 B w1 hmo (Nat.le_trans hB b1.size) (hl.below (b1.mono hB)) hn
    unfold motV at hfi
    go_wp2_with fail
    refine hfi.mono ?_
    rintro e w2 ⟨rfl, hb2⟩
    have b2 := b1.trans (hb2.mono b1.size)
    have s2 := s1.below hb2 s1.lt
    obtain ⟨_, v0, v1, v2⟩ := Row.at_3 s2
    have z2 := s2.lt
    obtain ⟨bd, hbd⟩ : ∃ bd, bd = badI m.top m.ease l := ⟨_, rfl⟩
    rw [← hbd]
    have Hbd := Lib.hid hbd
    clear hbd
    by_cases hb : bd = -1
    case neg =>
      have hb' : (bd != -1) = true := by simpa using hb
      have HS3 : Hid (runS t m x l = ([], bd, 1)) := by show _ = _; rw [HS2.out, ← Hbd.out, if_pos hb]
      go_wp2_with fail
      go_ret3
      exact ⟨b2, none, 0, by rw [HS3.out]; rfl, by rw [HS3.out]; exact Reads.none_⟩
    case pos =>
      subst hb
      have HS3 : Hid (runS t m x l = if beyondI x (runI t l 0 0) ≠ -1 then ([], beyondI x (runI t l 0 0), 32) else (runI t l 0 0, 0, 0)) := by show _ = _; rw [HS2.out, ← Hbd.out, if_neg (by simp)]
      have hno := bad_none Hbd.out.symm
      have hmo' := (motB_iff m).1 hmo
      have hru := run_any t l A A2 c c2 B w2 (Nat.le_trans hB b2.size) (hr.below (b2.mono hB)) hpa (hl.below (b2.mono hB)) hn (fun k hk => by have := bad_can l 0 hno k hk; omega)
      go_wp2_with fail
      refine hru.mono ?_
      rintro e w3 ⟨hb3, A', c', rfl, hrd⟩
      have b3 := b2.trans (hb3.mono b2.size)
      have s3 := s2.below hb3 s2.lt
      obtain ⟨_, v0, v1, v2⟩ := Row.at_3 s3
      have z3 := s3.lt
      have hspan := ((pathB_iff t).1 hpa).2.2
      obtain ⟨R, hR⟩ : ∃ R, R = runI t l 0 0 := ⟨_, rfl⟩
      rw [← hR] at hrd ⊢
      have hRl : R.length ≤ 400 := by rw [hR, runI_length]; exact hn
      have hfe : R.all feltB = true := by rw [hR]; exact runI_felt hspan l 0 0
      have HR := Lib.hid hR
      clear hR
      have hfb := firstBeyond_any x R A' R.length c' w3.heap.size w3 (Nat.le_refl _) hrd (by unfold maxLen; omega) hli hfe
      unfold limV at hfb
      go_wp2_with fail
      refine hfb.mono ?_
      rintro e w4 ⟨rfl, hb4⟩
      have b4 := b3.trans (hb4.mono b3.size)
      have hrd4 := (hrd.below hb4).more hb4.size
      obtain ⟨be, hbe⟩ : ∃ be, be = beyondI x R := ⟨_, rfl⟩
      rw [← hbe]
      have Hbe := Lib.hid hbe
      clear hbe
      by_cases hbe : be = -1
      · subst hbe
        have HS4 : Hid (runS t m x l = (R, 0, 0)) := by show _ = _; rw [HS3.out, ← HR.out, ← Hbe.out, if_neg (by simp)]
        go_wp2_with fail
        go_ret3
        exact ⟨b4, A', c', by rw [HS4.out]; rfl, by rw [HS4.out]; exact hrd4⟩
      · have hbe' : (be != -1) = true := by simpa using hbe
        have HS4 : Hid (runS t m x l = ([], be, 32)) := by show _ = _; rw [HS3.out, ← HR.out, ← Hbe.out, if_pos hbe]
        go_wp2_with fail
        go_ret3
        exact ⟨b4, none, 0, by rw [HS4.out]; rfl, by rw [HS4.out]; exact Reads.none_⟩
end Go.Proofs.Ytkmiapfkebdpbaa
