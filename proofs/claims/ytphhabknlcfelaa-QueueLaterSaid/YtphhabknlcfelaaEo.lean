/- What QueueEnds looks at, step by step; the law's play. Conditions: the evening and the groups read as data. -/
import Derived.Test.YtphhabknlcfelaaEn
namespace Go.Proofs.Ytphhabknlcfelaa
open Go.RowKit

theorem endsV_app (cyc : Nat → Int) (nr : Nat) : ∀ (a b : List VisZ) (want last : Int), endsV cyc nr want last (a ++ b) = (endsV cyc nr want last a).bind fun p => endsV cyc nr p.1 p.2 b := by
  intro a
  induction a with
  | nil => intro b want last; rfl
  | cons v a ih =>
    intro b want last
    simp only [List.cons_append, endsV]
    split
    · rfl
    · exact ih _ _ _
theorem ends_step {cyc : Nat → Int} {nr : Nat} {w0 t0 : Int} {L : List VisZ} {i : Nat} {r : Int × Int} (h : endsV cyc nr w0 t0 (L.filter fun v => decide (v.group = i)) = some r) {k : Nat} (hk : k < L.length) {wz tz : Int}
    (hz : endsV cyc nr w0 t0 ((L.take k).filter fun v => decide (v.group = i)) = some (wz, tz)) :
    (L[k].group = i → L[k].want = wz ∧ L[k].ride < nr ∧ ¬ L[k].came < tz ∧ endsV cyc nr w0 t0 ((L.take (k + 1)).filter fun v => decide (v.group = i)) = some (wz + 1, doneV cyc L[k])) ∧
    (L[k].group ≠ i → endsV cyc nr w0 t0 ((L.take (k + 1)).filter fun v => decide (v.group = i)) = some (wz, tz)) := by
  have e1 : L.take (k + 1) = L.take k ++ [L[k]] := List.take_succ_eq_append_getElem hk
  refine ⟨fun hg => ?_, fun hg => ?_⟩
  · have e2 : L = (L.take k ++ [L[k]]) ++ L.drop (k + 1) := by rw [← e1, List.take_append_drop]
    rw [e2, List.filter_append, List.filter_append, endsV_app, endsV_app, hz] at h
    have hf : ([L[k]].filter fun v => decide (v.group = i)) = [L[k]] := by simp [hg]
    rw [hf] at h
    simp only [Option.bind_some, endsV] at h
    by_cases hx : L[k].want ≠ wz ∨ ¬ L[k].ride < nr ∨ L[k].came < tz
    · rw [if_pos hx] at h
      simp at h
    · rw [e1, List.filter_append, endsV_app, hz, hf]
      simp only [Option.bind_some, endsV]
      rw [if_neg hx]
      refine ⟨by omega, by omega, by omega, rfl⟩
  · rw [e1, List.filter_append, show ([L[k]].filter fun v => decide (v.group = i)) = [] by simp [hg], List.append_nil]
    exact hz
theorem cyc_start (f : EveZ) (l : List GrpZ) {r : Nat} (hr : r < f.rides.length) : cycS (startS f l) r = (f.rides.getD r default).cycle := by
  unfold cycS
  rw [start_rd f l hr]
theorem own_rds {w : World} {base size n c : Nat} {e : TypeId} {A : Option Addr} {xs : List Value} (h : w.ownsRow base e size (.slice A n c) n xs) : Reads w w.heap.size size A n xs := by
  obtain ⟨A', c', e, hr⟩ := nown_reads h
  injection e with e1
  rw [e1]
  exact hr
theorem getD_small {L : List VisZ} (h : ∀ v ∈ L, SmallV v) {k : Nat} (hk : k < L.length) : SmallV L[k] := h _ (List.getElem_mem hk)
set_option maxRecDepth 100000 in
set_option maxHeartbeats 1000000 in
theorem lplay_any (f : EveZ) (l : List GrpZ) (A A2 : Option Addr) (c c2 B : Nat) (rs : List (Option Addr × Nat)) (w : World) (hB : B ≤ w.heap.size) (hr : Reads w B 5 A f.rides.length (bthCells f.rides)) (hn : f.rides.length ≤ maxLen) (hl : GrpsIn w B A2 rs l) (hf : farB f l = false) :
    Calls Try.prog 40 #[eveV f A c, .slice A2 l.length c2] w (PlayedTo w f l) := by
  obtain ⟨W, hW⟩ : ∃ W, W = w.alloc (.cells #[.slice A f.rides.length c, .int .i64 f.walk] 24) := ⟨_, rfl⟩
  have bW : Below w.heap.size w W := by subst hW; exact (Below.refl _ _).alloc (Nat.le_refl _) _
  have r0 : Row W w.heap.size 24 [.slice A f.rides.length c, .int .i64 f.walk] := by subst hW; exact Row.new w _ _
  have q0 : W.cell? ⟨w.heap.size, 0, none⟩ = some (.slice A f.rides.length c) := r0.cell (j := 0) (by simp)
  have q1 : W.cell? ⟨w.heap.size, 1, none⟩ = some (.int .i64 f.walk) := r0.cell (j := 1) (by simp)
  have lW : w.heap.size < W.heap.size := r0.lt
  obtain ⟨n1, n2, n3⟩ := far_not hf
  have HR : Hid (∀ X, Below w.heap.size w X → B ≤ X.heap.size ∧ Reads X B 5 A f.rides.length (bthCells f.rides) ∧ GrpsIn X B A2 rs l) := fun X hX => ⟨Nat.le_trans hB hX.size, hr.below (hX.mono hB), hl.below (hX.mono hB)⟩
  have HC : Hid (∀ X, Below w.heap.size w X → Calls Try.prog 18 #[eveV f A c] X (EveTo X f)) := fun X hX => rCopy_any f A c B X (HR.out X hX).1 (HR.out X hX).2.1 (by omega)
  have HG : Hid (∀ X, Below w.heap.size w X → Calls Try.prog 19 #[.slice A2 l.length c2] X (GrpTo X l)) := fun X hX => rCopyGroups_any l A2 c2 B rs X (HR.out X hX).1 (HR.out X hX).2.2 (by omega) (fun i hi => by have := n3 i hi; omega)
  have HZ : Hid (∀ (E : Ending) (X Y : World), Below w.heap.size w X → PlayedTo X f l E Y → PlayedTo w f l E Y) := fun E X Y hX ⟨L, A, c, h1, h2, h3, h4⟩ => ⟨L, A, c, h1, h2, hX.trans (h3.mono hX.size), h4⟩
  have HBW := Lib.hid bW
  unfold eveV at HC ⊢
  clear hr hl n1 n2 n3 hf r0
  go_enter Try.func40, Try.ntmps40
  go_upto_region 1 with (fail)
  rw [← hW]
  clear hW
  go_wp2_with (first
    | (go_at_call 21; refine HP.out.mono ?_; rintro e w3 ⟨L, A5, c5, rfl, h2, h3, h4⟩; have H5 := Lib.hid (HZ.out _ w2 w3 b2.out ⟨L, A5, c5, rfl, h2, h3, h4⟩); clear h2 h3 h4; generalize checkQ f l = kk at H5 ⊢)
    | (go_at_call 19; refine (HG.out _ b1.out).mono ?_; rintro e w2 ⟨A4, c4, rs4, rfl, hb2, hg4⟩; have b2 := Lib.hid (b1.out.trans (hb2.mono b1.out.size)); have hP := Play_any f l A3 A4 c3 c4 w2.heap.size rs4 w2 (Nat.le_refl _) ((hE1.out.below hb2).more hb2.size) hn hg4; unfold eveV at hP; have HP := Lib.hid hP; clear hb2 hg4 hP)
    | (go_at_call 18; refine (HC.out _ HBW.out).mono ?_; rintro e w1 ⟨A3, c3, rfl, hb1, ho1⟩; have b1 := Lib.hid (HBW.out.trans (hb1.mono HBW.out.size)); have hE1 := Lib.hid (own_rds ho1); clear hb1 ho1; unfold eveV))
  go_ret2
  exact H5.out
end Go.Proofs.Ytphhabknlcfelaa
