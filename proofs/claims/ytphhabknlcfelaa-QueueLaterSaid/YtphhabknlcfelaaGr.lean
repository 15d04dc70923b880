/- Contract of the specification's CopyGroups, whose slice is the call's own. Conditions: the groups read as data. -/
import Derived.Test.YtphhabknlcfelaaEe
namespace Go.Proofs.Ytphhabknlcfelaa
open Go.RowKit

/-- Copied groups in a row of the call's own. -/
def GrpTo2 (w : World) (l : List GrpZ) (e : Ending) (w' : World) : Prop := ∃ A c rs, e = .returned (.slice A l.length c) ∧ Below w.heap.size w w' ∧ w'.ownsRow w.heap.size 55 5 (.slice A l.length c) l.length (agsL rs l) ∧ ∀ i, i < l.length → w'.ownsRow w.heap.size 3 1 (.slice (rs.getD i default).1 (l.getD i default).wants.length (rs.getD i default).2) (l.getD i default).wants.length ((l.getD i default).wants.map (Value.int .i64))
theorem own_row {w : World} {base size n : Nat} {e : TypeId} {v : Value} {xs : List Value} (h : w.ownsRow base e size v n xs) (h0 : 0 < n) : ∃ g cap cur, v = .slice (some ⟨g, 0, none⟩) n cap ∧ base ≤ g ∧ w.heap[g]? = some (.cells cur e (0, 0)) ∧ n ≤ cap ∧ cap ≤ maxLen ∧ cur.size = cap * size ∧ cur.toList.take (n * size) = xs := by
  rcases h.2 with ⟨-, rfl⟩ | h
  · omega
  · exact h
structure CpO (w : World) (B g : Nat) (rs : List (Option Addr × Nat)) (l : List GrpZ) (k : Nat) (ref : Nat → Option Addr × Nat) (cap : Nat) (wr : World) : Prop where
  base : CpIn w B g rs l k ref wr
  row : ∃ cur : Array Value, wr.heap[g]? = some (.cells cur 55 (0, 0)) ∧ l.length ≤ cap ∧ cap ≤ maxLen ∧ cur.size = cap * 5
theorem CpO.done {w wr : World} {B g cap : Nat} {rs : List (Option Addr × Nat)} {l : List GrpZ} {ref : Nat → Option Addr × Nat} (h : CpO w B g rs l l.length ref cap wr) (_ : l.length ≤ maxLen) (_ : ∀ i, i < l.length → (l.getD i default).wants.length ≤ maxLen) : GrpTo2 w l (.returned (.slice (some ⟨g, 0, none⟩) l.length cap)) wr := by
  have hr : ∀ i, i < l.length → ((List.range l.length).map ref).getD i default = ref i := fun i hi => by
    rw [List.getD_eq_getElem?_getD, List.getElem?_map, List.getElem?_range hi]; rfl
  obtain ⟨cur, k1, k2, k3, k4⟩ := h.row
  refine ⟨_, cap, (List.range l.length).map ref, rfl, h.base.bel, ⟨agsL_len _ _, .inr ⟨g, cap, cur, rfl, h.base.gw, k1, k2, k3, k4, ?_⟩⟩, fun i hi => ?_⟩
  · refine List.ext_getElem? fun j => ?_
    rw [List.getElem?_take]
    split
    · rename_i hj
      have e1 : j = (j / 5) * 5 + j % 5 := by omega
      have hi : j / 5 < l.length := by omega
      have hm : j % 5 < 5 := by omega
      have hc := h.base.blk.cell hi hm
      rw [cell_of_row wr g _ cur _ (0, 0) k1, ← e1] at hc
      have ha := agsL_at ((List.range l.length).map ref) l _ hi _ hm
      rw [← e1, hr _ hi] at ha
      rw [ha]
      simpa using hc
    · rename_i hj
      rw [List.getElem?_eq_none]
      rw [agsL_len]
      omega
  · rw [hr i hi]
    exact h.base.own i hi
theorem CpO.next {w wr X : World} {B g cap : Nat} {rs : List (Option Addr × Nat)} {l : List GrpZ} {k : Nat} {ref : Nat → Option Addr × Nat} (h : CpO w B g rs l k ref cap wr) (hb : Below wr.heap.size wr X) {A : Option Addr} {c : Nat}
    (ho : X.ownsRow w.heap.size 3 1 (.slice A (l.getD k default).wants.length c) (l.getD k default).wants.length ((l.getD k default).wants.map (Value.int .i64))) :
    CpO w B g rs l (k + 1) (fun i => if i = k then (A, c) else ref i) cap (X.setCell ⟨g, k * 5 + 3, none⟩ (.slice A (l.getD k default).wants.length c)) := by
  obtain ⟨cur, k1, k2, k3, k4⟩ := h.row
  exact ⟨h.base.next hb ho, _, heap_setCell_same X g _ cur _ _ ((hb.block g h.base.blk.lt).trans k1), k2, k3, by simpa using k4⟩
set_option maxRecDepth 100000 in
set_option maxHeartbeats 2000000 in
theorem rCopyGroups_own (l : List GrpZ) (A2 : Option Addr) (c2 B : Nat) (rs : List (Option Addr × Nat)) (w : World) (hB : B ≤ w.heap.size) (hl : GrpsIn w B A2 rs l) (hm : l.length ≤ 1000) (hw : ∀ i, i < l.length → (l.getD i default).wants.length ≤ 1000) :
    Calls Try.prog 19 #[.slice A2 l.length c2] w (GrpTo2 w l) := by
  obtain ⟨i0, hi, hz0, hz1, hz2⟩ := info_parts Try.info_int
  obtain ⟨j0, hj, hy0, hy1, hy2⟩ := info_parts Try.info_agroup
  have bA := (Below.refl w.heap.size w).alloc (Nat.le_refl _) (.cells #[] 55)
  have hE : isEmpty w.heap.size 55 5 (.slice (some ⟨w.heap.size, 0, none⟩) 0 0) (w.alloc (.cells #[] 55)) := new_empty (Nat.le_refl _)
  have hrd := hl.reads.below (bA.mono hB)
  have po := ags_one rs l
  have m1 : 0 + l.length ≤ maxLen := by unfold maxLen; omega
  have m2 : (0 + l.length) * 56 ≤ 140737488355328 := by omega
  have m3 := bA.size
  have hin := Lib.hid hl
  go_enter Try.func19, Try.ntmps19
  go_upto_region 2 with (at_builtin; refine wpList_app _ rfl _ _ 25 rfl w.heap.size 55 j0 _ 5 56 Try.underlying25 hj hy0 hy1 hy2 rfl (by decide) (.slice (some ⟨w.heap.size, 0, none⟩) 0 0) 0 [] rfl hE.2.1 B A2 l.length c2 (agsL rs l) rfl hrd po m1 m2 m3 ?_)
  intro v W ho hb
  have ho' : W.ownsRow w.heap.size 55 5 v l.length (agsL rs l) := by simpa using ho
  have hbW := bA.trans (hb.mono (by first | exact Nat.le_refl _ | omega))
  have hgr := hin.out.below (hbW.mono hB)
  clear bA hE hrd po m1 m2 m3 hl hb ho
  rcases Nat.eq_zero_or_pos l.length with h0 | h0
  · obtain ⟨A, c, rfl⟩ := own_slice ho'
    have hl0 : l = [] := List.eq_nil_of_length_eq_zero h0
    subst hl0
    have HB := Lib.hid hbW
    have HO := Lib.hid ho'
    clear ho' hgr hin
    go_wp2_with fail
    go_loop [4] (fun ix => ix = .int .i64 0) (fun _ => 0)
    case atStart => rfl
    case round =>
      subst hrel
      go_wp2_with fail
      go_ret
      exact ⟨A, c, [], rfl, HB.out, HO.out, fun i hi => absurd hi (by simp)⟩
  · obtain ⟨g, cap, cur, rfl, -, k1, k2, k3, k4, -⟩ := own_row ho' h0
    obtain ⟨hblk, hgw⟩ := Blk.of_own (f := fun i => agV (rs.getD i default) (l.getD i default)) ho' (agsL_len rs l) (agsL_at rs l)
    have hC0 : CpO w B g rs l 0 (fun i => rs.getD i default) cap W := ⟨⟨hbW, hgw, hblk, fun i hi => absurd hi (by omega), fun _ _ => rfl⟩, cur, k1, k2, k3, k4⟩
    have HC0 := Lib.hid hC0
    clear ho' hblk hbW hC0 hgr k1 k2 k3 k4
    go_wp2_with fail
    go_loopw [4] (fun i wr => ∃ (k : Nat) (ref : Nat → Option Addr × Nat), k ≤ l.length ∧ i = .int .i64 k ∧ CpO w B g rs l k ref cap wr) (fun i _ => l.length - (intOf i).toNat)
    case atStart => exact ⟨0, _, Nat.zero_le _, rfl, HC0.out⟩
    case round =>
      obtain ⟨k, ref, hk, rfl, hC⟩ := hrel
      by_cases hlt : k < l.length
      · have hlt' : (k : Int) < (l.length : Int) := by omega
        obtain ⟨⟨Ar, cr⟩, hrs⟩ : ∃ r, r = rs.getD k default := ⟨_, rfl⟩
        have hrk : ref k = (Ar, cr) := by rw [hC.base.old k (Nat.le_refl _), ← hrs]
        have q3 := hC.base.blk.cell hlt (j := 3) (by omega)
        simp only [agV, hrk] at q3
        have lg := hC.base.blk.lt
        have hbel := hC.base.bel
        have hs := hbel.size
        have hrd := (hin.out.inner k hlt).below (hbel.mono hB)
        rw [← hrs] at hrd
        have hwk := hw k hlt
        obtain ⟨x, hx⟩ : ∃ x, x = l.getD k default := ⟨_, rfl⟩
        have HN : Hid (∀ X A c, Below wr.heap.size wr X → X.ownsRow w.heap.size 3 1 (.slice A x.wants.length c) x.wants.length (x.wants.map (Value.int .i64)) → CpO w B g rs l (k + 1) (fun i => if i = k then (A, c) else ref i) cap (X.setCell ⟨g, k * 5 + 3, none⟩ (.slice A x.wants.length c))) := fun X A c h1 h2 => by
          rw [hx] at h2 ⊢
          exact hC.next h1 h2
        have HF : Hid (∀ X, Below wr.heap.size wr X → X.frozen? ⟨g, k * 5 + 3, none⟩ = false ∧ X.cell? ⟨g, k * 5 + 3, none⟩ = some (.slice Ar x.wants.length cr)) := fun X hX => by
          have hq := hC.base.blk.below hX lg
          refine ⟨hq.frozen _, ?_⟩
          have := hq.cell hlt (j := 3) (by omega)
          simp only [agV, hrk] at this
          rw [this, hx]
        rw [← hx] at q3 hrd hwk
        have bA := (Below.refl wr.heap.size wr).alloc (Nat.le_refl _) (.cells #[] 3)
        have hE : isEmpty wr.heap.size 3 1 (.slice (some ⟨wr.heap.size, 0, none⟩) 0 0) (wr.alloc (.cells #[] 3)) := new_empty (Nat.le_refl _)
        have hrA := hrd.below (bA.mono (Nat.le_trans hB hs))
        have po : ∀ u ∈ x.wants.map (Value.int .i64), u.oneCell' = true := fun u hu => by obtain ⟨a, _, rfl⟩ := List.mem_map.1 hu; rfl
        have m1 : 0 + x.wants.length ≤ maxLen := by unfold maxLen; omega
        have m2 : (0 + x.wants.length) * 8 ≤ 140737488355328 := by omega
        have m3 := bA.size
        have HbA := Lib.hid bA
        clear hC hrs hx hrd hbel bA
        go_wp2_with (at_builtin; refine wpList_app _ rfl _ _ 37 rfl wr.heap.size 3 i0 _ 1 8 Try.underlying37 hi hz0 hz1 hz2 rfl (by decide) (.slice (some ⟨wr.heap.size, 0, none⟩) 0 0) 0 [] rfl hE.2.1 B Ar x.wants.length cr (x.wants.map (Value.int .i64)) rfl hrA po m1 m2 m3 ?_)
        intro v X ho hb
        have ho' : X.ownsRow wr.heap.size 3 1 v x.wants.length (x.wants.map (Value.int .i64)) := by simpa using ho
        obtain ⟨A, c, rfl⟩ := own_slice ho'
        have hbX := HbA.out.trans (hb.mono (by first | exact Nat.le_refl _ | omega))
        have HC1 := Lib.hid (HN.out X A c hbX (own_low ho' hs))
        obtain ⟨f3, k3⟩ := HF.out X hbX
        have lX := hbX.size
        have lgX : g < X.heap.size := by omega
        clear ho ho' hb hbX hE hrA q3
        go_wp2_with fail
        go_roundw
        case rel => exact ⟨k + 1, _, by omega, by go_num, HC1.out⟩
        case measure => simp [intOf]; omega
      · have hge : ¬ (k : Int) < (l.length : Int) := by omega
        obtain rfl : k = l.length := by omega
        have HD := Lib.hid (hC.done (by unfold maxLen; omega) (fun i hi => by have := hw i hi; unfold maxLen; omega))
        clear hC
        go_wp2_with fail
        go_ret
        exact HD.out
end Go.Proofs.Ytphhabknlcfelaa
