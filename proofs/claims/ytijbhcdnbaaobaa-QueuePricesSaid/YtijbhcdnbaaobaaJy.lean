/- Contract of queue's checkAndPlay. Conditions: the evening and the groups read as data. -/
import Derived.Test.YtijbhcdnbaaobaaJv
namespace Go.Proofs.Ytijbhcdnbaaobaa
open Go.RowKit

theorem checkQ_ok {f : EveZ} {l : List GrpZ} : checkQ f l = 0 ↔ eveB f = true ∧ grpsB f.rides.length l = true := by
  unfold checkQ
  cases h1 : eveB f with
  | false => simp
  | true =>
    cases h2 : grpsB f.rides.length l with
    | false => simp
    | true => simp
def CapTo (w : World) (t : EvS) (e : Ending) (w' : World) : Prop := ∃ E : EvE, e = .returned (.tuple #[.pointer (some ⟨E.v, 0, none⟩), .int .i64 0]) ∧ w.heap.size ≤ E.base ∧ Below w.heap.size w w' ∧ EvAt E w' t
set_option maxRecDepth 100000 in
set_option maxHeartbeats 1000000 in
theorem cap_ok (f : EveZ) (l : List GrpZ) (A A2 : Option Addr) (c c2 B : Nat) (rs : List (Option Addr × Nat)) (w : World) (hB : B ≤ w.heap.size) (hr : Reads w B 5 A f.rides.length (bthCells f.rides)) (hn : f.rides.length ≤ maxLen) (hl : GrpsIn w B A2 rs l) (hc : checkQ f l = 0) :
    Calls Try.prog 46 #[eveV f A c, .slice A2 l.length c2] w (CapTo w (eveS f l)) := by
  obtain ⟨h1, h2⟩ := checkQ_ok.1 hc
  obtain ⟨W, hW⟩ : ∃ W, W = w.alloc (.cells #[.slice A f.rides.length c, .int .i64 f.walk] 24) := ⟨_, rfl⟩
  have bW : Below w.heap.size w W := by subst hW; exact (Below.refl _ _).alloc (Nat.le_refl _) _
  have r0 : Row W w.heap.size 24 [.slice A f.rides.length c, .int .i64 f.walk] := by subst hW; exact Row.new w _ _
  have q0 : W.cell? ⟨w.heap.size, 0, none⟩ = some (.slice A f.rides.length c) := r0.cell (j := 0) (by simp)
  have q1 : W.cell? ⟨w.heap.size, 1, none⟩ = some (.int .i64 f.walk) := r0.cell (j := 1) (by simp)
  have lW : w.heap.size < W.heap.size := r0.lt
  have hk := Check_any f l A A2 c c2 B rs W (Nat.le_trans hB bW.size) (hr.below (bW.mono hB)) hn (hl.below (bW.mono hB))
  rw [hc] at hk
  have HC := Lib.hid hk
  have HP : Hid (∀ X, Below w.heap.size w X → Calls Try.prog 63 #[eveV f A c, .slice A2 l.length c2] X (PlayTo X (eveS f l))) := fun X hX => play_any f l A A2 c c2 B rs X (Nat.le_trans hB hX.size) (hr.below (hX.mono hB)) (hl.below (hX.mono hB)) h1 h2
  have HBW := Lib.hid bW
  have HR0 := Lib.hid r0
  unfold eveV at HC HP ⊢
  clear hr hn hl h1 h2 hc hk r0 bW
  go_enter Try.func46, Try.ntmps46
  go_upto_region 1 with (fail)
  rw [← hW]
  clear hW
  go_upto_region 2 with (go_at_call 17; refine HC.out.mono ?_; rintro e w1 ⟨rfl, hb1⟩; have HB1 := Lib.hid (HBW.out.trans (hb1.mono HBW.out.size)); have r1 := HR0.out.below hb1 HR0.out.lt; have HP1 := Lib.hid (HP.out w1 HB1.out); clear hb1)
  have q0 : w1.cell? ⟨w.heap.size, 0, none⟩ = some (.slice A f.rides.length c) := r1.cell (j := 0) (by simp)
  have q1 : w1.cell? ⟨w.heap.size, 1, none⟩ = some (.int .i64 f.walk) := r1.cell (j := 1) (by simp)
  have l1 := r1.lt
  clear r1 HC HP HR0
  go_wp2_with (go_at_call 63; refine HP1.out.mono ?_; rintro e w2 ⟨E, rfl, hEb, hb2, hE⟩; have HEb := Lib.hid hEb; have HB2 := Lib.hid hb2; have HE := Lib.hid hE; clear hEb hb2 hE)
  go_ret2
  exact ⟨E, rfl, by rw [HEb.out]; exact HB1.out.size, HB1.out.trans (HB2.out.mono HB1.out.size), HE.out⟩
/-- A refused evening: no play, and Check's answer. -/
def BadTo (w : World) (c : Int) (e : Ending) (w' : World) : Prop := e = .returned (.tuple #[.pointer none, .int .i64 c]) ∧ Below w.heap.size w w'
set_option maxRecDepth 100000 in
set_option maxHeartbeats 1000000 in
theorem cap_bad (f : EveZ) (l : List GrpZ) (A A2 : Option Addr) (c c2 B : Nat) (rs : List (Option Addr × Nat)) (w : World) (hB : B ≤ w.heap.size) (hr : Reads w B 5 A f.rides.length (bthCells f.rides)) (hn : f.rides.length ≤ maxLen) (hl : GrpsIn w B A2 rs l) (hc : checkQ f l ≠ 0) :
    Calls Try.prog 46 #[eveV f A c, .slice A2 l.length c2] w (BadTo w (checkQ f l)) := by
  obtain ⟨W, hW⟩ : ∃ W, W = w.alloc (.cells #[.slice A f.rides.length c, .int .i64 f.walk] 24) := ⟨_, rfl⟩
  have bW : Below w.heap.size w W := by subst hW; exact (Below.refl _ _).alloc (Nat.le_refl _) _
  have r0 : Row W w.heap.size 24 [.slice A f.rides.length c, .int .i64 f.walk] := by subst hW; exact Row.new w _ _
  have q0 : W.cell? ⟨w.heap.size, 0, none⟩ = some (.slice A f.rides.length c) := r0.cell (j := 0) (by simp)
  have q1 : W.cell? ⟨w.heap.size, 1, none⟩ = some (.int .i64 f.walk) := r0.cell (j := 1) (by simp)
  have lW : w.heap.size < W.heap.size := r0.lt
  have HC := Lib.hid (Check_any f l A A2 c c2 B rs W (Nat.le_trans hB bW.size) (hr.below (bW.mono hB)) hn (hl.below (bW.mono hB)))
  have HBW := Lib.hid bW
  generalize checkQ f l = k at hc HC ⊢
  unfold eveV at HC ⊢
  clear hr hn hl r0 bW
  go_enter Try.func46, Try.ntmps46
  go_upto_region 1 with (fail)
  rw [← hW]
  clear hW
  go_wp2_with (go_at_call 17; refine HC.out.mono ?_; rintro e w1 ⟨rfl, hb1⟩; have HB1 := Lib.hid (HBW.out.trans (hb1.mono HBW.out.size)); clear hb1)
  all_goals first | (go_ret2; exact ⟨rfl, HB1.out⟩) | (exfalso; omega) | trace_state
end Go.Proofs.Ytijbhcdnbaaobaa
