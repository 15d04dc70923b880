/- Contract of queue's Play, and of the law's play. Conditions: the evening and the groups read as data. -/
import Derived.Test.YtphhabknlcfelaaEm
import Derived.Test.YtphhabknlcfelaaEh
namespace Go.Proofs.Ytphhabknlcfelaa
open Go.RowKit

/-- The visits of an evening, sorted, and an error: in memory of the call's own. -/
def PlayedTo (w : World) (f : EveZ) (l : List GrpZ) (e : Ending) (w' : World) : Prop := ∃ (L : List VisZ) (A : Option Addr) (c : Nat), e = .returned (.tuple #[.slice A L.length c, .int .i64 (checkQ f l)]) ∧ (checkQ f l = 0 → L.Perm (eveS f l).visits ∧ L.Pairwise leV ∧ L.length ≤ 100000) ∧ Below w.heap.size w w' ∧ Reads w' w'.heap.size 6 A L.length (L.flatMap visL)
theorem eve_small {f : EveZ} {l : List GrpZ} (hc : checkQ f l = 0) : (∀ v ∈ (eveS f l).visits, SmallV v) ∧ (eveS f l).visits.length ≤ 100000 := by
  obtain ⟨h1, h2⟩ := checkQ_ok.1 hc
  have g := grp_valid h2
  have hp := play_small f l (grpsB_len h2) (fun x hx => (g x hx).2.2.2.1.1) (fun x hx => (g x hx).2.1.1) (fun x hx => (g x hx).2.2.2.2.2) (fun x hx => (g x hx).2.2.2.2.1)
  have hb := vis_600 (big_start h1 h2).1 (play_his f l (fun x hx => (g x hx).2.2.2.1.1) (fun x hx => (g x hx).2.2.2.2.2))
  exact ⟨hp, by omega⟩
set_option maxRecDepth 100000 in
set_option maxHeartbeats 1000000 in
theorem Play_any (f : EveZ) (l : List GrpZ) (A A2 : Option Addr) (c c2 B : Nat) (rs : List (Option Addr × Nat)) (w : World) (hB : B ≤ w.heap.size) (hr : Reads w B 5 A f.rides.length (bthCells f.rides)) (hn : f.rides.length ≤ maxLen) (hl : GrpsIn w B A2 rs l) :
    Calls Try.prog 21 #[eveV f A c, .slice A2 l.length c2] w (PlayedTo w f l) := by
  obtain ⟨W, hW⟩ : ∃ W, W = w.alloc (.cells #[.slice A f.rides.length c, .int .i64 f.walk] 24) := ⟨_, rfl⟩
  have bW : Below w.heap.size w W := by subst hW; exact (Below.refl _ _).alloc (Nat.le_refl _) _
  have r0 : Row W w.heap.size 24 [.slice A f.rides.length c, .int .i64 f.walk] := by subst hW; exact Row.new w _ _
  have q0 : W.cell? ⟨w.heap.size, 0, none⟩ = some (.slice A f.rides.length c) := r0.cell (j := 0) (by simp)
  have q1 : W.cell? ⟨w.heap.size, 1, none⟩ = some (.int .i64 f.walk) := r0.cell (j := 1) (by simp)
  have lW : w.heap.size < W.heap.size := r0.lt
  have HBW := Lib.hid bW
  have hrW := hr.below (bW.mono hB)
  have hlW := hl.below (bW.mono hB)
  have hBW := Nat.le_trans hB bW.size
  by_cases hc : checkQ f l = 0
  · have hC := cap_ok f l A A2 c c2 B rs W hBW hrW hn hlW hc
    obtain ⟨hsm, hlen⟩ := eve_small hc
    have HZ : Hid (∀ (E : Ending) (X : World), (∃ (L : List VisZ) (A : Option Addr) (c : Nat), E = .returned (.tuple #[.slice A L.length c, .int .i64 0]) ∧ L.Perm (eveS f l).visits ∧ L.Pairwise leV ∧ L.length ≤ 100000 ∧ Below w.heap.size w X ∧ Reads X X.heap.size 6 A L.length (L.flatMap visL)) → PlayedTo w f l E X) := fun E X ⟨L, A, c, h1, h2, h3, h4, h5, h6⟩ => ⟨L, A, c, by rw [hc]; exact h1, fun _ => ⟨h2, h3, h4⟩, h5, h6⟩
    obtain ⟨s, hs⟩ : ∃ s, s = eveS f l := ⟨_, rfl⟩
    rw [← hs] at hC hsm hlen HZ
    have HC := Lib.hid hC
    have HSM := Lib.hid hsm
    unfold eveV at HC ⊢
    clear hr hl hrW hlW hn r0 bW hc hs hC hsm
    go_enter Try.func21, Try.ntmps21
    go_upto_region 1 with (fail)
    rw [← hW]
    clear hW
    go_upto_region 2 with (go_at_call 46; refine HC.out.mono ?_; rintro e w1 ⟨E, rfl, hE0, hb1, hE⟩)
    have HB1 := Lib.hid (HBW.out.trans (hb1.mono HBW.out.size))
    have HE0 := Lib.hid (Nat.le_trans HBW.out.size hE0)
    have HC2 := Lib.hid (sortedVisits_any hE HSM.out hlen)
    clear hb1 HC hE hE0
    go_wp2_with (go_at_call 47; refine HC2.out.mono ?_; rintro e w2 ⟨u, rfl, A3, c3, rfl, L, p1, p2, hb2, hr3⟩; have HB2 := Lib.hid hb2; have HR3 := Lib.hid hr3; clear hb2 hr3)
    go_ret2
    refine HZ.out _ _ ⟨L, A3, c3, by rw [p1.length_eq]; rfl, p1, p2, by rw [p1.length_eq]; exact hlen, HB1.out.trans (HB2.out.mono HE0.out), by rw [p1.length_eq]; exact HR3.out⟩
  · have HC := Lib.hid (cap_bad f l A A2 c c2 B rs W hBW hrW hn hlW hc)
    have HZ : Hid (∀ (E : Ending) (X : World), E = .returned (.tuple #[.slice none 0 0, .int .i64 (checkQ f l)]) → Below w.heap.size w X → PlayedTo w f l E X) := fun E X hE hX => ⟨[], none, 0, hE, fun h => absurd h hc, hX, reads_none _ _ _⟩
    generalize checkQ f l = k at hc HC HZ
    unfold eveV at HC ⊢
    clear hr hl hrW hlW hn r0 bW
    go_enter Try.func21, Try.ntmps21
    go_upto_region 1 with (fail)
    rw [← hW]
    clear hW
    go_wp2_with (go_at_call 46; refine HC.out.mono ?_; rintro e w1 ⟨rfl, hb1⟩; have HB1 := Lib.hid (HBW.out.trans (hb1.mono HBW.out.size)); clear hb1)
    all_goals (go_ret2; exact HZ.out _ _ rfl HB1.out)
end Go.Proofs.Ytphhabknlcfelaa
