/- Contracts of Play, CheckDeals and long. Conditions: the arguments read as data. -/
import Derived.Test.YtpcceankhgjjmaaFrame
namespace Go.Proofs.Ytpcceankhgjjmaa
open Go.RowKit

/-- The error of a fair and its deals. -/
def errS (F : Fair) (l : List Deal) : Int :=
  if validB F = false then 10 else if 200 < l.length then 2 else match goS F l l.length with | none => 11 | some _ => 0
def atS (F : Fair) (l : List Deal) : Int := if errS F l = 11 then badS F l (beginS F) 0 else 0
/-- How a fair stands behind all deals; all empty where there is an error. -/
def playS (F : Fair) (l : List Deal) : Count :=
  if validB F = false then ⟨[], [], [], [], 0⟩ else if 200 < l.length then ⟨[], [], [], [], 0⟩ else match goS F l l.length with | none => ⟨[], [], [], [], 0⟩ | some (C, _) => C

structure CRefs where
  A1 : Option Addr
  c1 : Nat
  A2 : Option Addr
  c2 : Nat
  A3 : Option Addr
  c3 : Nat
  A4 : Option Addr
  c4 : Nat
/-- The value of a count. -/
abbrev countV (C : Count) (K : CRefs) : Value :=
  .agg #[.slice K.A1 C.stock.length K.c1, .slice K.A2 C.cash.length K.c2, .slice K.A3 C.purses.length K.c3, .slice K.A4 C.boxes.length K.c4, .int .i64 C.lost]
structure CountIn (w : World) (B : Nat) (C : Count) (K : CRefs) : Prop where
  s1 : Reads w B 1 K.A1 C.stock.length (intCells C.stock)
  s2 : Reads w B 1 K.A2 C.cash.length (intCells C.cash)
  s3 : Reads w B 2 K.A3 C.purses.length (purseCells C.purses)
  s4 : Reads w B 1 K.A4 C.boxes.length (intCells C.boxes)
  l1 : C.stock.length ≤ maxLen
  l2 : C.cash.length ≤ maxLen
  l3 : C.purses.length ≤ maxLen
  l4 : C.boxes.length ≤ maxLen
theorem CountIn.keep {w w' : World} {B : Nat} {C : Count} {K : CRefs} (h : CountIn w B C K) (hk : ∀ p : Addr, p.block < B → w'.cell? p = w.cell? p) : CountIn w' B C K :=
  ⟨h.s1.keep hk, h.s2.keep hk, h.s3.keep hk, h.s4.keep hk, h.l1, h.l2, h.l3, h.l4⟩
theorem CountIn.more {w : World} {B B' : Nat} {C : Count} {K : CRefs} (h : CountIn w B C K) (hB : B ≤ B') : CountIn w B' C K :=
  ⟨h.s1.more hB, h.s2.more hB, h.s3.more hB, h.s4.more hB, h.l1, h.l2, h.l3, h.l4⟩
theorem CountIn.none_ (w : World) (B : Nat) : CountIn w B ⟨[], [], [], [], 0⟩ ⟨none, 0, none, 0, none, 0, none, 0⟩ :=
  ⟨Reads.none_, Reads.none_, Reads.none_, Reads.none_, Nat.zero_le _, Nat.zero_le _, Nat.zero_le _, Nat.zero_le _⟩

def PlPost (w : World) (F : Fair) (l : List Deal) (e : Ending) (w' : World) : Prop :=
  Below w.heap.size w w' ∧ ∃ K, e = .returned (.tuple #[countV (playS F l) K, .int .i64 (errS F l)]) ∧ CountIn w' w'.heap.size (playS F l) K

/-- The slices of a count lie in blocks from N on. -/
def CFresh (N : Nat) (K : CRefs) : Prop := ∀ b o, K.A1 = some ⟨b, o, none⟩ ∨ K.A2 = some ⟨b, o, none⟩ ∨ K.A3 = some ⟨b, o, none⟩ ∨ K.A4 = some ⟨b, o, none⟩ → N ≤ b
theorem fresh_none (N : Nat) : CFresh N ⟨none, 0, none, 0, none, 0, none, 0⟩ := fun b o h => by simp at h
theorem fresh_some {N g1 g2 g3 g4 c1 c2 c3 c4 : Nat} (h1 : N ≤ g1) (h2 : N ≤ g2) (h3 : N ≤ g3) (h4 : N ≤ g4) : CFresh N ⟨some ⟨g1, 0, none⟩, c1, some ⟨g2, 0, none⟩, c2, some ⟨g3, 0, none⟩, c3, some ⟨g4, 0, none⟩, c4⟩ := fun b o h => by
  simp only [Option.some.injEq, Addr.mk.injEq] at h
  rcases h with h | h | h | h <;> omega
def PlNew (w : World) (F : Fair) (l : List Deal) (e : Ending) (w' : World) : Prop :=
  Below w.heap.size w w' ∧ ∃ K, e = .returned (.tuple #[countV (playS F l) K, .int .i64 (errS F l)]) ∧ CountIn w' w'.heap.size (playS F l) K ∧ CFresh w.heap.size K

theorem Row.at_5 {w : World} {g : Nat} {t : TypeId} {v0 v1 v2 v3 v4 : Value} (h : Row w g t [v0, v1, v2, v3, v4]) : (∀ o, w.frozen? ⟨g, o, none⟩ = false) ∧ w.cell? ⟨g, 0, none⟩ = some v0 ∧ w.cell? ⟨g, 1, none⟩ = some v1 ∧ w.cell? ⟨g, 2, none⟩ = some v2 ∧ w.cell? ⟨g, 3, none⟩ = some v3 ∧ w.cell? ⟨g, 4, none⟩ = some v4 :=
  ⟨fun o => h.frozen o, h.cell (j := 0) (by simp), h.cell (j := 1) (by simp), h.cell (j := 2) (by simp), h.cell (j := 3) (by simp), h.cell (j := 4) (by simp)⟩

set_option maxHeartbeats 2000000 in
set_option maxRecDepth 100000 in
theorem Play_new (F : Fair) (R : Refs) (l : List Deal) (A : Option Addr) (c B : Nat) (w : World) (hB : B ≤ w.heap.size) (hF : FairIn w B F R) (hl : Reads w B 5 A l.length (dealCells l)) (hn : l.length ≤ maxLen) :
    Calls Try.prog 20 #[fairV F R, .slice A l.length c] w (PlNew w F l) := by
  obtain ⟨W, hW⟩ : ∃ W, W = (w.alloc (.cells (fairCells F R) 25)).alloc (.cells #[.slice none 0 0, .slice none 0 0, .slice none 0 0, .slice none 0 0, .int .i64 0] 35) := ⟨_, rfl⟩
  have sW : W.heap.size = w.heap.size + 2 := by subst hW; simp
  have bW : Below w.heap.size w W := by subst hW; exact ((Below.refl _ _).alloc (Nat.le_refl _) _).alloc (by simp) _
  have r1 : Row W (w.heap.size + 1) 35 [.slice none 0 0, .slice none 0 0, .slice none 0 0, .slice none 0 0, .int .i64 0] := by
    subst hW
    exact row_new _ _ _ _ (by simp)
  have hFW := hF.below (bW.mono hB)
  have hlW := hl.below (bW.mono hB)
  unfold fairV
  go_enter Try.func20, Try.ntmps20
  go_wp2_with fail
  rw [← hW]
  clear hW
  refine (follow_any F R l A c B W 46 #[] [] (fun _ _ => True) (by omega) hFW hlW hn (by simp) (fun _ _ _ _ _ => trivial) trivial fid_ok46 (unseen_ok B _ F R l)).mono ?_
  intro e w1 ⟨hk1, hp⟩
  have b1 : Below w.heap.size w w1 := bW.trans (hk1.to_below (by omega) (by simp))
  have s1 := hk1.size
  have q1 := r1.kept hk1 (by simp)
  have z1 : w.heap.size + 1 < w1.heap.size := by omega
  have SW := Lib.hid sW
  clear sW
  obtain ⟨f0, k0, k1, k2, k3, k4⟩ := q1.at_5
  rcases hp with ⟨hv, rfl⟩ | ⟨hv, h200, rfl⟩ | ⟨hv, h200, hg, rfl⟩ | ⟨hv, h200, C, t, L, hg, hS, hL0, _, rfl⟩
  · have Hq : Hid (playS F l = ⟨[], [], [], [], 0⟩ ∧ errS F l = 10) := by show _ ∧ _; simp [playS, errS, hv]
    go_wp2_with fail
    refine bodyPost_ret (v := .tuple #[.agg #[.slice none 0 0, .slice none 0 0, .slice none 0 0, .slice none 0 0, .int .i64 0], .int .i64 10]) (by simp [results, Try.results20, go_sem, *]) rfl ?_
    refine ⟨by repeat (first | (with_reducible exact b1) | (with_reducible refine Below.alloc ?_ (by simp; omega) _) | (with_reducible refine Below.setCell ?_ (by dsimp only; omega) _)), ⟨none, 0, none, 0, none, 0, none, 0⟩, by rw [Hq.out.1, Hq.out.2]; rfl, by rw [Hq.out.1]; exact CountIn.none_ _ _, fresh_none _⟩
  · have Hq : Hid (playS F l = ⟨[], [], [], [], 0⟩ ∧ errS F l = 2) := by show _ ∧ _; simp [playS, errS, hv, h200]
    go_wp2_with fail
    refine bodyPost_ret (v := .tuple #[.agg #[.slice none 0 0, .slice none 0 0, .slice none 0 0, .slice none 0 0, .int .i64 0], .int .i64 2]) (by simp [results, Try.results20, go_sem, *]) rfl ?_
    refine ⟨by repeat (first | (with_reducible exact b1) | (with_reducible refine Below.alloc ?_ (by simp; omega) _) | (with_reducible refine Below.setCell ?_ (by dsimp only; omega) _)), ⟨none, 0, none, 0, none, 0, none, 0⟩, by rw [Hq.out.1, Hq.out.2]; rfl, by rw [Hq.out.1]; exact CountIn.none_ _ _, fresh_none _⟩
  · have Hq : Hid (playS F l = ⟨[], [], [], [], 0⟩ ∧ errS F l = 11) := by
      have h2 : ¬ 200 < l.length := by omega
      show _ ∧ _; simp [playS, errS, hv, hg, h2]
    go_wp2_with fail
    refine bodyPost_ret (v := .tuple #[.agg #[.slice none 0 0, .slice none 0 0, .slice none 0 0, .slice none 0 0, .int .i64 0], .int .i64 11]) (by simp [results, Try.results20, go_sem, *]) rfl ?_
    refine ⟨by repeat (first | (with_reducible exact b1) | (with_reducible refine Below.alloc ?_ (by simp; omega) _) | (with_reducible refine Below.setCell ?_ (by dsimp only; omega) _)), ⟨none, 0, none, 0, none, 0, none, 0⟩, by rw [Hq.out.1, Hq.out.2]; rfl, by rw [Hq.out.1]; exact CountIn.none_ _ _, fresh_none _⟩
  · have Hq : Hid (playS F l = C ∧ errS F l = 0) := by
      have h2 : ¬ 200 < l.length := by omega
      show _ ∧ _; simp [playS, errS, hv, hg, h2]
    have n1 := hS.n1
    have n2 := hS.n2
    have n3 := hS.n3
    have n4 := hS.n4
    have hbd := bounds_of hv
    have u1 := hbd.s2
    have u2 := hbd.p2
    have u3 := hbd.x2
    have N := Lib.hid (And.intro n1 (And.intro n2 (And.intro n3 n4)))
    clear n1 n2 n3 n4
    go_wp2_with fail
    refine bodyPost_ret (v := .tuple #[.agg #[.slice (some ⟨L.g1, 0, none⟩) F.stock.length L.c1, .slice (some ⟨L.g2, 0, none⟩) F.stock.length L.c2, .slice (some ⟨L.g3, 0, none⟩) F.purses.toNat L.c3, .slice (some ⟨L.g4, 0, none⟩) F.boxes.toNat L.c4, .int .i64 C.lost], .int .i64 0]) (by simp [results, Try.results20, go_sem, *]) rfl ?_
    obtain ⟨n1, n2, n3, n4⟩ := N.out
    refine ⟨by repeat (first | (with_reducible exact b1) | (with_reducible refine Below.alloc ?_ (by simp; omega) _) | (with_reducible refine Below.setCell ?_ (by dsimp only; omega) _)), ⟨some ⟨L.g1, 0, none⟩, L.c1, some ⟨L.g2, 0, none⟩, L.c2, some ⟨L.g3, 0, none⟩, L.c3, some ⟨L.g4, 0, none⟩, L.c4⟩, ?_, ?_, ?_⟩
    · rw [Hq.out.1, Hq.out.2]
      have e : countV C ⟨some ⟨L.g1, 0, none⟩, L.c1, some ⟨L.g2, 0, none⟩, L.c2, some ⟨L.g3, 0, none⟩, L.c3, some ⟨L.g4, 0, none⟩, L.c4⟩ = .agg #[.slice (some ⟨L.g1, 0, none⟩) F.stock.length L.c1, .slice (some ⟨L.g2, 0, none⟩) F.stock.length L.c2, .slice (some ⟨L.g3, 0, none⟩) F.purses.toNat L.c3, .slice (some ⟨L.g4, 0, none⟩) F.boxes.toNat L.c4, .int .i64 C.lost] := by
        unfold countV; rw [n1, n2, n3, n4]
      rw [e]
    · rw [Hq.out.1]
      have ne : ∀ g, g ∈ L.all → ¬ g = w.heap.size + 1 := fun g hg e => by have := hL0 g hg; have := SW.out; omega
      refine ⟨Row.reads (t := 3) ?_ (by simp [intCells]) ?_, Row.reads (t := 3) ?_ (by simp [intCells]) ?_, Row.reads (t := 62) ?_ (by rw [purseCells_length]) ?_, Row.reads (t := 3) ?_ (by simp [intCells]) ?_, by unfold maxLen; omega, by unfold maxLen; omega, by unfold maxLen; omega, by unfold maxLen; omega⟩
      · repeat (first | (with_reducible exact hS.r1) | (with_reducible refine Row.alloc ?_ _) | (with_reducible refine Row.far ?_ (ne _ (by simp [Locs.all])) _))
      · have := hS.r1.lt; simp; omega
      · repeat (first | (with_reducible exact hS.r2) | (with_reducible refine Row.alloc ?_ _) | (with_reducible refine Row.far ?_ (ne _ (by simp [Locs.all])) _))
      · have := hS.r2.lt; simp; omega
      · repeat (first | (with_reducible exact hS.r3) | (with_reducible refine Row.alloc ?_ _) | (with_reducible refine Row.far ?_ (ne _ (by simp [Locs.all])) _))
      · have := hS.r3.lt; simp; omega
      · repeat (first | (with_reducible exact hS.r4) | (with_reducible refine Row.alloc ?_ _) | (with_reducible refine Row.far ?_ (ne _ (by simp [Locs.all])) _))
      · have := hS.r4.lt; simp; omega
    · have ge : ∀ g, g ∈ L.all → w.heap.size ≤ g := fun g hg => by have := hL0 g hg; have := SW.out; omega
      exact fresh_some (ge _ (by simp [Locs.all])) (ge _ (by simp [Locs.all])) (ge _ (by simp [Locs.all])) (ge _ (by simp [Locs.all]))
theorem Play_any (F : Fair) (R : Refs) (l : List Deal) (A : Option Addr) (c B : Nat) (w : World) (hB : B ≤ w.heap.size) (hF : FairIn w B F R) (hl : Reads w B 5 A l.length (dealCells l)) (hn : l.length ≤ maxLen) :
    Calls Try.prog 20 #[fairV F R, .slice A l.length c] w (PlPost w F l) :=
  (Play_new F R l A c B w hB hF hl hn).mono fun _ _ ⟨hb, K, he, hC, _⟩ => ⟨hb, K, he, hC⟩

set_option maxHeartbeats 1000000 in
set_option maxRecDepth 100000 in
theorem CheckDeals_any (F : Fair) (R : Refs) (l : List Deal) (A : Option Addr) (c B : Nat) (w : World) (hB : B ≤ w.heap.size) (hF : FairIn w B F R) (hl : Reads w B 5 A l.length (dealCells l)) (hn : l.length ≤ maxLen) :
    Calls Try.prog 18 #[fairV F R, .slice A l.length c] w fun e w' => e = .returned (.tuple #[.int .i64 (atS F l), .int .i64 (errS F l)]) ∧ Below w.heap.size w w' := by
  have bW := (Below.refl w.heap.size w).alloc (Nat.le_refl _) (.cells (fairCells F R) 25)
  have hFW := hF.below (bW.mono hB)
  have hlW := hl.below (bW.mono hB)
  unfold fairV
  go_enter Try.func18, Try.ntmps18
  go_wp2_with fail
  refine (follow_any F R l A c B _ 46 #[] [] (fun _ _ => True) (by simp; omega) hFW hlW hn (by simp) (fun _ _ _ _ _ => trivial) trivial fid_ok46 (unseen_ok B _ F R l)).mono ?_
  intro e w1 ⟨hk1, hp⟩
  have b1 : Below w.heap.size w w1 := bW.trans (hk1.to_below (by simp) (by simp))
  rcases hp with ⟨hv, rfl⟩ | ⟨hv, h200, rfl⟩ | ⟨hv, h200, hg, rfl⟩ | ⟨hv, h200, C, t, L, hg, hS, hL0, _, rfl⟩
  · have Hq : Hid (errS F l = 10 ∧ atS F l = 0) := by show _ ∧ _; simp [atS, errS, hv]
    go_wp2_with fail
    go_ret2
    exact ⟨by rw [Hq.out.1, Hq.out.2]; rfl, b1⟩
  · have Hq : Hid (errS F l = 2 ∧ atS F l = 0) := by show _ ∧ _; simp [atS, errS, hv, h200]
    go_wp2_with fail
    go_ret2
    exact ⟨by rw [Hq.out.1, Hq.out.2]; rfl, b1⟩
  · have Hq : Hid (errS F l = 11 ∧ atS F l = badS F l (beginS F) 0) := by
      have h2 : ¬ 200 < l.length := by omega
      show _ ∧ _; simp [atS, errS, hv, h2, hg]
    go_wp2_with fail
    go_ret2
    exact ⟨by rw [Hq.out.1, Hq.out.2]; rfl, b1⟩
  · have Hq : Hid (errS F l = 0 ∧ atS F l = 0) := by
      have h2 : ¬ 200 < l.length := by omega
      show _ ∧ _; simp [atS, errS, hv, h2, hg]
    go_wp2_with fail
    go_ret2
    exact ⟨by rw [Hq.out.1, Hq.out.2]; rfl, b1⟩

def longB (l : List Deal) : Bool := decide (40 < l.length) && decide (l.length ≤ 200)
set_option maxHeartbeats 400000 in
theorem long_any (l : List Deal) (A : Option Addr) (c : Nat) (w : World) (hn : l.length ≤ maxLen) :
    Calls Try.prog 14 #[.slice A l.length c] w fun e w' => e = .returned (.bool (longB l)) ∧ w = w' := by
  unfold maxLen at hn
  go_enter Try.func14, Try.ntmps14
  go_wp2
  all_goals (go_ret; exact ⟨ret_bool (by unfold longB; first | (rw [decide_eq_true (show 40 < l.length by omega), Bool.true_and]; exact decide_eq_decide.2 (by omega)) | (rw [decide_eq_false (show ¬ 40 < l.length by omega), Bool.false_and])), rfl⟩)
end Go.Proofs.Ytpcceankhgjjmaa
