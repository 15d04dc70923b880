/- Words of force: points, motors, limits and changes as cells; what the small functions say of numbers. No program. -/
import Derived.Test.YtkmiapfkebdpbaaRow
import Derived.Test.YtkmiapfkebdpbaaSpec
import Derived.Test.YtkmiapfkebdpbaaZf
namespace Go.Proofs.Ytkmiapfkebdpbaa
open Go.RowKit

structure Mot where
  top : Int
  ease : Int
  jerk : Int

def ptCells (l : List Pt) : List Value := l.flatMap fun p => [.int .i64 p.x, .int .i64 p.y, .int .i64 p.z]
def ptV (p : Pt) : Value := .agg #[.int .i64 p.x, .int .i64 p.y, .int .i64 p.z]
def motV (m : Mot) : Value := .agg #[.int .i64 m.top, .int .i64 m.ease, .int .i64 m.jerk]
def limV (x : Lim) : Value := .agg #[.int .i64 x.side, .int .i64 x.low, .int .i64 x.high]
def chgV (ph bf af : Int) : Value := .agg #[.int .i64 ph, .int .i64 bf, .int .i64 af]
theorem ptCells_length (l : List Pt) : (ptCells l).length = l.length * 3 := by
  induction l with
  | nil => rfl
  | cons x t ih => simp only [ptCells, List.flatMap_cons, List.length_append, List.length_cons, List.length_nil] at *; omega
theorem ptCells_at (l : List Pt) : ∀ k, k < l.length → (ptCells l)[k * 3]? = some (.int .i64 (ptAt l k).x) ∧ (ptCells l)[k * 3 + 1]? = some (.int .i64 (ptAt l k).y) ∧ (ptCells l)[k * 3 + 2]? = some (.int .i64 (ptAt l k).z) := by
  induction l with
  | nil => intro k h; simp at h
  | cons x t ih =>
    intro k h
    cases k with
    | zero => simp [ptCells, ptAt]
    | succ k =>
      have h' := ih k (by simpa using h)
      have e : ∀ j, (k + 1) * 3 + j = k * 3 + j + 3 := by intro j; omega
      have e0 : (k + 1) * 3 = k * 3 + 3 := by omega
      rw [e0]
      simp only [ptCells, List.flatMap_cons, ptAt, List.getElem?_cons_succ] at *
      refine ⟨?_, ?_, ?_⟩
      all_goals rw [List.getElem?_append_right (by simp)]
      · simpa using h'.1
      · simpa [show k * 3 + 3 + 1 - 3 = k * 3 + 1 from by omega] using h'.2.1
      · simpa [show k * 3 + 3 + 2 - 3 = k * 3 + 2 from by omega] using h'.2.2
theorem Reads.atp {w : World} {B n : Nat} {A : Option Addr} {l : List Pt} (h : Reads w B 3 A n (ptCells l)) {k : Nat} (hk : k < n) :
    ∃ b o, A = some ⟨b, o, none⟩ ∧ b < B ∧ w.cell? ⟨b, o + k * 3, none⟩ = some (.int .i64 (ptAt l k).x) ∧ w.cell? ⟨b, o + k * 3 + 1, none⟩ = some (.int .i64 (ptAt l k).y) ∧ w.cell? ⟨b, o + k * 3 + 2, none⟩ = some (.int .i64 (ptAt l k).z) := by
  obtain ⟨b, o, e, hb, hc⟩ := h.2 (by omega)
  have hl : l.length = n := by have := h.1; rw [ptCells_length] at this; omega
  obtain ⟨h0, h1, h2⟩ := ptCells_at l k (by omega)
  exact ⟨b, o, e, hb, hc _ _ h0, hc _ _ h1, hc _ _ h2⟩
theorem Reads.len_pt {w : World} {B n : Nat} {A : Option Addr} {l : List Pt} (h : Reads w B 3 A n (ptCells l)) : l.length = n := by have := h.1; rw [ptCells_length] at this; omega

/-- What package force asks of numbers. -/
def spanB (p : Pt) : Bool := allB [p.x, p.y, p.z] (-10000) 10000
def pathB (t : List Pt) : Bool := inB t.length 3 60 && t.all spanB
def motB (m : Mot) : Bool := allB [m.top, m.ease, m.jerk] 1 10 && decide (m.ease ≤ m.jerk)
def limB (x : Lim) : Bool := inB x.side 0 200000 && allB [x.low, x.high] (-200000) 200000 && decide (x.low ≤ x.high)
def motionE (t : List Pt) (m : Mot) : Int := if pathB t = false then 30 else if motB m = false then 31 else 0
def limE (t : List Pt) (m : Mot) (x : Lim) : Int := if motionE t m ≠ 0 then motionE t m else if limB x = false then 32 else 0
theorem spanB_iff (p : Pt) : spanB p = true ↔ (-10000 ≤ p.x ∧ p.x ≤ 10000) ∧ (-10000 ≤ p.y ∧ p.y ≤ 10000) ∧ (-10000 ≤ p.z ∧ p.z ≤ 10000) := by
  simp [spanB, allB, inB]
theorem pathB_iff (t : List Pt) : pathB t = true ↔ 3 ≤ t.length ∧ t.length ≤ 60 ∧ ∀ p ∈ t, spanB p = true := by
  simp only [pathB, inB, Bool.and_eq_true, decide_eq_true_eq, List.all_eq_true, and_assoc]
  constructor
  · rintro ⟨h1, h2, h3⟩; exact ⟨by omega, by omega, h3⟩
  · rintro ⟨h1, h2, h3⟩; exact ⟨by omega, by omega, h3⟩
theorem pathB_at {t : List Pt} (h : ∀ p ∈ t, spanB p = true) (k : Nat) : (-10000 ≤ (ptAt t k).x ∧ (ptAt t k).x ≤ 10000) ∧ (-10000 ≤ (ptAt t k).y ∧ (ptAt t k).y ≤ 10000) ∧ (-10000 ≤ (ptAt t k).z ∧ (ptAt t k).z ≤ 10000) := by
  rcases Nat.lt_or_ge k t.length with hk | hk
  · have e : ptAt t k = t[k] := by simp [ptAt, hk]
    rw [e]
    exact (spanB_iff _).1 (h _ (List.getElem_mem hk))
  · have e : ptAt t k = ⟨0, 0, 0⟩ := by simp [ptAt, hk]
    rw [e]; simp
theorem motB_iff (m : Mot) : motB m = true ↔ (1 ≤ m.top ∧ m.top ≤ 10) ∧ (1 ≤ m.ease ∧ m.ease ≤ 10) ∧ (1 ≤ m.jerk ∧ m.jerk ≤ 10) ∧ m.ease ≤ m.jerk := by
  simp [motB, allB, inB, and_assoc]
theorem limB_iff (x : Lim) : limB x = true ↔ (0 ≤ x.side ∧ x.side ≤ 200000) ∧ (-200000 ≤ x.low ∧ x.low ≤ 200000) ∧ (-200000 ≤ x.high ∧ x.high ≤ 200000) ∧ x.low ≤ x.high := by
  simp [limB, allB, inB, and_assoc]
theorem motionE_zero {t : List Pt} {m : Mot} : motionE t m = 0 ↔ pathB t = true ∧ motB m = true := by
  unfold motionE
  cases pathB t <;> cases motB m <;> simp
theorem limE_zero {t : List Pt} {m : Mot} {x : Lim} : limE t m x = 0 ↔ pathB t = true ∧ motB m = true ∧ limB x = true := by
  unfold limE
  by_cases h : motionE t m = 0
  · rw [if_neg (by simpa using h)]
    have := motionE_zero.1 h
    cases limB x <;> simp [this]
  · rw [if_pos h]
    constructor
    · intro e; exact absurd e h
    · rintro ⟨h1, h2, _⟩; exact absurd (motionE_zero.2 ⟨h1, h2⟩) h

/-- The point at a phase, anywhere. -/
def atZ (t : List Pt) (k : Int) : Pt := ptAt t (k % (t.length : Int)).toNat
theorem atZ_of (t : List Pt) (k : Nat) (hk : k < t.length) : atZ t (k : Int) = ptAt t k := by
  unfold atZ
  rw [← Int.natCast_emod, Int.toNat_natCast, Nat.mod_eq_of_lt hk]
theorem feltI_at (t : List Pt) (ph bf af : Int) : feltI t ph bf af = ⟨(atZ t (ph + af)).x - 2 * (atZ t ph).x + (atZ t (ph - bf)).x, (atZ t (ph + af)).y - 2 * (atZ t ph).y + (atZ t (ph - bf)).y, (atZ t (ph + af)).z - 2 * (atZ t ph).z + (atZ t (ph - bf)).z + 1000⟩ := rfl
theorem atZ_bd {t : List Pt} (h : ∀ p ∈ t, spanB p = true) (k : Int) : (-10000 ≤ (atZ t k).x ∧ (atZ t k).x ≤ 10000) ∧ (-10000 ≤ (atZ t k).y ∧ (atZ t k).y ≤ 10000) ∧ (-10000 ≤ (atZ t k).z ∧ (atZ t k).z ≤ 10000) := pathB_at h _
theorem feltI_bd {t : List Pt} (h : ∀ p ∈ t, spanB p = true) (ph bf af : Int) : (-40000 ≤ (feltI t ph bf af).x ∧ (feltI t ph bf af).x ≤ 40000) ∧ (-40000 ≤ (feltI t ph bf af).y ∧ (feltI t ph bf af).y ≤ 40000) ∧ (-39000 ≤ (feltI t ph bf af).z ∧ (feltI t ph bf af).z ≤ 41000) := by
  rw [feltI_at]
  have h1 := atZ_bd h (ph + af)
  have h2 := atZ_bd h ph
  have h3 := atZ_bd h (ph - bf)
  dsimp only
  omega
theorem sq_bd {a : Int} {b : Int} (h1 : -b ≤ a) (h2 : a ≤ b) : 0 ≤ a * a ∧ a * a ≤ b * b := by
  constructor
  · rcases Int.le_total 0 a with h | h
    · exact Int.mul_nonneg h h
    · exact Int.mul_nonneg_of_nonpos_of_nonpos h h
  · rcases Int.le_total 0 a with h | h
    · exact Int.mul_le_mul h2 h2 h (by omega)
    · have h3 : (-a) * (-a) ≤ b * b := Int.mul_le_mul (by omega) (by omega) (by omega) (by omega)
      rwa [Int.neg_mul_neg] at h3
theorem side_bd {p : Pt} (h1 : -40000 ≤ p.x ∧ p.x ≤ 40000) (h2 : -40000 ≤ p.y ∧ p.y ≤ 40000) : 0 ≤ sideZ p ∧ sideZ p ≤ 3200000000 := by
  have a := sq_bd h1.1 h1.2
  have b := sq_bd h2.1 h2.2
  unfold sideZ
  omega
end Go.Proofs.Ytkmiapfkebdpbaa
