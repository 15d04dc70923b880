/- Words for spendings as rows; plain facts: what each one is owed. No program. -/
import Derived.Test.YtdechfjlbdbbnaaTma
import Derived.Test.YtdechfjlbdbbnaaTkp
namespace Go.Proofs.Ytdechfjlbdbbnaa
open Go.RowKit

structure SpZ where
  by_ : Int
  cents : Int
  fr : List Int
deriving Inhabited
def spAt (l : List SpZ) (k : Nat) : SpZ := l.getD k default
def spV (p : Option Addr × Nat) (s : SpZ) : Nat → Value
  | 0 => .int .i64 s.by_
  | 1 => .int .i64 s.cents
  | _ => .slice p.1 s.fr.length p.2
/-- Spendings in memory: a row of three cells each, the people in rows of their own. -/
structure SpIn (w : World) (B : Nat) (A : Option Addr) (rs : List (Option Addr × Nat)) (l : List SpZ) : Prop where
  len : l.length ≤ maxLen
  outer : 0 < l.length → ∃ b o, A = some ⟨b, o, none⟩ ∧ b < B ∧ ∀ i, i < l.length → (w.cell? ⟨b, o + i * 3, none⟩ = some (.int .i64 (spAt l i).by_) ∧ w.cell? ⟨b, o + i * 3 + 1, none⟩ = some (.int .i64 (spAt l i).cents) ∧ w.cell? ⟨b, o + i * 3 + 2, none⟩ = some (.slice (rs.getD i default).1 (spAt l i).fr.length (rs.getD i default).2))
  inner : ∀ i, i < l.length → Reads w B 1 (rs.getD i default).1 (spAt l i).fr.length ((spAt l i).fr.map (Value.int .i64))
  lens : ∀ i, i < l.length → (spAt l i).fr.length ≤ maxLen
theorem SpIn.below {w w' : World} {B : Nat} {A : Option Addr} {rs : List (Option Addr × Nat)} {l : List SpZ} (h : SpIn w B A rs l) (hb : Below B w w') : SpIn w' B A rs l :=
  ⟨h.len, fun h0 => by
    obtain ⟨b, o, e, hbb, hc⟩ := h.outer h0
    refine ⟨b, o, e, hbb, fun i hi => ?_⟩
    obtain ⟨c0, c1, c2⟩ := hc i hi
    exact ⟨(hb.cell (p := ⟨b, _, none⟩) hbb).trans c0, (hb.cell (p := ⟨b, _, none⟩) hbb).trans c1, (hb.cell (p := ⟨b, _, none⟩) hbb).trans c2⟩, fun i hi => (h.inner i hi).below hb, h.lens⟩

/-- Each number is more than the one before it. -/
def ascN (l : List Int) : Nat → Bool
  | 0 => true
  | k + 1 => ascN l k && (decide (k = 0) || decide (wAt l (k - 1) < wAt l k))
def ascB (l : List Int) : Bool := ascN l l.length
theorem ascN_mono {l : List Int} {k : Nat} : ∀ m, k ≤ m → ascN l m = true → ascN l k = true := by
  intro m
  induction m with
  | zero => intro hk _; rw [show k = 0 by omega]; rfl
  | succ m ih =>
    intro hk h
    rcases Nat.lt_or_ge k (m + 1) with hlt | hge
    · simp only [ascN, Bool.and_eq_true] at h
      exact ih (by omega) h.1
    · rw [show k = m + 1 by omega]; exact h
theorem ascN_out {l : List Int} {k : Nat} (hk : k + 1 < l.length) (h : ¬ wAt l k < wAt l (k + 1)) : ascB l = false := by
  rcases hb : ascB l with _ | _
  · rfl
  · have := ascN_mono (k := k + 2) l.length (by omega) hb
    simp only [ascN, Bool.and_eq_true, Bool.or_eq_true, decide_eq_true_eq] at this
    rw [show k + 1 - 1 = k by omega] at this
    omega
theorem asc_ge {l : List Int} (h0 : ∀ i, i < l.length → 0 ≤ wAt l i) (ha : ascB l = true) : ∀ i, i < l.length → (i : Int) ≤ wAt l i := by
  intro i
  induction i with
  | zero => intro hi; exact h0 0 hi
  | succ i ih =>
    intro hi
    have a := ih (by omega)
    have := ascN_mono (k := i + 2) l.length (by omega) ha
    simp only [ascN, Bool.and_eq_true, Bool.or_eq_true, decide_eq_true_eq] at this
    rw [show i + 1 - 1 = i by omega] at this
    omega
/-- A spending that is right. -/
def spB (n : Int) (s : SpZ) : Bool := inB s.by_ 0 (n - 1) && inB s.cents 0 1000000000 && decide (0 < s.fr.length) && allB s.fr 0 (n - 1) && ascB s.fr
structure SpOk (m : Nat) (s : SpZ) : Prop where
  f : ∃ f : Nat, s.by_ = (f : Int) ∧ f < m
  c : 0 ≤ s.cents ∧ s.cents ≤ 1000000000
  l1 : 1 ≤ s.fr.length
  l10 : s.fr.length ≤ m
  p : ∀ i, i < s.fr.length → ∃ p : Nat, wAt s.fr i = (p : Int) ∧ p < m
theorem spB_ok {m : Nat} {s : SpZ} (h : spB m s = true) : SpOk m s := by
  unfold spB at h
  simp only [Bool.and_eq_true, decide_eq_true_eq] at h
  obtain ⟨⟨⟨⟨h1, h2⟩, h3⟩, h4⟩, h5⟩ := h
  have hp := fun i (hi : i < s.fr.length) => allB_at h4 hi
  have hg := asc_ge (fun i hi => (hp i hi).1) h5
  unfold inB at h1 h2
  simp only [Bool.and_eq_true, decide_eq_true_eq] at h1 h2
  refine ⟨⟨s.by_.toNat, by omega, by omega⟩, h2, h3, ?_, fun i hi => ⟨(wAt s.fr i).toNat, by have := hp i hi; omega, by have := hp i hi; omega⟩⟩
  have a := hg (s.fr.length - 1) (by omega)
  have b := hp (s.fr.length - 1) (by omega)
  omega
def spsB (n : Int) (l : List SpZ) : Nat → Bool
  | 0 => true
  | k + 1 => spsB n l k && spB n (spAt l k)
theorem spsB_mono {n : Int} {l : List SpZ} {k : Nat} : ∀ m, k ≤ m → spsB n l m = true → spsB n l k = true := by
  intro m
  induction m with
  | zero => intro hk _; rw [show k = 0 by omega]; rfl
  | succ m ih =>
    intro hk h
    rcases Nat.lt_or_ge k (m + 1) with hlt | hge
    · simp only [spsB, Bool.and_eq_true] at h
      exact ih (by omega) h.1
    · rw [show k = m + 1 by omega]; exact h
theorem spsB_at {n : Int} {l : List SpZ} {k m : Nat} (h : spsB n l m = true) (hk : k < m) : spB n (spAt l k) = true := by
  have := spsB_mono (k := k + 1) m (by omega) h
  simp only [spsB, Bool.and_eq_true] at this
  exact this.2
theorem spsB_out {n : Int} {l : List SpZ} {k m : Nat} (hk : k < m) (h : spB n (spAt l k) = false) : spsB n l m = false := by
  rcases hb : spsB n l m with _ | _
  · rfl
  · rw [spsB_at hb hk] at h; cases h
/-- What a spending does. -/
def oweZ (s : SpZ) (i : Nat) : Int := s.cents / (s.fr.length : Int) + if (i : Int) < s.cents % (s.fr.length : Int) then 1 else 0
def spN (s : SpZ) (b : List Int) : Nat → List Int
  | 0 => b.set s.by_.toNat (wAt b s.by_.toNat + s.cents)
  | i + 1 => (spN s b i).set (wAt s.fr i).toNat (wAt (spN s b i) (wAt s.fr i).toNat - oweZ s i)
def spS (b : List Int) (s : SpZ) : List Int := spN s b s.fr.length
def spendN (n : Nat) (l : List SpZ) : Nat → List Int
  | 0 => List.replicate n 0
  | k + 1 => spS (spendN n l k) (spAt l k)
theorem spN_len (s : SpZ) (b : List Int) : ∀ i, (spN s b i).length = b.length := by
  intro i
  induction i with
  | zero => simp [spN]
  | succ i ih => simp only [spN, List.length_set]; exact ih
theorem spendN_len (n : Nat) (l : List SpZ) : ∀ k, (spendN n l k).length = n := by
  intro k
  induction k with
  | zero => simp [spendN]
  | succ k ih => simp only [spendN, spS, spN_len]; exact ih
theorem owe_bd {m : Nat} {s : SpZ} (h : SpOk m s) (i : Nat) : 0 ≤ oweZ s i ∧ oweZ s i ≤ 1000000001 := by
  have hc := h.c
  have hl := h.l1
  have a : 0 ≤ s.cents / (s.fr.length : Int) := Int.ediv_nonneg hc.1 (by omega)
  have b : s.cents / (s.fr.length : Int) ≤ s.cents := Int.ediv_le_self _ hc.1
  unfold oweZ
  split <;> omega
theorem spN_bd {m : Nat} {s : SpZ} {b : List Int} {M : Int} (h : SpOk m s) (hl : b.length = m) (hb : ∀ j, j < m → -M ≤ wAt b j ∧ wAt b j ≤ M) :
    ∀ i, i ≤ s.fr.length → ∀ j, j < m → -(M + ((i : Int) + 1) * 1000000001) ≤ wAt (spN s b i) j ∧ wAt (spN s b i) j ≤ M + ((i : Int) + 1) * 1000000001 := by
  intro i
  induction i with
  | zero =>
    intro _ j hj
    obtain ⟨f, hf, hfm⟩ := h.f
    have hc := h.c
    have h1 := hb j hj
    simp only [spN]
    rw [wAt_set _ _ _ _ (by omega)]
    split
    · have := hb s.by_.toNat (by omega)
      omega
    · omega
  | succ i ih =>
    intro hi j hj
    obtain ⟨p, hp, hpm⟩ := h.p i (by omega)
    have ho := owe_bd h i
    have h1 := ih (by omega) j hj
    simp only [spN]
    rw [wAt_set _ _ _ _ (by rw [spN_len]; omega)]
    split
    · have := ih (by omega) (wAt s.fr i).toNat (by omega)
      omega
    · omega
theorem spendN_bd {m : Nat} (hm : m ≤ 10) {l : List SpZ} {N : Nat} (h : ∀ k, k < N → SpOk m (spAt l k)) : ∀ k, k ≤ N → ∀ j, j < m → -((k : Int) * 11000000011) ≤ wAt (spendN m l k) j ∧ wAt (spendN m l k) j ≤ (k : Int) * 11000000011 := by
  intro k
  induction k with
  | zero =>
    intro _ j hj
    have e : wAt (spendN m l 0) j = 0 := by
      unfold wAt spendN
      rw [List.getElem?_replicate, if_pos hj]; rfl
    rw [e]; simp
  | succ k ih =>
    intro hk j hj
    have ho := h k (by omega)
    have a := spN_bd ho (spendN_len m l k) (ih (by omega)) (spAt l k).fr.length (Nat.le_refl _) j hj
    have b := ho.l10
    simp only [spendN, spS]
    have c : ((spAt l k).fr.length : Int) + 1 ≤ 11 := by omega
    omega
/-- What Balances returns. -/
def chkS (n : Int) (l : List SpZ) : Int := if inB n 1 10 = false then 1 else if 60 < l.length then 2 else if spsB n l l.length = false then 110 else 0
def balR (n : Int) (l : List SpZ) : List Int × Int := if chkS n l = 0 then (spendN n.toNat l l.length, 0) else ([], chkS n l)
theorem chkS_ok {n : Int} {l : List SpZ} (h : chkS n l = 0) : ∃ m : Nat, n = (m : Int) ∧ 1 ≤ m ∧ m ≤ 10 ∧ l.length ≤ 60 ∧ ∀ k, k < l.length → SpOk m (spAt l k) := by
  unfold chkS at h
  by_cases h1 : inB n 1 10 = false
  · rw [if_pos h1] at h; cases h
  rw [if_neg h1] at h
  by_cases h2 : 60 < l.length
  · rw [if_pos h2] at h; cases h
  rw [if_neg h2] at h
  by_cases h3 : spsB n l l.length = false
  · rw [if_pos h3] at h; cases h
  have h1' : inB n 1 10 = true := by simpa using h1
  unfold inB at h1'
  simp only [Bool.and_eq_true, decide_eq_true_eq] at h1'
  obtain ⟨m, rfl⟩ : ∃ m : Nat, n = (m : Int) := ⟨n.toNat, by omega⟩
  exact ⟨m, rfl, by omega, by omega, by omega, fun k hk => spB_ok (spsB_at (by simpa using h3) hk)⟩
end Go.Proofs.Ytdechfjlbdbbnaa
