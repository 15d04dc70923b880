/- Two rows of spendings behind each other. No program but the size of a spending. -/
import Derived.Test.YtdechfjlbdbbnaaTnk
import Derived.Test.YtdechfjlbdbbnaaTnp
namespace Go.Proofs.Ytdechfjlbdbbnaa
open Go.RowKit Go.Shelf

theorem Try.info_spent : (Try.prog.info? 54).map (fun i => (i.zero, i.size, i.bytes)) = some (some (.agg #[.int .i64 0, .int .i64 0, .slice none 0 0]), 3, 40) := by kernel_rfl
theorem flat_atT (f : Nat → List Value) (k : Nat) (hk : ∀ x, (f x).length = k) : ∀ n i, i < n → ∀ j, j < k → ((List.range n).flatMap f)[i * k + j]? = (f i)[j]? := by
  intro n
  induction n with
  | zero => intro i hi; omega
  | succ n ih =>
    intro i hi j hj
    have hlen : ((List.range n).flatMap f).length = n * k := by rw [flat_lenT f k hk, List.length_range]
    rw [List.range_succ, List.flatMap_append]
    rcases Nat.lt_or_ge i n with hlt | hge
    · have : i * k + j < n * k := by
        have : (i + 1) * k ≤ n * k := Nat.mul_le_mul_right k hlt
        rw [Nat.add_mul] at this; omega
      rw [List.getElem?_append_left (by omega)]
      exact ih i hlt j hj
    · have e : i = n := by omega
      subst e
      rw [List.getElem?_append_right (by omega), hlen, show i * k + j - i * k = j by omega]
      simp
def spL (p : Option Addr × Nat) (s : SpZ) : List Value := [.int .i64 s.by_, .int .i64 s.cents, .slice p.1 s.fr.length p.2]
/-- The spendings' cells. -/
def spsL (rs : List (Option Addr × Nat)) (l : List SpZ) : List Value := (List.range l.length).flatMap fun i => spL (rs.getD i default) (spAt l i)
theorem spsL_len (rs : List (Option Addr × Nat)) (l : List SpZ) : (spsL rs l).length = l.length * 3 := by
  unfold spsL
  rw [flat_lenT _ 3 (fun _ => rfl), List.length_range]
theorem lt_threeS {P : Nat → Prop} (h0 : P 0) (h1 : P 1) (h2 : P 2) (b : Nat) (hb : b < 3) : P b := by
  rcases (by omega : b = 0 ∨ b = 1 ∨ b = 2) with rfl | rfl | rfl <;> assumption
theorem spsL_at (rs : List (Option Addr × Nat)) (l : List SpZ) {i : Nat} (hi : i < l.length) {j : Nat} (hj : j < 3) : (spsL rs l)[i * 3 + j]? = some (spV (rs.getD i default) (spAt l i) j) := by
  unfold spsL
  rw [flat_atT _ 3 (fun _ => rfl) _ i hi j hj]
  exact lt_threeS (P := fun j => (spL (rs.getD i default) (spAt l i))[j]? = some (spV (rs.getD i default) (spAt l i) j)) rfl rfl rfl j hj
theorem sps_one (rs : List (Option Addr × Nat)) (l : List SpZ) : ∀ u ∈ spsL rs l, u.oneCell' = true := fun u hu => by
  unfold spsL at hu
  obtain ⟨b, _, hb⟩ := List.mem_flatMap.1 hu
  unfold spL at hb
  simp only [List.mem_cons, List.not_mem_nil, or_false] at hb
  rcases hb with rfl | rfl | rfl <;> rfl
theorem SpIn.reads {w : World} {B : Nat} {A : Option Addr} {rs : List (Option Addr × Nat)} {l : List SpZ} (h : SpIn w B A rs l) : Reads w B 3 A l.length (spsL rs l) := by
  refine ⟨spsL_len rs l, fun h0 => ?_⟩
  obtain ⟨b, o, e, hb, hc⟩ := h.outer h0
  refine ⟨b, o, e, hb, fun j u hu => ?_⟩
  have hj : j < l.length * 3 := by
    have := (List.getElem?_eq_some_iff.1 hu).1
    rwa [spsL_len] at this
  have e1 : j = (j / 3) * 3 + j % 3 := by omega
  have hi : j / 3 < l.length := by omega
  have hm : j % 3 < 3 := by omega
  rw [e1, spsL_at rs l hi hm] at hu
  injection hu with hu
  obtain ⟨c0, c1, c2⟩ := hc _ hi
  rw [e1, ← hu, ← Nat.add_assoc]
  exact lt_threeS (P := fun m => w.cell? ⟨b, o + j / 3 * 3 + m, none⟩ = some (spV (rs.getD (j / 3) default) (spAt l (j / 3)) m)) c0 c1 c2 _ hm
/-- Where the people of both are. -/
def rsB (rs rs2 : List (Option Addr × Nat)) (a n : Nat) : List (Option Addr × Nat) := (List.range n).map fun i => if i < a then rs.getD i default else rs2.getD (i - a) default
theorem rsB_at (rs rs2 : List (Option Addr × Nat)) (a : Nat) {n i : Nat} (hi : i < n) : (rsB rs rs2 a n).getD i default = if i < a then rs.getD i default else rs2.getD (i - a) default := by
  unfold rsB
  rw [List.getD_eq_getElem?_getD, List.getElem?_map, List.getElem?_range hi]; rfl
theorem SpIn.both {w w2 : World} {B B2 : Nat} {A A2 A3 : Option Addr} {rs rs2 : List (Option Addr × Nat)} {l l2 : List SpZ} (h1 : SpIn w B A rs l) (h2 : SpIn w B A2 rs2 l2) (hm : l.length + l2.length ≤ maxLen) (hb : Below B w w2) (hBB : B ≤ B2)
    (hr : Reads w2 B2 3 A3 (l ++ l2).length (spsL rs l ++ spsL rs2 l2)) : SpIn w2 B2 A3 (rsB rs rs2 l.length (l ++ l2).length) (l ++ l2) := by
  have hlen : (l ++ l2).length = l.length + l2.length := List.length_append
  refine ⟨by omega, fun h0 => ?_, fun i hi => ?_, fun i hi => ?_⟩
  · obtain ⟨b, o, e, hbb, hc⟩ := hr.2 h0
    refine ⟨b, o, e, hbb, fun i hi => ?_⟩
    have g : ∀ j, j < 3 → w2.cell? ⟨b, o + i * 3 + j, none⟩ = some (spV ((rsB rs rs2 l.length (l ++ l2).length).getD i default) (spAt (l ++ l2) i) j) := fun j hj => by
      rw [Nat.add_assoc]
      refine hc _ _ ?_
      rw [rsB_at rs rs2 l.length hi]
      rcases Nat.lt_or_ge i l.length with hlt | hge
      · rw [if_pos hlt, spAt_left l l2 hlt, List.getElem?_append_left (by rw [spsL_len]; omega)]
        exact spsL_at rs l hlt hj
      · rw [if_neg (by omega), List.getElem?_append_right (by rw [spsL_len]; omega), spsL_len]
        have e2 : spAt (l ++ l2) i = spAt l2 (i - l.length) := by
          have := spAt_right l l2 (i - l.length)
          rwa [show l.length + (i - l.length) = i by omega] at this
        rw [e2, show i * 3 + j - l.length * 3 = (i - l.length) * 3 + j by omega]
        exact spsL_at rs2 l2 (by omega) hj
    exact ⟨g 0 (by omega), g 1 (by omega), g 2 (by omega)⟩
  · rw [rsB_at rs rs2 l.length hi]
    rcases Nat.lt_or_ge i l.length with hlt | hge
    · rw [if_pos hlt, spAt_left l l2 hlt]
      exact ((h1.inner i hlt).below hb).more hBB
    · have e2 : spAt (l ++ l2) i = spAt l2 (i - l.length) := by
        have := spAt_right l l2 (i - l.length)
        rwa [show l.length + (i - l.length) = i by omega] at this
      rw [if_neg (by omega), e2]
      exact ((h2.inner _ (by omega)).below hb).more hBB
  · rcases Nat.lt_or_ge i l.length with hlt | hge
    · rw [spAt_left l l2 hlt]; exact h1.lens i hlt
    · have e2 : spAt (l ++ l2) i = spAt l2 (i - l.length) := by
        have := spAt_right l l2 (i - l.length)
        rwa [show l.length + (i - l.length) = i by omega] at this
      rw [e2]; exact h2.lens _ (by omega)
end Go.Proofs.Ytdechfjlbdbbnaa
