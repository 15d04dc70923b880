/- Contracts of takings' tax and of the specification's. Conditions: brackets that read as data and are right; an amount. -/
import Derived.Test.YtdechfjlbdbbnaaTkb
import Derived.Test.YtdechfjlbdbbnaaTkc
import Derived.Deep.RegionHeld3
import Derived.Deep.DeepCutAuto
import Derived.Deep.LoopGhost
namespace Go.Proofs.Ytdechfjlbdbbnaa
open Go.RowKit

def brL (b : BrZ) : List Value := [.int .i64 b.frm, .int .i64 b.pct]
def brCells (l : List BrZ) : List Value := l.flatMap brL
theorem brCells_at (l : List BrZ) : ∀ k (h : k < l.length), ∀ j, j < 2 → (brCells l)[k * 2 + j]? = (brL l[k])[j]? := by
  induction l with
  | nil => intro k hk; simp at hk
  | cons e l ih =>
    intro k hk j hj
    rw [show brCells (e :: l) = brL e ++ brCells l from rfl]
    cases k with
    | zero =>
      rw [Nat.zero_mul, Nat.zero_add, List.getElem?_append_left (by simpa [brL] using hj)]
      rfl
    | succ k =>
      rw [List.getElem?_append_right (by simp [brL]; omega), show (k + 1) * 2 + j - (brL e).length = k * 2 + j by simp [brL]; omega]
      exact ih k (by simpa using hk) j hj
/-- The cells of a bracket. -/
theorem br_at {X : World} {B : Nat} {A : Option Addr} {l : List BrZ} (h : Reads X B 2 A l.length (brCells l)) : 0 < l.length → ∃ b o, A = some ⟨b, o, none⟩ ∧ b < B ∧ ∀ k, k < l.length → X.cell? ⟨b, o + k * 2, none⟩ = some (.int .i64 (brAt l k).frm) ∧ X.cell? ⟨b, o + k * 2 + 1, none⟩ = some (.int .i64 (brAt l k).pct) := by
  intro hn
  obtain ⟨b, o, e, hb, hc⟩ := h.2 hn
  refine ⟨b, o, e, hb, fun k hk => ?_⟩
  have key : ∀ j, j < 2 → ∀ u, (brL l[k])[j]? = some u → X.cell? ⟨b, o + k * 2 + j, none⟩ = some u := fun j hj u hu => by
    have := hc _ _ ((brCells_at l k hk j hj).trans hu)
    rw [← Nat.add_assoc] at this
    exact this
  have e2 : brAt l k = l[k] := by unfold brAt; rw [List.getElem?_eq_getElem hk]; rfl
  rw [e2]
  exact ⟨key 0 (by omega) _ rfl, key 1 (by omega) _ rfl⟩
set_option maxHeartbeats 1000000 in
set_option maxRecDepth 100000 in
theorem tax_any (l : List BrZ) (h : BrOk l) (A : Option Addr) (ca B : Nat) (c : Int) (h0 : 0 ≤ c) (h1 : c ≤ 1000000000) (w : World) (hB : B ≤ w.heap.size) (hr : Reads w B 2 A l.length (brCells l)) :
    Calls Try.prog 62 #[.int .i64 c, .slice A l.length ca] w fun e w' => e = .returned (.int .i64 (taxZ c l)) ∧ Below w.heap.size w w' := by
  have l8 := h.l8
  have l1 := h.l1
  obtain ⟨b, o, rfl, hbB, HC⟩ := br_at hr (by omega)
  obtain ⟨n, hn⟩ : ∃ n, n = l.length := ⟨_, rfl⟩
  have HB := Lib.hid (fun k hk => sumT_bd h h0 h1 k hk)
  have HPc := Lib.hid h.pct
  have HFr := Lib.hid h.frm
  have HT : Hid (taxZ c l = sumT c l n / 100) := by show _ = _; rw [hn]; rfl
  have Hc := Lib.hid h1
  rw [← hn] at HC l8 l1 HB HPc HFr ⊢
  have Hn := Lib.hid hn
  have HC := Lib.hid HC
  clear h hr hn h1
  go_enter Try.func62, Try.ntmps62
  go_wp2_with fail
  go_loopw [5, 11] (fun s i wr => ∃ k : Nat, k ≤ n ∧ i = .int .i64 k ∧ s = .int .i64 (sumT c l k) ∧ Below w.heap.size w wr) (fun _ i _ => n - (intOf i).toNat)
  case atStart => exact ⟨0, Nat.zero_le _, rfl, rfl, Below.refl _ _⟩
  case round =>
    obtain ⟨k, hk, rfl, rfl, hbel⟩ := hrel
    have hs := hbel.size
    by_cases hlt : k < n
    · have i0 : ¬ (k : Int) < 0 := by omega
      have i1 : (k : Int) < (n : Int) := by omega
      have lb : b < wr.heap.size := by omega
      have hk0 := (HC.out k hlt).1
      have hk1 := (HC.out k hlt).2
      have ew : IntKind.i64.wrap ((k : Int) + 1) = (k : Int) + 1 := IntWalk.i64_in _ (by omega)
      have c0 : wr.cell? ⟨b, o + k * 2, none⟩ = some (.int .i64 (brAt l k).frm) := by rw [hbel.cell (p := ⟨b, o + k * 2, none⟩) (show b < w.heap.size by omega)]; exact hk0
      have c1 : wr.cell? ⟨b, o + k * 2 + 1, none⟩ = some (.int .i64 (brAt l k).pct) := by rw [hbel.cell (p := ⟨b, o + k * 2 + 1, none⟩) (show b < w.heap.size by omega)]; exact hk1
      have Hbd := Lib.hid (HB.out k (by omega))
      have Hst : Hid (sumT c l (k + 1) = sumT c l k + clipT c l k * (brAt l k).pct) := rfl
      have Hbe := Lib.hid hbel
      have hp := HPc.out k hlt
      have hf := HFr.out k hlt
      have Hcl : Hid (clipT c l k = max 0 ((if k + 1 < n then min c (brAt l (k + 1)).frm else c) - (brAt l k).frm)) := by show _ = _; rw [Hn.out]; rfl
      generalize sumT c l k = S at Hbd Hst ⊢
      obtain ⟨S2, hS2⟩ : ∃ S2, S2 = sumT c l (k + 1) := ⟨_, rfl⟩
      have HS2 := Lib.hid hS2.symm
      rw [← hS2] at Hst
      clear hS2
      generalize (brAt l k).frm = f at c0 Hcl hf
      generalize (brAt l k).pct = p at c1 Hst hp
      have Hp := Lib.hid hp
      have Hf := Lib.hid hf
      clear hk0 hk1 hbel hp hf
      have key : Hid (∀ x : Int, x = clipT c l k → IntKind.i64.wrap (S + IntKind.i64.wrap (x * p)) = S2) := by
        intro x hx
        have hc0 : 0 ≤ x ∧ x ≤ 1000000000 := by rw [hx, Hcl.out]; have := Hf.out; have := Hc.out; split <;> omega
        have a : 0 ≤ x * p := Int.mul_nonneg hc0.1 Hp.out.1
        have b : x * p ≤ 1000000000 * 100 := Int.mul_le_mul hc0.2 Hp.out.2 Hp.out.1 (by decide)
        have hb := Hbd.out
        rw [show IntKind.i64.wrap (x * p) = x * p from IntWalk.i64_in _ (by omega), Hst.out, ← hx]
        exact IntWalk.i64_in _ (by omega)
      by_cases hk2 : k + 1 < n
      · have d2 : decide ((k : Int) + 1 < (n : Int)) = true := decide_eq_true (by omega)
        have j0 : ¬ (k : Int) + 1 < 0 := by omega
        have j1 : (k : Int) + 1 < (n : Int) := by omega
        have jn : ((k : Int) + 1).toNat = k + 1 := by omega
        have c2 : ∀ X, Below w.heap.size w X → X.cell? ⟨b, o + (k + 1) * 2, none⟩ = some (.int .i64 (brAt l (k + 1)).frm) := fun X hX => by rw [hX.cell (p := ⟨b, o + (k + 1) * 2, none⟩) (show b < w.heap.size by omega)]; exact (HC.out (k + 1) hk2).1
        have HC2 := Lib.hid c2
        rw [if_pos hk2] at Hcl
        clear c2
        have Hf2 := Lib.hid (HFr.out (k + 1) hk2)
        generalize (brAt l (k + 1)).frm = f2 at Hcl HC2 Hf2
        have HY := Lib.hid (Hbe.out.alloc hs (.cells #[.int .i64 f, .int .i64 p] 63))
        have rY := Row.new wr 63 #[.int .i64 f, .int .i64 p]
        obtain ⟨Y, hY⟩ : ∃ Y, Y = wr.alloc (.cells #[.int .i64 f, .int .i64 p] 63) := ⟨_, rfl⟩
        rw [← hY] at HY rY
        have y0 : Y.cell? ⟨wr.heap.size, 0, none⟩ = some (.int .i64 f) := rY.cell (j := 0) (by simp)
        have y1 : Y.cell? ⟨wr.heap.size, 1, none⟩ = some (.int .i64 p) := rY.cell (j := 1) (by simp)
        have lY := rY.lt
        have y2 := HC2.out Y HY.out
        have lb2 : b < Y.heap.size := by omega
        clear rY HC2
        go_upto_region 5 with fail
        rw [← hY]
        clear hY
        go_wp2_with fail
        refine ⟨⟨k + 1, by omega, by go_num, ?_, HY.out⟩, by simp [intOf]; omega⟩
        rw [HS2.out, ← key.out _ rfl, IntWalk.i64_left, IntWalk.i64_left, Hcl.out]
        have := Hf.out
        have := Hf2.out
        have := Hc.out
        rw [IntWalk.wrap64_in ((if f2 < c then f2 else c) - f) (by split <;> omega)]
        rw [show (if 0 < (if f2 < c then f2 else c) - f then (if f2 < c then f2 else c) - f else 0) = max 0 (min c f2 - f) by split <;> split <;> omega]
      · have d2 : decide ((k : Int) + 1 < (n : Int)) = false := decide_eq_false (by omega)
        rw [if_neg hk2] at Hcl
        have HY := Lib.hid (Hbe.out.alloc hs (.cells #[.int .i64 f, .int .i64 p] 63))
        have rY := Row.new wr 63 #[.int .i64 f, .int .i64 p]
        obtain ⟨Y, hY⟩ : ∃ Y, Y = wr.alloc (.cells #[.int .i64 f, .int .i64 p] 63) := ⟨_, rfl⟩
        rw [← hY] at HY rY
        have y0 : Y.cell? ⟨wr.heap.size, 0, none⟩ = some (.int .i64 f) := rY.cell (j := 0) (by simp)
        have y1 : Y.cell? ⟨wr.heap.size, 1, none⟩ = some (.int .i64 p) := rY.cell (j := 1) (by simp)
        have lY := rY.lt
        have hk3 : ¬ (k : Int) + 1 < (n : Int) := by omega
        clear rY
        go_upto_region 5 with fail
        rw [← hY]
        clear hY
        go_wp2_with fail
        refine ⟨⟨k + 1, by omega, by go_num, ?_, HY.out⟩, by simp [intOf]; omega⟩
        rw [HS2.out, ← key.out _ rfl, IntWalk.i64_left, IntWalk.i64_left, Hcl.out]
        have := Hf.out
        have := Hc.out
        rw [IntWalk.wrap64_in (c - f) (by omega)]
        rw [show (if 0 < c - f then c - f else 0) = max 0 (c - f) by split <;> omega]
    · have e : k = n := by omega
      subst e
      go_wp2_with fail
      go_ret
      have hb := HB.out k (Nat.le_refl _)
      refine ⟨ret_intT ?_, hbel⟩
      rw [HT.out, Int.tdiv_eq_ediv_of_nonneg hb.1]
      exact IntWalk.wrap64_in _ (by omega)
end Go.Proofs.Ytdechfjlbdbbnaa
