/- The walk of TokensFree. Conditions: the arguments read as data. -/
import Derived.Test.YtpcceankhgjjmaaFm
import Derived.Test.YtpcceankhgjjmaaNw
import Derived.Deep.RegionHeld3
import Derived.Deep.DeepCutAuto
import Derived.IntWalk
import Derived.Great.BuildSlice
import Derived.Test.YtpcceankhgjjmaaKi
namespace Go.Proofs.Ytpcceankhgjjmaa
open Go.RowKit

theorem range0 : Array.range 0 = #[] := rfl
theorem run_bsD (w : World) (v0 v1 v2 v3 v4 : Int) : (Instr.buildSlice 26 1 #[(0, .agg #[.int .i64 v0, .int .i64 v1, .int .i64 v2, .int .i64 v3, .int .i64 v4])]).run Try.prog w = .ok (.slice (some ⟨w.heap.size, 0, none⟩) 1 1) (w.alloc (.cells #[.int .i64 v0, .int .i64 v1, .int .i64 v2, .int .i64 v3, .int .i64 v4] 65)) := by
  obtain ⟨i0, hi, hz0, hz1, hz2⟩ := info_parts Try.info_deal
  refine run_buildSlice w _ _ 1 _ _ i0 _ Try.underlying26 hi hz0 ?_ ?_ ?_
  · rw [hz1]; decide
  · rw [hz1]; decide
  · rw [hz1]; simp [Instr.fill, Value.cells, Array.range_succ, range0]
theorem step_bsD {ops : Array Oper} {o : Oper} {a : Act} {w : World} {K : Act → World → Prop} {Q : Exit → Act → World → Prop} {E : Prop} (hgd : o.guard = none) (s : Operand)
    (ho : o.op = .buildSlice 26 1 #[(0, s)]) (v0 v1 v2 v3 v4 : Int) (hs : a.eval s = .agg #[.int .i64 v0, .int .i64 v1, .int .i64 v2, .int .i64 v3, .int .i64 v4])
    (h : K (a.put o.dst (.slice (some ⟨w.heap.size, 0, none⟩) 1 1)) (w.alloc (.cells #[.int .i64 v0, .int .i64 v1, .int .i64 v2, .int .i64 v3, .int .i64 v4] 65))) :
    if Region.wanted o (yielded ops a.tmps) = true then Oper.wp Try.prog o a w K Q else E := by
  rw [if_pos (by simp [Region.wanted, hgd])]
  unfold Oper.wp execOp
  simp only [ho, Sem.run_bind, List.map_toArray, List.map_cons, List.map_nil, hs, run_bsD, Result.andThen_ok]
  exact h
/-- A count whose slices lie in blocks from N on and below B; slot 10 points below N, or from B on. -/
def FreeK (a : Act) (x : World) (C : Count) (K : CRefs) : Prop := ∃ N B, CountIn x B C K ∧ B ≤ x.heap.size ∧ CFresh N K ∧ ∀ g, a.tmps[10]? = some (.pointer (some ⟨g, 0, none⟩)) → g < N ∨ B ≤ g
def PlayC2 (X Y : World) (C : Count) (E : Int) (e : Ending) (w' : World) : Prop := ∃ K, e = .returned (.tuple #[countV C K, .int .i64 E]) ∧ CountIn w' w'.heap.size C K ∧ CFresh X.heap.size K ∧ Below X.heap.size X w' ∧ Below Y.heap.size Y w'
section
variable {a a' : Act} {x : World} {C : Count} {K : CRefs} {g : Nat} {v0 v1 v2 v3 v4 : Value}
theorem size5 : (((((x.setCell ⟨g, 0, none⟩ v0).setCell ⟨g, 1, none⟩ v1).setCell ⟨g, 2, none⟩ v2).setCell ⟨g, 3, none⟩ v3).setCell ⟨g, 4, none⟩ v4).heap.size = x.heap.size := by simp [World.setCell]
theorem CountIn.setOut {w : World} {B : Nat} {C : Count} {K : CRefs} (h : CountIn w B C K) {p : Addr} (hp : B ≤ p.block) (u : Value) : CountIn (w.setCell p u) B C K :=
  ⟨h.s1.setCell hp u, h.s2.setCell hp u, h.s3.setCell hp u, h.s4.setCell hp u, h.l1, h.l2, h.l3, h.l4⟩
theorem count5 {N B : Nat} (h : CountIn x B C K) (hf : CFresh N K) (hg : g < N ∨ B ≤ g) : CountIn (((((x.setCell ⟨g, 0, none⟩ v0).setCell ⟨g, 1, none⟩ v1).setCell ⟨g, 2, none⟩ v2).setCell ⟨g, 3, none⟩ v3).setCell ⟨g, 4, none⟩ v4) B C K := by
  rcases hg with hg | hg
  · exact ((((h.far hf (p := ⟨g, 0, none⟩) hg v0).far hf (p := ⟨g, 1, none⟩) hg v1).far hf (p := ⟨g, 2, none⟩) hg v2).far hf (p := ⟨g, 3, none⟩) hg v3).far hf (p := ⟨g, 4, none⟩) hg v4
  · exact ((((h.setOut (p := ⟨g, 0, none⟩) hg v0).setOut (p := ⟨g, 1, none⟩) hg v1).setOut (p := ⟨g, 2, none⟩) hg v2).setOut (p := ⟨g, 3, none⟩) hg v3).setOut (p := ⟨g, 4, none⟩) hg v4
theorem FreeK.new10 (h : FreeK a x C K) (ha : a'.tmps[10]? = some (.pointer (some ⟨x.heap.size, 0, none⟩))) (o : Obj) : FreeK a' (x.alloc o) C K := by
  obtain ⟨N, B, h1, h2, h3, h4⟩ := h
  refine ⟨N, B, h1.keep fun p hp => World.cell?_alloc_lt x _ p (by omega), Nat.le_trans h2 (by simp), h3, fun g e => ?_⟩
  rw [ha] at e
  have e' := Option.some.inj e
  injection e' with e'
  injection e' with e'
  injection e' with e'
  subst e'
  exact .inr h2
theorem FreeK.set5 (h : FreeK a x C K) (ha : a.tmps[10]? = some (.pointer (some ⟨g, 0, none⟩))) : FreeK a (((((x.setCell ⟨g, 0, none⟩ v0).setCell ⟨g, 1, none⟩ v1).setCell ⟨g, 2, none⟩ v2).setCell ⟨g, 3, none⟩ v3).setCell ⟨g, 4, none⟩ v4) C K := by
  obtain ⟨N, B, h1, h2, h3, h4⟩ := h
  exact ⟨N, B, count5 h1 h3 (h4 g ha), by rw [size5]; exact h2, h3, h4⟩
theorem FreeK.count5 (h : FreeK a x C K) (ha : a.tmps[10]? = some (.pointer (some ⟨g, 0, none⟩))) : CountIn (((((x.setCell ⟨g, 0, none⟩ v0).setCell ⟨g, 1, none⟩ v1).setCell ⟨g, 2, none⟩ v2).setCell ⟨g, 3, none⟩ v3).setCell ⟨g, 4, none⟩ v4) (((((x.setCell ⟨g, 0, none⟩ v0).setCell ⟨g, 1, none⟩ v1).setCell ⟨g, 2, none⟩ v2).setCell ⟨g, 3, none⟩ v3).setCell ⟨g, 4, none⟩ v4).heap.size C K := by
  obtain ⟨N, B, h1, h2, h3, h4⟩ := h
  exact (Go.Proofs.Ytpcceankhgjjmaa.count5 h1 h3 (h4 g ha)).more (by rw [size5]; exact h2)
end

set_option maxHeartbeats 40000000 in
set_option maxRecDepth 100000 in
theorem free_walk (F : Fair) (R : Refs) (l : List Deal) (r : Deal) (A : Option Addr) (c B : Nat) (w : World) (hB : B ≤ w.heap.size) (hF : FairIn w B F R) (hl : Reads w B 5 A l.length (dealCells l)) (hn : l.length ≤ maxLen) :
    Calls Try.prog 13 #[fairV F R, .slice A l.length c, dealV r] w (WPost w) := by
  obtain ⟨at_, kind, a, b, n⟩ := r
  obtain ⟨W, hW⟩ : ∃ W, W = (w.alloc (.cells (fairCells F R) 25)).alloc (.cells #[.int .i64 at_, .int .i64 kind, .int .i64 a, .int .i64 b, .int .i64 n] 65) := ⟨_, rfl⟩
  have sW : W.heap.size = w.heap.size + 2 := by subst hW; simp
  have bW : Below w.heap.size w W := by subst hW; exact ((Below.refl _ _).alloc (Nat.le_refl _) _).alloc (by simp) _
  have rF : Row W w.heap.size 25 (fairCells F R).toList := by subst hW; exact (row_new _ _ _ _ rfl).alloc _
  have rD : Row W (w.heap.size + 1) 65 [.int .i64 at_, .int .i64 kind, .int .i64 a, .int .i64 b, .int .i64 n] := by subst hW; exact row_new _ _ _ _ (by simp)
  have hFW := hF.below (bW.mono hB)
  have hlW := hl.below (bW.mono hB)
  have hn' := hn
  unfold maxLen at hn'
  obtain ⟨_, q0, q1, q2, q3, q4, q5, q6, q7⟩ := Row.at_8 rF
  obtain ⟨_, d0, d1, d2, d3, d4⟩ := Row.at_5 rD
  unfold fairV dealV
  cases hlong : longB l with
  | true =>
    go_enter Try.func13, Try.ntmps13
    go_wp2_with (go_at_call 14; refine (long_any l _ _ _ hn).mono ?_; rintro e w' ⟨rfl, rfl⟩)
    rw [← hW]
    refine (works_any _).mono ?_
    rintro e w1 ⟨rfl, hb1⟩
    go_wp2_with fail
    go_ret
    exact ⟨rfl, below_step bW hb1⟩
  | false =>
    by_cases h200 : 200 ≤ l.length
    · go_enter Try.func13, Try.ntmps13
      go_wp2_with (go_at_call 14; refine (long_any l _ _ _ hn).mono ?_; rintro e w' ⟨rfl, rfl⟩)
      rw [← hW]
      refine (works_any _).mono ?_
      rintro e w1 ⟨rfl, hb1⟩
      go_wp2_with fail
      go_ret
      exact ⟨rfl, below_step bW hb1⟩
    go_enter Try.func13, Try.ntmps13
    go_wp2_with (go_at_call 14; refine (long_any l _ _ _ hn).mono ?_; rintro e w' ⟨rfl, rfl⟩)
    rw [← hW]
    clear hW
    refine (Play_new F R l A c B _ (by omega) hFW hlW hn).mono ?_
    rintro e w1 ⟨hb1, K, rfl, hC, hfr⟩
    have b1 := below_step bW hb1
    have rF1 := rF.below hb1 rF.lt
    have rD1 := rD.below hb1 rD.lt
    have z1 := hb1.size
    have z2 : w.heap.size + 1 < w1.heap.size := by omega
    obtain ⟨A1, c1, A2, c2, A3, c3, A4, c4⟩ := K
    unfold countV
    dsimp only
    clear q0 q1 q2 q3 q4 q5 q6 q7 d0 d1 d2 d3 d4
    have few := Lib.hid (show l.length < 200 by omega)
    go_upto_if 28 with (fail)
    obtain ⟨C, eC⟩ : ∃ C, C = playS F l := ⟨_, rfl⟩
    obtain ⟨er, eE⟩ : ∃ er, er = errS F l := ⟨_, rfl⟩
    rw [← eC] at hC
    rw [← eC, ← eE]
    have EC := Lib.hid eC
    have EE := Lib.hid eE
    clear eC eE
    obtain ⟨X, hX⟩ : ∃ X, X = w1.alloc (.cells #[.slice A1 C.stock.length c1, .slice A2 C.cash.length c2, .slice A3 C.purses.length c3, .slice A4 C.boxes.length c4, .int .i64 C.lost] 35) := ⟨_, rfl⟩
    rw [← hX]
    have sX : X.heap.size = w1.heap.size + 1 := by subst hX; simp
    have bX : Below w.heap.size w X := by subst hX; exact b1.alloc b1.size _
    have rFX : Row X w.heap.size 25 (fairCells F R).toList := by subst hX; exact rF1.alloc _
    have rDX : Row X (w.heap.size + 1) 65 [.int .i64 at_, .int .i64 kind, .int .i64 a, .int .i64 b, .int .i64 n] := by subst hX; exact rD1.alloc _
    have rCX : Row X w1.heap.size 35 [.slice A1 C.stock.length c1, .slice A2 C.cash.length c2, .slice A3 C.purses.length c3, .slice A4 C.boxes.length c4, .int .i64 C.lost] := by subst hX; exact row_new _ _ _ _ rfl
    have CX : CountIn X w1.heap.size C ⟨A1, c1, A2, c2, A3, c3, A4, c4⟩ := by subst hX; exact hC.keep fun p hp => World.cell?_alloc_lt w1 _ p hp
    have FX := hF.below (bX.mono hB)
    have lX := hl.below (bX.mono hB)
    clear hX hC hFW hlW
    go_cut [9] (fun s9 wx => s9 = .int .i64 (lastAt l) ∧ wx = X)
    case first =>
      by_cases h0 : 0 < l.length
      · obtain ⟨b, o, rfl, hb, hc0, _⟩ := lX.at5 (k := l.length - 1) (by omega)
        have hla : Hid ((getd l (l.length - 1)).at_ = lastAt l) := by show _ = _; simp [lastAt, h0]
        rw [hla.out] at hc0
        have h1 : (0 : Int) < (l.length : Int) := by omega
        have h2 : (0 : Int) ≤ (l.length : Int) - 1 := by omega
        have h3 : (l.length : Int) - 1 < (l.length : Int) := by omega
        have h4 : ((l.length : Int) - 1).toNat = l.length - 1 := by omega
        go_wp2_with fail
        go_meet
        exact ⟨rfl, rfl⟩
      · have hla : Hid (lastAt l = 0) := by show _ = _; simp [lastAt, h0]
        have h1 : ¬ (0 : Int) < (l.length : Int) := by omega
        clear h0
        go_wp2_with fail
        go_meet
        exact ⟨by rw [hla.out], rfl⟩
    case rest =>
      obtain ⟨rfl, rfl⟩ := hcut
      obtain ⟨fD, d0, d1, d2, d3, d4⟩ := Row.at_5 rDX
      obtain ⟨_, x0, x1, x2, x3, x4⟩ := Row.at_5 rCX
      by_cases he : er = 0
      case neg =>
        have he' : (er != 0) = true := by simpa using he
        clear he
        go_wp2_with fail
        refine (works_any _).mono ?_
        rintro e w4 ⟨rfl, hb4⟩
        go_wp2_with fail
        go_ret
        exact ⟨rfl, below_step bX hb4⟩
      have hw := went (F := F) (l := l) (by rw [← EE.out]; exact he)
      rw [← EC.out] at hw
      have HW := Lib.hid hw
      clear hw
      subst he
      by_cases t1 : at_ < lastAt l
      · have _ := bX
        go_wp2_with fail
        refine (works_any _).mono ?_
        rintro e w4 ⟨rfl, hb4⟩
        go_wp2_with fail
        go_ret
        exact ⟨rfl, below_step bX hb4⟩
      by_cases t2 : 1440 < at_
      · have _ := bX
        go_wp2_with fail
        refine (works_any _).mono ?_
        rintro e w4 ⟨rfl, hb4⟩
        go_wp2_with fail
        go_ret
        exact ⟨rfl, below_step bX hb4⟩
      by_cases a1 : a < 0
      · have _ := bX
        go_wp2_with fail
        refine (works_any _).mono ?_
        rintro e w4 ⟨rfl, hb4⟩
        go_wp2_with fail
        go_ret
        exact ⟨rfl, below_step bX hb4⟩
      by_cases a2 : (C.purses.length : Int) ≤ a
      · have _ := bX
        go_wp2_with fail
        refine (works_any _).mono ?_
        rintro e w4 ⟨rfl, hb4⟩
        go_wp2_with fail
        go_ret
        exact ⟨rfl, below_step bX hb4⟩
      by_cases b1 : b < 0
      · have _ := bX
        go_wp2_with fail
        refine (works_any _).mono ?_
        rintro e w4 ⟨rfl, hb4⟩
        go_wp2_with fail
        go_ret
        exact ⟨rfl, below_step bX hb4⟩
      by_cases b2 : (C.boxes.length : Int) ≤ b
      · have _ := bX
        go_wp2_with fail
        refine (works_any _).mono ?_
        rintro e w4 ⟨rfl, hb4⟩
        go_wp2_with fail
        go_ret
        exact ⟨rfl, below_step bX hb4⟩
      by_cases n1 : n < 0
      · have _ := bX
        go_wp2_with fail
        refine (works_any _).mono ?_
        rintro e w4 ⟨rfl, hb4⟩
        go_wp2_with fail
        go_ret
        exact ⟨rfl, below_step bX hb4⟩
      by_cases n2 : 1000 < n
      · have _ := bX
        go_wp2_with fail
        refine (works_any _).mono ?_
        rintro e w4 ⟨rfl, hb4⟩
        go_wp2_with fail
        go_ret
        exact ⟨rfl, below_step bX hb4⟩
      obtain ⟨ka, rfl⟩ := Int.eq_ofNat_of_zero_le (show 0 ≤ a by omega)
      obtain ⟨kb, rfl⟩ := Int.eq_ofNat_of_zero_le (show 0 ≤ b by omega)
      have HQ : Hid (Rides C l ⟨at_, 2, ka, kb, n⟩) := (⟨rfl, by dsimp only; omega, by dsimp only; omega, by dsimp only; omega, by dsimp only; omega, by dsimp only; omega, by dsimp only; omega, by dsimp only; omega, by dsimp only; omega⟩ : Rides C l ⟨at_, 2, ka, kb, n⟩)
      go_upto_region 10 with (fail)
      obtain ⟨Y, hY⟩ : ∃ Y, Y = wc.setCell ⟨w.heap.size + 1, 1, none⟩ (.int .i64 2) := ⟨_, rfl⟩
      rw [← hY]
      have bY : Below w.heap.size w Y := by subst hY; exact bX.setCell (by simp) _
      have rFY : Row Y w.heap.size 25 (fairCells F R).toList := by subst hY; exact rFX.far (by simp) _
      have rDY : Row Y (w.heap.size + 1) 65 [.int .i64 at_, .int .i64 2, .int .i64 ka, .int .i64 kb, .int .i64 n] := by subst hY; exact rDX.set 1 _
      have rCY : Row Y w1.heap.size 35 [.slice A1 C.stock.length c1, .slice A2 C.cash.length c2, .slice A3 C.purses.length c3, .slice A4 C.boxes.length c4, .int .i64 C.lost] := by subst hY; exact rCX.far (by simp; omega) _
      have CY : CountIn Y w1.heap.size C ⟨A1, c1, A2, c2, A3, c3, A4, c4⟩ := by subst hY; exact CX.far hfr (by simp; omega) _
      have sY : w1.heap.size < Y.heap.size := by subst hY; simp [World.setCell]; omega
      have FY := hF.below (bY.mono hB)
      have lY := hl.below (bY.mono hB)
      have hBY : B ≤ Y.heap.size := by have := bY.size; omega
      clear hY d0 d1 d2 d3 d4 x0 x1 x2 x3 x4 fD FX lX CX rFX rDX rCX
      have SWX := Lib.hid (And.intro sW sX)
      clear sW sX
      go_cut [8, 10] (fun s8 s10 wx => FreeMid Y F (l ++ [⟨at_, 2, ka, kb, n⟩]) s8 s10 wx)
      case first =>
       as_aux_lemma =>
        obtain ⟨i0, hi, hz0, hz1, hz2⟩ := info_parts Try.info_deal
        have HL : Hid (∀ x : World, Below Y.heap.size Y x → Reads x B 5 A l.length (dealCells l)) := fun x hx => lY.below (hx.mono hBY)
        have HP : Hid (∀ (X : World) (A' : Option Addr) (c' B' : Nat), Below Y.heap.size Y X → Reads X B' 5 A' (l.length + 1) (dealCells l ++ dealCells [⟨at_, 2, ka, kb, n⟩]) → B' ≤ X.heap.size → Calls Try.prog 20 #[fairV F R, .slice A' (l.length + 1) c'] X fun e w' => PlNew X F (l ++ [⟨at_, 2, ka, kb, n⟩]) e w' ∧ Below Y.heap.size Y w') := fun X A' c' B' hX hr hB' => Play_more F R l ⟨at_, 2, ka, kb, n⟩ A' c' B B' Y X FY hBY hX hr hB' few.out
        have m1 : l.length ≤ maxLen := hn
        have m2 : l.length * 40 ≤ 140737488355328 := by omega
        have m3 : l.length + 1 ≤ maxLen := by unfold maxLen; omega
        have m4 : (l.length + 1) * 40 ≤ 140737488355328 := by omega
        have y0 : w.heap.size < Y.heap.size := by omega
        have y1 : w.heap.size + 1 < Y.heap.size := by omega
        obtain ⟨_, q0, q1, q2, q3, q4, q5, q6, q7⟩ := Row.at_8 rFY.drew
        obtain ⟨_, d0, d1, d2, d3, d4⟩ := Row.at_5 rDY.drew
        have HLN := Lib.hid (show (dealCells l ++ dealCells [(⟨at_, 2, ka, kb, n⟩ : Deal)]).length = (l.length + 1) * 5 by simp [dealCells_length]; omega)
        have NE := Lib.hid (show (35 : TypeId) ≠ 25 ∧ (35 : TypeId) ≠ 65 ∧ (65 : TypeId) ≠ 35 from ⟨by decide, by decide, by decide⟩)
        obtain ⟨C2, eC⟩ : ∃ C2, C2 = playS F (l ++ [⟨at_, 2, ka, kb, n⟩]) := ⟨_, rfl⟩
        obtain ⟨E2, eE⟩ : ∃ E2, E2 = errS F (l ++ [⟨at_, 2, ka, kb, n⟩]) := ⟨_, rfl⟩
        have HPC : Hid (∀ (X : World) (A' : Option Addr) (c' B' : Nat), Below Y.heap.size Y X → Reads X B' 5 A' (l.length + 1) (dealCells l ++ dealCells [⟨at_, 2, ka, kb, n⟩]) → B' ≤ X.heap.size → Calls Try.prog 20 #[fairV F R, .slice A' (l.length + 1) c'] X (PlayC2 X Y C2 E2)) := fun X A' c' B' hX hr hB' => by
          subst eC eE
          exact (HP.out X A' c' B' hX hr hB').mono fun e w' ⟨⟨h1, K, h2, h3, h4⟩, h5⟩ => ⟨K, h2, h3, h4, h1, h5⟩
        have HC := Lib.hid eC
        have HE := Lib.hid eE
        clear eC eE
        refine wp_region_held_drew (S := (fun x => x.cell? ⟨w.heap.size, 0, none⟩ = some (.int .i64 F.purses) ∧ x.cell? ⟨w.heap.size, 1, none⟩ = some (.int .i64 F.boxes) ∧ x.cell? ⟨w.heap.size, 2, none⟩ = some (.slice R.A1 F.stock.length R.c1) ∧ x.cell? ⟨w.heap.size, 3, none⟩ = some (.slice R.A2 F.cash.length R.c2) ∧ x.cell? ⟨w.heap.size, 4, none⟩ = some (.slice R.A3 F.bundles.length R.c3) ∧ x.cell? ⟨w.heap.size, 5, none⟩ = some (.int .i64 F.refund) ∧ x.cell? ⟨w.heap.size, 6, none⟩ = some (.int .i64 F.band) ∧ x.cell? ⟨w.heap.size, 7, none⟩ = some (.int .i64 F.hours) ∧ x.cell? ⟨w.heap.size + 1, 0, none⟩ = some (.int .i64 at_) ∧ x.cell? ⟨w.heap.size + 1, 1, none⟩ = some (.int .i64 2) ∧ x.cell? ⟨w.heap.size + 1, 2, none⟩ = some (.int .i64 ka) ∧ x.cell? ⟨w.heap.size + 1, 3, none⟩ = some (.int .i64 kb) ∧ x.cell? ⟨w.heap.size + 1, 4, none⟩ = some (.int .i64 n))) (by kernel_rfl) ⟨q0, q1, q2, q3, q4, q5, q6, q7, d0, d1, d2, d3, d4⟩ (fun hS => ?_)
        refine wpAnyH_take (i := 0) (oi := ⟨some 88, _, _, _, _, _⟩) (v := ?tkv0) rfl (by kernel_rfl) (by kernel_rfl) (by kernel_rfl) (fun _ _ _ h => h) (Or.inl ⟨by rfl, ?tky0⟩) (by assumption) ?tkr0
        case tky0 => (intro x hx; obtain ⟨s0, s1, s2, s3, s4, s5, s6, s7, t0, t1, t2, t3, t4⟩ := hx; go_simp; try with_reducible rfl)
        case tkr0 =>
        simp only [Act.put, List.setIfInBounds_toArray, List.set_cons_zero, List.set_cons_succ]
        refine wpAnyH_take (i := 1) (oi := ⟨some 89, _, _, _, _, _⟩) (v := ?tkv1) rfl (by kernel_rfl) (by kernel_rfl) (by kernel_rfl) (fun _ _ _ h => h) (Or.inl ⟨by rfl, ?tky1⟩) (by assumption) ?tkr1
        case tky1 => (intro x hx; obtain ⟨s0, s1, s2, s3, s4, s5, s6, s7, t0, t1, t2, t3, t4⟩ := hx; go_simp; try with_reducible rfl)
        case tkr1 =>
        simp only [Act.put, List.setIfInBounds_toArray, List.set_cons_zero, List.set_cons_succ]
        refine wpAnyH_take (i := 3) (oi := ⟨some 91, _, _, _, _, _⟩) (v := ?tkv3) rfl (by kernel_rfl) (by kernel_rfl) (by kernel_rfl) (fun _ _ _ h => h) (Or.inl ⟨by rfl, ?tky3⟩) (by assumption) ?tkr3
        case tky3 => (intro x hx; obtain ⟨s0, s1, s2, s3, s4, s5, s6, s7, t0, t1, t2, t3, t4⟩ := hx; go_simp; try with_reducible rfl)
        case tkr3 =>
        simp only [Act.put, List.setIfInBounds_toArray, List.set_cons_zero, List.set_cons_succ]
        refine region_use 4 [2, 4, 5, 6, 7, 8, 9, 10, 11, 12] [11, 12] (fun i => match i with | 5 => [2, 4] | 6 => [5] | 7 => [6] | 8 => [7] | 9 => [7] | 11 => [8, 10] | 12 => [9] | _ => []) (by kernel_rfl) (by kernel_rfl) (by kernel_rfl) (by kernel_rfl) (by kernel_rfl) (by kernel_rfl)
          (fun a x => ∃ x8 x10 x87 x90 x92 x93 x94 x95 x96, a = { tmps := #[.agg #[.int .i64 F.purses, .int .i64 F.boxes, .slice R.A1 F.stock.length R.c1, .slice R.A2 F.cash.length R.c2, .slice R.A3 F.bundles.length R.c3, .int .i64 F.refund, .int .i64 F.band, .int .i64 F.hours], .slice A l.length c, .agg #[.int .i64 at_, .int .i64 kind, .int .i64 (ka : Int), .int .i64 (kb : Int), .int .i64 n], .pointer (some ⟨w.heap.size, 0, none⟩), undef, .pointer (some ⟨w.heap.size + 1, 0, none⟩), .bool false, .pointer (some ⟨w1.heap.size, 0, none⟩), x8, .int .i64 (lastAt l), x10, undef, u12, u13, u14, u15, u16, u17, u18, u19, u20, u21, u22, u23, u24, u25, u26, u27, u28, u29, u30, u31, u32, u33, u34, u35, .int .i64 0, .bool false, .bool false, .pointer (some ⟨w.heap.size + 1, 0, none⟩), .int .i64 at_, .int .i64 (lastAt l), .bool false, .bool false, .bool false, .pointer (some ⟨w.heap.size + 1, 0, none⟩), .int .i64 at_, .bool false, .bool false, .bool false, .pointer (some ⟨w.heap.size + 1, 2, none⟩), .int .i64 (ka : Int), .bool false, .bool false, .bool false, .pointer (some ⟨w.heap.size + 1, 2, none⟩), .int .i64 (ka : Int), .pointer (some ⟨w1.heap.size, 2, none⟩), .slice A3 C.purses.length c3, .int .i64 (C.purses.length : Int), .bool false, .bool false, .bool false, .pointer (some ⟨w.heap.size + 1, 3, none⟩), .int .i64 (kb : Int), .bool false, .bool false, .bool false, .pointer (some ⟨w.heap.size + 1, 3, none⟩), .int .i64 (kb : Int), .pointer (some ⟨w1.heap.size, 3, none⟩), .slice A4 C.boxes.length c4, .int .i64 (C.boxes.length : Int), .bool false, .bool false, .bool false, .pointer (some ⟨w.heap.size + 1, 4, none⟩), .int .i64 n, .bool false, .bool false, .bool false, .pointer (some ⟨w.heap.size + 1, 4, none⟩), .int .i64 n, .bool false, .bool false, u85, .pointer (some ⟨w.heap.size + 1, 1, none⟩), x87, .agg #[.int .i64 F.purses, .int .i64 F.boxes, .slice R.A1 F.stock.length R.c1, .slice R.A2 F.cash.length R.c2, .slice R.A3 F.bundles.length R.c3, .int .i64 F.refund, .int .i64 F.band, .int .i64 F.hours], .slice A l.length c, x90, .agg #[.int .i64 at_, .int .i64 2, .int .i64 (ka : Int), .int .i64 (kb : Int), .int .i64 n], x92, x93, x94, x95, x96, u97, u98, u99, u100, u101, u102, u103, u104, u105, u106, u107, u108, u109, u110, u111, u112, u113, u114, u115, u116, u117, u118, u119, u120, u121, u122, u123, u124, u125, u126, u127, u128, u129, u130, u131, u132, u133, u134, u135, u136, u137, u138, u139, u140, u141, u142, u143, u144, u145, u146, u147, u148, u149, u150, u151, u152, u153, u154, u155, u156, u157, u158, u159, u160, u161, u162, u163, u164, u165, u166, u167, u168, u169, u170, u171, u172, u173, u174, u175, u176, u177, u178, u179, u180, u181, u182, u183], defers := [] } ∧ Below Y.heap.size Y x ∧ (∀ g, x10 = .pointer (some ⟨g, 0, none⟩) → g < x.heap.size))
          (fun k a x => match k with
            | 2 => ∃ base v, a.tmps[90]? = some v ∧ Y.heap.size ≤ base ∧ base ≤ x.heap.size ∧ x.ownsRow base 65 5 v l.length (dealCells l)
            | 4 => ∃ g, a.tmps[92]? = some (.slice (some ⟨g, 0, none⟩) 1 1) ∧ Row x g 65 [.int .i64 at_, .int .i64 2, .int .i64 ka, .int .i64 kb, .int .i64 n]
            | 5 => ∃ g cap, a.tmps[93]? = some (.slice (some ⟨g, 0, none⟩) (l.length + 1) cap) ∧ Reads x x.heap.size 5 (some ⟨g, 0, none⟩) (l.length + 1) (dealCells l ++ dealCells [⟨at_, 2, ka, kb, n⟩])
            | 6 => ∃ K, a.tmps[94]? = some (.tuple #[countV C2 K, .int .i64 E2]) ∧ FreeK a x C2 K
            | 7 => ∃ K, a.tmps[87]? = some (.tuple #[countV C2 K, .int .i64 E2]) ∧ FreeK a x C2 K
            | 8 => ∃ K, a.tmps[95]? = some (countV C2 K) ∧ FreeK a x C2 K
            | 9 => a.tmps[96]? = some (.int .i64 E2)
            | 10 => ∃ g c0 c1 c2 c3 c4, a.tmps[10]? = some (.pointer (some ⟨g, 0, none⟩)) ∧ Y.heap.size ≤ g ∧ Row x g 35 [c0, c1, c2, c3, c4]
            | 11 => ∃ g K, a.tmps[10]? = some (.pointer (some ⟨g, 0, none⟩)) ∧ Y.heap.size ≤ g ∧ CountIn x x.heap.size C2 K ∧ Row x g 35 [.slice K.A1 C2.stock.length K.c1, .slice K.A2 C2.cash.length K.c2, .slice K.A3 C2.purses.length K.c3, .slice K.A4 C2.boxes.length K.c4, .int .i64 C2.lost]
            | 12 => a.tmps[8]? = some (.int .i64 E2)
            | _ => True)
          ?gs ?steps ?fin _ _ _ (Nat.le_of_ble_eq_true (by kernel_rfl)) ⟨.int .i64 0, undef, u87, u90, u92, u93, u94, u95, u96, rfl, below_drewN (Below.refl _ _) 1, fun g e => by simp [undef] at e⟩
        case gs =>
          rintro a x ⟨x8, x10, x87, x90, x92, x93, x94, x95, x96, rfl, hb, hl10⟩
          obtain ⟨_, q0, q1, q2, q3, q4, q5, q6, q7⟩ := Row.at_8 (rFY.below hb y0)
          obtain ⟨_, d0, d1, d2, d3, d4⟩ := Row.at_5 (rDY.below hb y1)
          exact ⟨q0, q1, q2, q3, q4, q5, q6, q7, d0, d1, d2, d3, d4⟩
        case fin =>
          rintro a x ⟨x8, x10, x87, x90, x92, x93, x94, x95, x96, rfl, hb, hl10⟩ hR
          obtain ⟨g, K, h10, hg, hC2, hrow⟩ := hR 11 (by simp)
          have h8 := hR 12 (by simp)
          have e10 : x10 = .pointer (some ⟨g, 0, none⟩) := Option.some.inj h10
          have e8 : x8 = .int .i64 E2 := Option.some.inj h8
          subst e10 e8
          clear hR h10 h8
          go_wp2_with fail
          go_meet
          refine ⟨g, K, by rw [HE.out], rfl, hg, hb, ?_, ?_⟩
          · rw [← HC.out]; exact hC2
          · rw [← HC.out]; exact hrow
        case steps =>
          intro i hi a x hG hD
          simp only [List.mem_cons, List.not_mem_nil, or_false] at hi
          rcases hi with rfl | rfl | rfl | rfl | rfl | rfl | rfl | rfl | rfl | rfl
          · obtain ⟨x8, x10, x87, x90, x92, x93, x94, x95, x96, rfl, hb, hl10⟩ := hG
            refine wpOp_step rfl (fun K0 hK0 => ?_)
            have HK := Lib.hid hK0
            clear hK0
            refine step_app_nil _ (by rfl) _ _ _ (by rfl) _ i0 _ 5 40 Try.underlying26 hi hz0 hz1 hz2 rfl (by decide) (by rfl) B A l.length c (dealCells l) (by rfl) (HL.out _ hb) (deal_one l) m1 m2 ?_
            intro v1 x1 hown1 hbel1
            simp only [Act.put, List.setIfInBounds_toArray, List.set_cons_zero, List.set_cons_succ]
            refine HK.out _ _ ⟨⟨x8, x10, x87, v1, x92, x93, x94, x95, x96, rfl, hb.trans (hbel1.mono hb.size), fun g e => Nat.lt_of_lt_of_le (hl10 g e) hbel1.size⟩, ⟨x.heap.size, v1, rfl, hb.size, hbel1.size, hown1⟩, ?_⟩
            intro k hk hne hnd hR
            simp only [List.mem_cons, List.not_mem_nil, or_false] at hk
            rcases hk with rfl | rfl | rfl | rfl | rfl | rfl | rfl | rfl | rfl | rfl
            · exact absurd rfl hne
            · (obtain ⟨g, h1, h2⟩ := hR; exact ⟨g, h1, h2.below hbel1 h2.lt⟩)
            · exact (Bool.false_ne_true (Eq.trans (Eq.symm (by kernel_rfl)) hnd)).elim
            · exact (Bool.false_ne_true (Eq.trans (Eq.symm (by kernel_rfl)) hnd)).elim
            · exact (Bool.false_ne_true (Eq.trans (Eq.symm (by kernel_rfl)) hnd)).elim
            · exact (Bool.false_ne_true (Eq.trans (Eq.symm (by kernel_rfl)) hnd)).elim
            · exact (Bool.false_ne_true (Eq.trans (Eq.symm (by kernel_rfl)) hnd)).elim
            · (obtain ⟨g, c0, c1, c2, c3, c4, h1, h2, h3⟩ := hR; exact ⟨g, c0, c1, c2, c3, c4, h1, h2, h3.below hbel1 h3.lt⟩)
            · exact (Bool.false_ne_true (Eq.trans (Eq.symm (by kernel_rfl)) hnd)).elim
            · exact (Bool.false_ne_true (Eq.trans (Eq.symm (by kernel_rfl)) hnd)).elim
          · obtain ⟨x8, x10, x87, x90, x92, x93, x94, x95, x96, rfl, hb, hl10⟩ := hG
            refine wpOp_step rfl (fun K0 hK0 => ?_)
            have HK := Lib.hid hK0
            clear hK0
            refine step_bsD rfl (.tmp 91) rfl at_ 2 ka kb n rfl ?_
            simp only [Act.put, List.setIfInBounds_toArray, List.set_cons_zero, List.set_cons_succ]
            refine HK.out _ _ ⟨⟨x8, x10, x87, x90, .slice (some ⟨x.heap.size, 0, none⟩) 1 1, x93, x94, x95, x96, rfl, hb.alloc hb.size _, fun g e => Nat.lt_of_lt_of_le (hl10 g e) (by simp)⟩, ⟨x.heap.size, rfl, Row.new x _ _⟩, ?_⟩
            intro k hk hne hnd hR
            simp only [List.mem_cons, List.not_mem_nil, or_false] at hk
            rcases hk with rfl | rfl | rfl | rfl | rfl | rfl | rfl | rfl | rfl | rfl
            · (obtain ⟨base, v, h1, h2, h3, h4⟩ := hR; exact ⟨base, v, h1, h2, Nat.le_trans h3 (by simp), owns_alloc h4 _⟩)
            · exact absurd rfl hne
            · exact (Bool.false_ne_true (Eq.trans (Eq.symm (by kernel_rfl)) hnd)).elim
            · exact (Bool.false_ne_true (Eq.trans (Eq.symm (by kernel_rfl)) hnd)).elim
            · exact (Bool.false_ne_true (Eq.trans (Eq.symm (by kernel_rfl)) hnd)).elim
            · exact (Bool.false_ne_true (Eq.trans (Eq.symm (by kernel_rfl)) hnd)).elim
            · exact (Bool.false_ne_true (Eq.trans (Eq.symm (by kernel_rfl)) hnd)).elim
            · (obtain ⟨g, c0, c1, c2, c3, c4, h1, h2, h3⟩ := hR; exact ⟨g, c0, c1, c2, c3, c4, h1, h2, h3.alloc _⟩)
            · exact (Bool.false_ne_true (Eq.trans (Eq.symm (by kernel_rfl)) hnd)).elim
            · exact (Bool.false_ne_true (Eq.trans (Eq.symm (by kernel_rfl)) hnd)).elim
          · obtain ⟨x8, x10, x87, x90, x92, x93, x94, x95, x96, rfl, hb, hl10⟩ := hG
            refine wpOp_step rfl (fun K0 hK0 => ?_)
            have HK := Lib.hid hK0
            clear hK0
            obtain ⟨base, v, h1, hbY, hbx, hown⟩ := hD 2 (by simp)
            obtain ⟨g, h2, hrow⟩ := hD 4 (by simp)
            have e1 : x90 = v := Option.some.inj h1
            have e2 : x92 = .slice (some ⟨g, 0, none⟩) 1 1 := Option.some.inj h2
            subst e1 e2
            clear h1 h2 hD
            refine step_append_lies _ (by rfl) _ _ _ (by rfl) base _ i0 _ 5 40 Try.underlying26 hi hz0 hz1 hz2 rfl (by decide) x90 l.length (dealCells l) (by rfl) hown ⟨g, 0, none⟩ 1 1 [.int .i64 at_, .int .i64 2, .int .i64 ka, .int .i64 kb, .int .i64 n] (by rfl) (by rfl) (row_news hrow) (deal_one [⟨at_, 2, ka, kb, n⟩]) Nat.one_pos m3 m4 hbx _ rfl ?_
            intro gl cl x2 hown2 hgrow hat hltl
            simp only [Act.put, List.setIfInBounds_toArray, List.set_cons_zero, List.set_cons_succ]
            have b2 := hb.trans ((owns_below hown hgrow hbx).mono hbY)
            refine HK.out _ _ ⟨⟨x8, x10, x87, x90, .slice (some ⟨g, 0, none⟩) 1 1, .slice (some ⟨gl, 0, none⟩) (l.length + 1) cl, x94, x95, x96, rfl, b2, fun g e => Nat.lt_of_lt_of_le (hl10 g e) (owns_below hown hgrow hbx).size⟩, ⟨gl, cl, rfl, (Row.of_own hown2).1.reads (HLN.out) hltl⟩, ?_⟩
            intro k hk hne hnd hR
            simp only [List.mem_cons, List.not_mem_nil, or_false] at hk
            rcases hk with rfl | rfl | rfl | rfl | rfl | rfl | rfl | rfl | rfl | rfl
            · exact (Bool.false_ne_true (Eq.trans (Eq.symm (by kernel_rfl)) hnd)).elim
            · exact (Bool.false_ne_true (Eq.trans (Eq.symm (by kernel_rfl)) hnd)).elim
            · exact absurd rfl hne
            · exact (Bool.false_ne_true (Eq.trans (Eq.symm (by kernel_rfl)) hnd)).elim
            · exact (Bool.false_ne_true (Eq.trans (Eq.symm (by kernel_rfl)) hnd)).elim
            · exact (Bool.false_ne_true (Eq.trans (Eq.symm (by kernel_rfl)) hnd)).elim
            · exact (Bool.false_ne_true (Eq.trans (Eq.symm (by kernel_rfl)) hnd)).elim
            · (obtain ⟨g, c0, c1, c2, c3, c4, h1, h2, h3⟩ := hR; exact ⟨g, c0, c1, c2, c3, c4, h1, h2, row_grown hown hgrow h3 NE.out.2.2⟩)
            · exact (Bool.false_ne_true (Eq.trans (Eq.symm (by kernel_rfl)) hnd)).elim
            · exact (Bool.false_ne_true (Eq.trans (Eq.symm (by kernel_rfl)) hnd)).elim
          · obtain ⟨x8, x10, x87, x90, x92, x93, x94, x95, x96, rfl, hb, hl10⟩ := hG
            refine wpOp_step rfl (fun K0 hK0 => ?_)
            have HK := Lib.hid hK0
            clear hK0
            obtain ⟨g, cap, h1, hrd⟩ := hD 5 (by simp)
            have e1 : x93 = .slice (some ⟨g, 0, none⟩) (l.length + 1) cap := Option.some.inj h1
            subst e1
            clear h1 hD
            go_wp2_with (go_at_call 20; refine (HPC.out _ _ _ x.heap.size hb hrd (Nat.le_refl _)).mono ?_; rintro e x3 ⟨K, rfl, hC3, hf3, hb3, bx3⟩)
            refine HK.out _ _ ⟨⟨x8, x10, x87, x90, x92, .slice (some ⟨g, 0, none⟩) (l.length + 1) cap, .tuple #[countV C2 K, .int .i64 E2], x95, x96, rfl, bx3, fun g e => Nat.lt_of_lt_of_le (hl10 g e) hb3.size⟩, ⟨K, rfl, x.heap.size, x3.heap.size, hC3, Nat.le_refl _, hf3, fun g e => .inl (hl10 g (Option.some.inj e))⟩, ?_⟩
            intro k hk hne hnd hR
            simp only [List.mem_cons, List.not_mem_nil, or_false] at hk
            rcases hk with rfl | rfl | rfl | rfl | rfl | rfl | rfl | rfl | rfl | rfl
            · exact (Bool.false_ne_true (Eq.trans (Eq.symm (by kernel_rfl)) hnd)).elim
            · exact (Bool.false_ne_true (Eq.trans (Eq.symm (by kernel_rfl)) hnd)).elim
            · exact (Bool.false_ne_true (Eq.trans (Eq.symm (by kernel_rfl)) hnd)).elim
            · exact absurd rfl hne
            · exact (Bool.false_ne_true (Eq.trans (Eq.symm (by kernel_rfl)) hnd)).elim
            · exact (Bool.false_ne_true (Eq.trans (Eq.symm (by kernel_rfl)) hnd)).elim
            · exact (Bool.false_ne_true (Eq.trans (Eq.symm (by kernel_rfl)) hnd)).elim
            · (obtain ⟨g, c0, c1, c2, c3, c4, h1, h2, h3⟩ := hR; exact ⟨g, c0, c1, c2, c3, c4, h1, h2, h3.below hb3 h3.lt⟩)
            · exact (Bool.false_ne_true (Eq.trans (Eq.symm (by kernel_rfl)) hnd)).elim
            · exact (Bool.false_ne_true (Eq.trans (Eq.symm (by kernel_rfl)) hnd)).elim
          · obtain ⟨x8, x10, x87, x90, x92, x93, x94, x95, x96, rfl, hb, hl10⟩ := hG
            refine wpOp_step rfl (fun K0 hK0 => ?_)
            have HK := Lib.hid hK0
            clear hK0
            obtain ⟨K, h1, h2⟩ := hD 6 (by simp)
            have e1 : x94 = .tuple #[countV C2 K, .int .i64 E2] := Option.some.inj h1
            subst e1
            clear h1 hD
            go_wp2_with fail
            refine HK.out _ _ ⟨⟨x8, x10, .tuple #[countV C2 K, .int .i64 E2], x90, x92, x93, .tuple #[countV C2 K, .int .i64 E2], x95, x96, rfl, hb, hl10⟩, ⟨K, rfl, h2⟩, ?_⟩
            intro k hk hne hnd hR
            simp only [List.mem_cons, List.not_mem_nil, or_false] at hk
            rcases hk with rfl | rfl | rfl | rfl | rfl | rfl | rfl | rfl | rfl | rfl
            · exact (Bool.false_ne_true (Eq.trans (Eq.symm (by kernel_rfl)) hnd)).elim
            · exact (Bool.false_ne_true (Eq.trans (Eq.symm (by kernel_rfl)) hnd)).elim
            · exact (Bool.false_ne_true (Eq.trans (Eq.symm (by kernel_rfl)) hnd)).elim
            · exact (Bool.false_ne_true (Eq.trans (Eq.symm (by kernel_rfl)) hnd)).elim
            · exact absurd rfl hne
            · exact (Bool.false_ne_true (Eq.trans (Eq.symm (by kernel_rfl)) hnd)).elim
            · exact (Bool.false_ne_true (Eq.trans (Eq.symm (by kernel_rfl)) hnd)).elim
            · (obtain ⟨g, c0, c1, c2, c3, c4, h1, h2, h3⟩ := hR; exact ⟨g, c0, c1, c2, c3, c4, h1, h2, h3⟩)
            · exact (Bool.false_ne_true (Eq.trans (Eq.symm (by kernel_rfl)) hnd)).elim
            · exact (Bool.false_ne_true (Eq.trans (Eq.symm (by kernel_rfl)) hnd)).elim
          · obtain ⟨x8, x10, x87, x90, x92, x93, x94, x95, x96, rfl, hb, hl10⟩ := hG
            refine wpOp_step rfl (fun K0 hK0 => ?_)
            have HK := Lib.hid hK0
            clear hK0
            obtain ⟨K, h1, h2⟩ := hD 7 (by simp)
            have e1 : x87 = .tuple #[countV C2 K, .int .i64 E2] := Option.some.inj h1
            subst e1
            clear h1 hD
            go_wp2_with fail
            refine HK.out _ _ ⟨⟨x8, x10, .tuple #[countV C2 K, .int .i64 E2], x90, x92, x93, x94, countV C2 K, x96, rfl, hb, hl10⟩, ⟨K, rfl, h2⟩, ?_⟩
            intro k hk hne hnd hR
            simp only [List.mem_cons, List.not_mem_nil, or_false] at hk
            rcases hk with rfl | rfl | rfl | rfl | rfl | rfl | rfl | rfl | rfl | rfl
            · exact (Bool.false_ne_true (Eq.trans (Eq.symm (by kernel_rfl)) hnd)).elim
            · exact (Bool.false_ne_true (Eq.trans (Eq.symm (by kernel_rfl)) hnd)).elim
            · exact (Bool.false_ne_true (Eq.trans (Eq.symm (by kernel_rfl)) hnd)).elim
            · exact (Bool.false_ne_true (Eq.trans (Eq.symm (by kernel_rfl)) hnd)).elim
            · (obtain ⟨K, h1, h2⟩ := hR; exact ⟨K, h1, h2⟩)
            · exact absurd rfl hne
            · exact hR
            · (obtain ⟨g, c0, c1, c2, c3, c4, h1, h2, h3⟩ := hR; exact ⟨g, c0, c1, c2, c3, c4, h1, h2, h3⟩)
            · exact (Bool.false_ne_true (Eq.trans (Eq.symm (by kernel_rfl)) hnd)).elim
            · exact (Bool.false_ne_true (Eq.trans (Eq.symm (by kernel_rfl)) hnd)).elim
          · obtain ⟨x8, x10, x87, x90, x92, x93, x94, x95, x96, rfl, hb, hl10⟩ := hG
            refine wpOp_step rfl (fun K0 hK0 => ?_)
            have HK := Lib.hid hK0
            clear hK0
            obtain ⟨K, h1, h2⟩ := hD 7 (by simp)
            have e1 : x87 = .tuple #[countV C2 K, .int .i64 E2] := Option.some.inj h1
            subst e1
            clear h1 hD
            go_wp2_with fail
            refine HK.out _ _ ⟨⟨x8, x10, .tuple #[countV C2 K, .int .i64 E2], x90, x92, x93, x94, x95, .int .i64 E2, rfl, hb, hl10⟩, rfl, ?_⟩
            intro k hk hne hnd hR
            simp only [List.mem_cons, List.not_mem_nil, or_false] at hk
            rcases hk with rfl | rfl | rfl | rfl | rfl | rfl | rfl | rfl | rfl | rfl
            · exact (Bool.false_ne_true (Eq.trans (Eq.symm (by kernel_rfl)) hnd)).elim
            · exact (Bool.false_ne_true (Eq.trans (Eq.symm (by kernel_rfl)) hnd)).elim
            · exact (Bool.false_ne_true (Eq.trans (Eq.symm (by kernel_rfl)) hnd)).elim
            · exact (Bool.false_ne_true (Eq.trans (Eq.symm (by kernel_rfl)) hnd)).elim
            · (obtain ⟨K, h1, h2⟩ := hR; exact ⟨K, h1, h2⟩)
            · (obtain ⟨K, h1, h2⟩ := hR; exact ⟨K, h1, h2⟩)
            · exact absurd rfl hne
            · (obtain ⟨g, c0, c1, c2, c3, c4, h1, h2, h3⟩ := hR; exact ⟨g, c0, c1, c2, c3, c4, h1, h2, h3⟩)
            · (obtain ⟨g, K, h1, h2, h3, h4⟩ := hR; exact ⟨g, K, h1, h2, h3, h4⟩)
            · exact (Bool.false_ne_true (Eq.trans (Eq.symm (by kernel_rfl)) hnd)).elim
          · obtain ⟨x8, x10, x87, x90, x92, x93, x94, x95, x96, rfl, hb, hl10⟩ := hG
            refine wpOp_step rfl (fun K0 hK0 => ?_)
            have HK := Lib.hid hK0
            clear hK0
            go_wp2_with fail
            refine HK.out _ _ ⟨⟨x8, .pointer (some ⟨x.heap.size, 0, none⟩), x87, x90, x92, x93, x94, x95, x96, rfl, hb.alloc hb.size _, fun g e => ?_⟩, ⟨x.heap.size, _, _, _, _, _, rfl, hb.size, Row.new x _ _⟩, ?_⟩
            · injection e with e
              injection e with e
              injection e with e
              subst e
              simp
            intro k hk hne hnd hR
            simp only [List.mem_cons, List.not_mem_nil, or_false] at hk
            rcases hk with rfl | rfl | rfl | rfl | rfl | rfl | rfl | rfl | rfl | rfl
            · (obtain ⟨base, v, h1, h2, h3, h4⟩ := hR; exact ⟨base, v, h1, h2, Nat.le_trans h3 (by simp), owns_alloc h4 _⟩)
            · (obtain ⟨g, h1, h2⟩ := hR; exact ⟨g, h1, h2.alloc _⟩)
            · (obtain ⟨g, cap, h1, h2⟩ := hR; exact ⟨g, cap, h1, (h2.alloc (Nat.le_refl _) _).more (by simp)⟩)
            · (obtain ⟨K, h1, h2⟩ := hR; exact ⟨K, h1, h2.new10 rfl _⟩)
            · (obtain ⟨K, h1, h2⟩ := hR; exact ⟨K, h1, h2.new10 rfl _⟩)
            · (obtain ⟨K, h1, h2⟩ := hR; exact ⟨K, h1, h2.new10 rfl _⟩)
            · exact hR
            · exact absurd rfl hne
            · exact (Bool.false_ne_true (Eq.trans (Eq.symm (by kernel_rfl)) hnd)).elim
            · exact (Bool.false_ne_true (Eq.trans (Eq.symm (by kernel_rfl)) hnd)).elim
          · obtain ⟨x8, x10, x87, x90, x92, x93, x94, x95, x96, rfl, hb, hl10⟩ := hG
            refine wpOp_step rfl (fun K0 hK0 => ?_)
            have HK := Lib.hid hK0
            clear hK0
            obtain ⟨g, c0, c1, c2, c3, c4, h1, hg, hrow⟩ := hD 10 (by simp)
            obtain ⟨K, h2, hK⟩ := hD 8 (by simp)
            have e1 : x10 = .pointer (some ⟨g, 0, none⟩) := Option.some.inj h1
            have e2 : x95 = countV C2 K := Option.some.inj h2
            subst e1 e2
            clear h1 h2 hD
            obtain ⟨A1', c1', A2', c2', A3', c3', A4', c4'⟩ := K
            unfold countV
            obtain ⟨fz, z0, z1, z2, z3, z4⟩ := Row.at_5 hrow
            go_wp2_with fail
            refine HK.out _ _ ⟨⟨x8, .pointer (some ⟨g, 0, none⟩), x87, x90, x92, x93, x94, countV C2 ⟨A1', c1', A2', c2', A3', c3', A4', c4'⟩, x96, rfl, k_below5 hb hg, fun g e => by rw [size5]; exact hl10 g e⟩, ⟨g, ⟨A1', c1', A2', c2', A3', c3', A4', c4'⟩, rfl, hg, hK.count5 rfl, k_set5 hrow⟩, ?_⟩
            intro k hk hne hnd hR
            simp only [List.mem_cons, List.not_mem_nil, or_false] at hk
            rcases hk with rfl | rfl | rfl | rfl | rfl | rfl | rfl | rfl | rfl | rfl
            · exact (Bool.false_ne_true (Eq.trans (Eq.symm (by kernel_rfl)) hnd)).elim
            · exact (Bool.false_ne_true (Eq.trans (Eq.symm (by kernel_rfl)) hnd)).elim
            · exact (Bool.false_ne_true (Eq.trans (Eq.symm (by kernel_rfl)) hnd)).elim
            · exact (Bool.false_ne_true (Eq.trans (Eq.symm (by kernel_rfl)) hnd)).elim
            · (obtain ⟨K, h1, h2⟩ := hR; exact ⟨K, h1, h2.set5 rfl⟩)
            · exact (Bool.false_ne_true (Eq.trans (Eq.symm (by kernel_rfl)) hnd)).elim
            · exact hR
            · exact (Bool.false_ne_true (Eq.trans (Eq.symm (by kernel_rfl)) hnd)).elim
            · exact absurd rfl hne
            · exact (Bool.false_ne_true (Eq.trans (Eq.symm (by kernel_rfl)) hnd)).elim
          · obtain ⟨x8, x10, x87, x90, x92, x93, x94, x95, x96, rfl, hb, hl10⟩ := hG
            refine wpOp_step rfl (fun K0 hK0 => ?_)
            have HK := Lib.hid hK0
            clear hK0
            have h1 := hD 9 (by simp)
            have e1 : x96 = .int .i64 E2 := Option.some.inj h1
            subst e1
            clear h1 hD
            go_wp2_with fail
            refine HK.out _ _ ⟨⟨.int .i64 E2, x10, x87, x90, x92, x93, x94, x95, .int .i64 E2, rfl, hb, hl10⟩, rfl, ?_⟩
            intro k hk hne hnd hR
            simp only [List.mem_cons, List.not_mem_nil, or_false] at hk
            rcases hk with rfl | rfl | rfl | rfl | rfl | rfl | rfl | rfl | rfl | rfl
            · exact (Bool.false_ne_true (Eq.trans (Eq.symm (by kernel_rfl)) hnd)).elim
            · exact (Bool.false_ne_true (Eq.trans (Eq.symm (by kernel_rfl)) hnd)).elim
            · exact (Bool.false_ne_true (Eq.trans (Eq.symm (by kernel_rfl)) hnd)).elim
            · exact (Bool.false_ne_true (Eq.trans (Eq.symm (by kernel_rfl)) hnd)).elim
            · exact (Bool.false_ne_true (Eq.trans (Eq.symm (by kernel_rfl)) hnd)).elim
            · exact (Bool.false_ne_true (Eq.trans (Eq.symm (by kernel_rfl)) hnd)).elim
            · exact (Bool.false_ne_true (Eq.trans (Eq.symm (by kernel_rfl)) hnd)).elim
            · exact (Bool.false_ne_true (Eq.trans (Eq.symm (by kernel_rfl)) hnd)).elim
            · (obtain ⟨g, K, h1, h2, h3, h4⟩ := hR; exact ⟨g, K, h1, h2, h3, h4⟩)
            · exact absurd rfl hne
      case rest =>
        obtain ⟨g, ⟨G1, g1, G2, g2, G3, g3, G4, g4⟩, e8, e10, hg, bM, hC4, rM⟩ := hcut
        subst e8
        subst e10
        dsimp only at rM
        have sM := bM.size
        have rDM := rDY.below bM rDY.lt
        have rCM := rCY.below bM rCY.lt
        have CM := CY.keep (w' := wc) fun p hp => bM.cell (by omega)
        have bMw : Below w.heap.size w wc := bY.trans (bM.mono (by have := bY.size; omega))
        have hka : ka < C.purses.length := by have := HQ.out.a2; dsimp only at this; omega
        have hkb : kb < C.boxes.length := by have := HQ.out.b2; dsimp only at this; omega
        have hka' : (ka : Int) < (C.purses.length : Int) := by omega
        have hkb' : (kb : Int) < (C.boxes.length : Int) := by omega
        obtain ⟨b, o, hA3, hb, t0, t1⟩ := CM.s3.at3 hka
        dsimp only at hA3
        subst hA3
        obtain ⟨_, d0, d1, d2, d3, d4⟩ := Row.at_5 rDM
        obtain ⟨_, x0, x1, x2, x3, x4⟩ := Row.at_5 rCM
        go_upto_region 12 with (fail)
        obtain ⟨Z, hZ⟩ : ∃ Z, Z = wc.alloc (.cells #[.int .i64 (getp C.purses ka).tokens, .int .i64 (getp C.purses ka).til] 62) := ⟨_, rfl⟩
        rw [← hZ]
        have rDZ : Row Z (w.heap.size + 1) 65 [.int .i64 at_, .int .i64 2, .int .i64 ka, .int .i64 kb, .int .i64 n] := by subst hZ; exact rDM.alloc _
        have rCZ : Row Z w1.heap.size 35 [.slice A1 C.stock.length c1, .slice A2 C.cash.length c2, .slice (some ⟨b, o, none⟩) C.purses.length c3, .slice A4 C.boxes.length c4, .int .i64 C.lost] := by subst hZ; exact rCM.alloc _
        have rMZ := rM.alloc (.cells #[.int .i64 (getp C.purses ka).tokens, .int .i64 (getp C.purses ka).til] 62)
        rw [← hZ] at rMZ
        have rPZ : Row Z wc.heap.size 62 [.int .i64 (getp C.purses ka).tokens, .int .i64 (getp C.purses ka).til] := by subst hZ; exact row_new _ _ _ _ rfl
        have CZ : CountIn Z wc.heap.size C ⟨A1, c1, A2, c2, some ⟨b, o, none⟩, c3, A4, c4⟩ := by subst hZ; exact (CM.more (by omega)).keep fun p hp => World.cell?_alloc_lt wc _ p hp
        have C4Z := hC4.keep (w' := Z) fun p hp => by subst hZ; exact World.cell?_alloc_lt wc _ p hp
        have bZ : Below w.heap.size w Z := by subst hZ; exact bMw.alloc bMw.size _
        have sZ : wc.heap.size ≤ Z.heap.size := by subst hZ; simp
        clear hZ d0 d1 d2 d3 d4 x0 x1 x2 x3 x4 t0 t1 hC4 rM CM rCM rDM
        obtain ⟨_, d0, d1, d2, d3, d4⟩ := Row.at_5 rDZ
        obtain ⟨_, x0, x1, x2, x3, x4⟩ := Row.at_5 rCZ
        have p0 : Z.cell? ⟨wc.heap.size, 0, none⟩ = some (.int .i64 (getp C.purses ka).tokens) := rPZ.cell (j := 0) (by simp)
        have p1 : Z.cell? ⟨wc.heap.size, 1, none⟩ = some (.int .i64 (getp C.purses ka).til) := rPZ.cell (j := 1) (by simp)
        by_cases hband : at_ < (getp C.purses ka).til
        · obtain ⟨he1, hp1⟩ := free_band HW.out HQ.out few.out hband
          rw [he1]
          rw [hp1] at rMZ C4Z
          clear he1 hp1
          obtain ⟨_, m0, m1, m2, m3, m4⟩ := Row.at_5 rMZ
          go_wp2_with fail
          refine (sameCount_same C ⟨G1, g1, G2, g2, G3, g3, G4, g4⟩ ⟨A1, c1, A2, c2, some ⟨b, o, none⟩, c3, A4, c4⟩ Z Z.heap.size (Nat.le_refl _) (C4Z.more sZ) (CZ.more sZ)).mono ?_
          rintro e w5 ⟨rfl, hb5⟩
          go_wp2_with fail
          refine (works_any _).mono ?_
          rintro e w6 ⟨rfl, hb6⟩
          go_wp2_with fail
          go_ret
          exact ⟨rfl, below_step (below_step bZ hb5) hb6⟩
        by_cases htok : (getp C.purses ka).tokens < n
        · have he1 := free_no HW.out HQ.out few.out hband htok
          rw [he1]
          clear he1
          go_wp2_with fail
          refine (works_any _).mono ?_
          rintro e w6 ⟨rfl, hb6⟩
          go_wp2_with fail
          go_ret
          exact ⟨rfl, below_step bZ hb6⟩
        · obtain ⟨he1, X', hX', l1, l2, e1, e2⟩ := free_pay HW.out HQ.out few.out hband htok
          obtain ⟨_, _, _, a', b', ea, eb, _, _, ka2, kb2⟩ := ride_forms HW.out HQ.out
          dsimp only at ea eb e1 e2
          obtain rfl : ka = a' := by omega
          obtain rfl : kb = b' := by omega
          obtain ⟨u1, u2⟩ := purse_bd HW.out.inv HW.out.all ka2
          obtain ⟨u3, u4⟩ := box_bd HW.out.inv HW.out.all kb2
          rw [he1]
          rw [hX'] at rMZ C4Z
          clear he1 hX' ea eb
          obtain ⟨_, m0, m1, m2, m3, m4⟩ := Row.at_5 rMZ
          obtain ⟨b2, o2, hG3, _, r0, _⟩ := C4Z.s3.at3 (k := ka) (by omega)
          dsimp only at hG3
          subst hG3
          obtain ⟨b3, o3, hG4, _, r1⟩ := C4Z.s4.at1 (k := kb) (by omega)
          dsimp only at hG4
          subst hG4
          have r2 : Z.cell? ⟨b3, o3 + kb, none⟩ = some (.int .i64 (geti X'.boxes kb)) := r1 kb (by omega)
          obtain ⟨b4, o4, hA4, _, r3⟩ := CZ.s4.at1 hkb
          dsimp only at hA4
          subst hA4
          have r4 : Z.cell? ⟨b4, o4 + kb, none⟩ = some (.int .i64 (geti C.boxes kb)) := r3 kb hkb
          rw [e1] at r0
          rw [e2] at r2
          rw [l1] at m2
          rw [l2] at m3
          clear r1 r3 e1 e2 l1 l2
          have s1 : IntKind.i64.wrap ((getp C.purses ka).tokens - n) = (getp C.purses ka).tokens - n := IntWalk.i64_in _ (by omega)
          have s2 : IntKind.i64.wrap (geti C.boxes kb + n) = geti C.boxes kb + n := IntWalk.i64_in _ (by omega)
          go_upto_region 16 with (fail)
          refine wp_tail 54 (by kernel_rfl) (by kernel_rfl) ?_
          simp only [List.take_succ_cons, List.take_zero, List.drop_succ_cons, List.drop_zero]
          repeat still_step
          refine wpStill_nil ?_
          go_wp2_with fail
          refine (works_any _).mono ?_
          rintro e w6 ⟨rfl, hb6⟩
          go_wp2_with fail
          go_ret
          exact ⟨rfl, below_step (below_drewN bZ _) hb6⟩
end Go.Proofs.Ytpcceankhgjjmaa
