/- Contract of Audit. Conditions: the arguments read as data. -/
import Derived.Test.YtfcalfccogbgnaaUd
import Derived.Test.YtfcalfccogbgnaaFa
namespace Go.Proofs.Ytfcalfccogbgnaa
open Go.RowKit

theorem fid_ok55 : ∀ a w, Sem.run Try.prog (callFunc 55 a) w = Result.ok (Next.enter 55 a) w := fun a w => by kernel_rfl
theorem fid_ok56 : ∀ a w, Sem.run Try.prog (callFunc 56 a) w = Result.ok (Next.enter 56 a) w := fun a w => by kernel_rfl
theorem fid_ok57 : ∀ a w, Sem.run Try.prog (callFunc 57 a) w = Result.ok (Next.enter 57 a) w := fun a w => by kernel_rfl
def lensB (C D : Count) : Bool := decide (D.stock.length = C.stock.length) && decide (D.cash.length = C.cash.length) && decide (D.purses.length = C.purses.length) && decide (D.boxes.length = C.boxes.length)
/-- What Audit answers: tills, purses, boxes, the error. -/
def audS (F : Fair) (l : List Deal) (D : Count) : List Int × List Int × List Int × Int :=
  if errS F l = 0 then (if lensB (playS F l) D then (numsI (auT (playS F l) D) (playS F l).stock.length, numsI (auP (playS F l) D) (playS F l).purses.length, numsI (auB (playS F l) D) (playS F l).boxes.length, 0) else ([], [], [], 1)) else ([], [], [], errS F l)
def AudPost (w : World) (F : Fair) (l : List Deal) (D : Count) (e : Ending) (w' : World) : Prop :=
  Below w.heap.size w w' ∧ ∃ A1 c1 A2 c2 A3 c3, e = .returned (.tuple #[.slice A1 (audS F l D).1.length c1, .slice A2 (audS F l D).2.1.length c2, .slice A3 (audS F l D).2.2.1.length c3, .int .i64 (audS F l D).2.2.2]) ∧
    Reads w' w'.heap.size 1 A1 (audS F l D).1.length (intCells (audS F l D).1) ∧ Reads w' w'.heap.size 1 A2 (audS F l D).2.1.length (intCells (audS F l D).2.1) ∧ Reads w' w'.heap.size 1 A3 (audS F l D).2.2.1.length (intCells (audS F l D).2.2.1)
theorem aud_none {w w' : World} {F : Fair} {l : List Deal} {D : Count} {x : Int} (h : audS F l D = ([], [], [], x)) (hb : Below w.heap.size w w') : AudPost w F l D (.returned (.tuple #[.slice none 0 0, .slice none 0 0, .slice none 0 0, .int .i64 x])) w' := by
  refine ⟨hb, none, 0, none, 0, none, 0, by rw [h]; rfl, ?_, ?_, ?_⟩ <;> (rw [h]; exact Reads.none_)

set_option maxHeartbeats 4000000 in
set_option maxRecDepth 100000 in
theorem Audit_any (F : Fair) (R : Refs) (l : List Deal) (D : Count) (L : CRefs) (A : Option Addr) (c B : Nat) (w : World) (hB : B ≤ w.heap.size) (hF : FairIn w B F R) (hl : Reads w B 5 A l.length (dealCells l)) (hn : l.length ≤ maxLen) (hD : CountIn w B D L) :
    Calls Try.prog 27 #[fairV F R, .slice A l.length c, countV D L] w (AudPost w F l D) := by
  obtain ⟨B1, d1, B2, d2, B3, d3, B4, d4⟩ := L
  obtain ⟨W, hW⟩ : ∃ W, W = (w.alloc (.cells (fairCells F R) 25)).alloc (.cells #[.slice B1 D.stock.length d1, .slice B2 D.cash.length d2, .slice B3 D.purses.length d3, .slice B4 D.boxes.length d4, .int .i64 D.lost] 35) := ⟨_, rfl⟩
  have sW : W.heap.size = w.heap.size + 2 := by subst hW; simp
  have bW : Below w.heap.size w W := by subst hW; exact ((Below.refl _ _).alloc (Nat.le_refl _) _).alloc (by simp) _
  have rD : Row W (w.heap.size + 1) 35 (countL D ⟨B1, d1, B2, d2, B3, d3, B4, d4⟩) := by subst hW; exact row_new _ _ _ _ (by simp)
  have hFW := hF.below (bW.mono hB)
  have hlW := hl.below (bW.mono hB)
  unfold fairV countV
  dsimp only
  go_enter Try.func27, Try.ntmps27
  go_wp2_with fail
  rw [← hW]
  clear hW
  refine (Play_any F R l A c B W (by omega) hFW hlW hn).mono ?_
  rintro e w1 ⟨hb1, K, rfl, hC⟩
  have b1 := below_step bW hb1
  have rD1 := rD.below hb1 rD.lt
  have z1 := hb1.size
  obtain ⟨A1, c1, A2, c2, A3, c3, A4, c4⟩ := K
  by_cases he : errS F l = 0
  case neg =>
    have he' : (errS F l != 0) = true := by simpa using he
    have Ha : Hid (audS F l D = ([], [], [], errS F l)) := by show _ = _; rw [audS, if_neg he]
    clear he
    unfold countV
    dsimp only
    go_wp2_with fail
    refine bodyPost_ret (v := .tuple #[.slice none 0 0, .slice none 0 0, .slice none 0 0, .int .i64 (errS F l)]) (by simp [results, Try.results27, go_sem, *]) rfl ?_
    exact aud_none Ha.out (b1.alloc b1.size _)
  have hw := went he
  have n2 : (playS F l).cash.length = (playS F l).stock.length := by rw [hw.inv.n2, hw.inv.n1]
  have hb0 := bounds_of hw.val
  have u1 : (playS F l).stock.length ≤ 8 := by rw [hw.inv.n1]; exact hb0.s2
  have u3 : (playS F l).purses.length ≤ 20 := by rw [hw.inv.n3]; have := hb0.p2; omega
  have u4 : (playS F l).boxes.length ≤ 12 := by rw [hw.inv.n4]; have := hb0.x2; omega
  have hau : audS F l D = if lensB (playS F l) D then (numsI (auT (playS F l) D) (playS F l).stock.length, numsI (auP (playS F l) D) (playS F l).purses.length, numsI (auB (playS F l) D) (playS F l).boxes.length, 0) else ([], [], [], 1) := by rw [audS, if_pos he]
  have Hau := Lib.hid hau
  have N2 := Lib.hid n2
  rw [he]
  clear hw hb0 he hau n2
  generalize playS F l = C at *
  unfold countV
  dsimp only
  go_upto_if 18 with (fail)
  obtain ⟨X, hX⟩ : ∃ X, X = w1.alloc (.cells #[.slice A1 C.stock.length c1, .slice A2 C.cash.length c2, .slice A3 C.purses.length c3, .slice A4 C.boxes.length c4, .int .i64 C.lost] 35) := ⟨_, rfl⟩
  rw [← hX]
  have sX : X.heap.size = w1.heap.size + 1 := by subst hX; simp
  have bX : Below w.heap.size w X := by subst hX; exact b1.alloc b1.size _
  have rDX : Row X (w.heap.size + 1) 35 (countL D ⟨B1, d1, B2, d2, B3, d3, B4, d4⟩) := by subst hX; exact rD1.alloc _
  have rCX : Row X w1.heap.size 35 (countL C ⟨A1, c1, A2, c2, A3, c3, A4, c4⟩) := by subst hX; exact row_new _ _ _ _ rfl
  have CX : CountIn X w1.heap.size C ⟨A1, c1, A2, c2, A3, c3, A4, c4⟩ := by subst hX; exact hC.keep fun p hp => World.cell?_alloc_lt w1 _ p hp
  have DX : CountIn X B D ⟨B1, d1, B2, d2, B3, d3, B4, d4⟩ := hD.keep fun p hp => bX.cell (by omega)
  clear hX hC
  obtain ⟨_, x0, x1, x2, x3, x4⟩ := Row.at_5 rCX
  obtain ⟨_, y0, y1, y2, y3, y4⟩ := Row.at_5 rDX
  cases hlen : lensB C D with
  | false =>
    have Ha : Hid (audS F l D = ([], [], [], 1)) := by show _ = _; rw [Hau.out, hlen]; rfl
    go_wp2_with fail
    all_goals first
      | (refine bodyPost_ret (v := .tuple #[.slice none 0 0, .slice none 0 0, .slice none 0 0, .int .i64 1]) (by simp [results, Try.results27, go_sem, *]) rfl ?_; exact aud_none Ha.out bX)
      | (exfalso; revert hlen; simp [lensB, *]; done)
      | (exfalso; simp_all [lensB]; done)
      | (exfalso; simp_all [lensB]; omega)
  | true =>
    have hl2 := hlen
    simp only [lensB, Bool.and_eq_true, decide_eq_true_eq] at hl2
    obtain ⟨⟨⟨j1, j2⟩, j3⟩, j4⟩ := hl2
    have Ha : Hid (audS F l D = (numsI (auT C D) C.stock.length, numsI (auP C D) C.purses.length, numsI (auB C D) C.boxes.length, 0)) := by show _ = _; rw [Hau.out, hlen]; rfl
    have J := Lib.hid (And.intro j1 (And.intro j2 (And.intro j3 (And.intro j4 N2.out))))
    have g1 : ((D.stock.length : Int) != (C.stock.length : Int)) = false := by simp [j1]
    have g2 : ((D.cash.length : Int) != (C.cash.length : Int)) = false := by simp [j2]
    have g3 : ((D.purses.length : Int) != (C.purses.length : Int)) = false := by simp [j3]
    have g4 : ((D.boxes.length : Int) != (C.boxes.length : Int)) = false := by simp [j4]
    clear j1 j2 j3 j4 hlen
    go_wp2_with fail
    refine (numbers_any C.stock.length 55 #[.pointer (some ⟨w1.heap.size, 0, none⟩), .pointer (some ⟨w.heap.size + 1, 0, none⟩)] (auT C D) X (by omega) fid_ok55 ?_).mono ?_
    · intro k hk Y hY
      rw [show (#[.int .i64 k] ++ #[.pointer (some ⟨w1.heap.size, 0, none⟩), .pointer (some ⟨w.heap.size + 1, 0, none⟩)] : Array Value) = #[.int .i64 k, .pointer (some ⟨w1.heap.size, 0, none⟩), .pointer (some ⟨w.heap.size + 1, 0, none⟩)] from rfl]
      obtain ⟨j1, j2, j3, j4, n2⟩ := J.out
      exact (au1_any (rCX.below hY rCX.lt) (rDX.below hY rDX.lt) (CX.keep fun p hp => hY.cell (by omega)) (DX.keep fun p hp => hY.cell (by have := bX.size; omega)) k hk (by omega) (by omega) (by omega)).mono fun _ _ h => h
    rintro e V1 ⟨hb2, E1, e1, rfl, hr1⟩
    have rC1 := rCX.below hb2 rCX.lt
    have rD1' := rDX.below hb2 rDX.lt
    have CX1 := CX.keep (w' := V1) fun p hp => hb2.cell (by omega)
    have DX1 := DX.keep (w' := V1) fun p hp => hb2.cell (by have := bX.size; omega)
    have s1 := hb2.size
    clear x0 x1 x2 x3 x4 y0 y1 y2 y3 y4
    obtain ⟨_, x0, x1, x2, x3, x4⟩ := Row.at_5 rC1
    obtain ⟨_, y0, y1, y2, y3, y4⟩ := Row.at_5 rD1'
    go_wp2_with fail
    refine (numbers_any C.purses.length 56 #[.pointer (some ⟨w1.heap.size, 0, none⟩), .pointer (some ⟨w.heap.size + 1, 0, none⟩)] (auP C D) V1 (by omega) fid_ok56 ?_).mono ?_
    · intro k hk Y hY
      rw [show (#[.int .i64 k] ++ #[.pointer (some ⟨w1.heap.size, 0, none⟩), .pointer (some ⟨w.heap.size + 1, 0, none⟩)] : Array Value) = #[.int .i64 k, .pointer (some ⟨w1.heap.size, 0, none⟩), .pointer (some ⟨w.heap.size + 1, 0, none⟩)] from rfl]
      obtain ⟨j1, j2, j3, j4, n2⟩ := J.out
      exact (au2_any (rC1.below hY rC1.lt) (rD1'.below hY rD1'.lt) (CX1.keep fun p hp => hY.cell (by omega)) (DX1.keep fun p hp => hY.cell (by have := bX.size; omega)) k hk (by omega)).mono fun _ _ h => h
    rintro e V2 ⟨hb3, E2, e2, rfl, hr2⟩
    have rC2 := rC1.below hb3 rC1.lt
    have rD2 := rD1'.below hb3 rD1'.lt
    have CX2 := CX1.keep (w' := V2) fun p hp => hb3.cell (by omega)
    have DX2 := DX1.keep (w' := V2) fun p hp => hb3.cell (by have := bX.size; omega)
    have s2 := hb3.size
    clear x0 x1 x2 x3 x4 y0 y1 y2 y3 y4
    obtain ⟨_, x0, x1, x2, x3, x4⟩ := Row.at_5 rC2
    obtain ⟨_, y0, y1, y2, y3, y4⟩ := Row.at_5 rD2
    go_wp2_with fail
    refine (numbers_any C.boxes.length 57 #[.pointer (some ⟨w1.heap.size, 0, none⟩), .pointer (some ⟨w.heap.size + 1, 0, none⟩)] (auB C D) V2 (by omega) fid_ok57 ?_).mono ?_
    · intro k hk Y hY
      rw [show (#[.int .i64 k] ++ #[.pointer (some ⟨w1.heap.size, 0, none⟩), .pointer (some ⟨w.heap.size + 1, 0, none⟩)] : Array Value) = #[.int .i64 k, .pointer (some ⟨w1.heap.size, 0, none⟩), .pointer (some ⟨w.heap.size + 1, 0, none⟩)] from rfl]
      obtain ⟨j1, j2, j3, j4, n2⟩ := J.out
      exact (au3_any (rC2.below hY rC2.lt) (rD2.below hY rD2.lt) (CX2.keep fun p hp => hY.cell (by omega)) (DX2.keep fun p hp => hY.cell (by have := bX.size; omega)) k hk (by omega)).mono fun _ _ h => h
    rintro e V3 ⟨hb4, E3, e3, rfl, hr3⟩
    go_wp2_with fail
    refine bodyPost_ret (v := .tuple #[.slice E1 (numsI (auT C D) C.stock.length).length e1, .slice E2 (numsI (auP C D) C.purses.length).length e2, .slice E3 (numsI (auB C D) C.boxes.length).length e3, .int .i64 0]) (by simp [results, Try.results27, go_sem, *]) rfl ?_
    have s3 := hb4.size
    refine ⟨below_step (below_step (below_step bX hb2) hb3) hb4, E1, e1, E2, e2, E3, e3, by rw [Ha.out], ?_, ?_, ?_⟩
    · rw [Ha.out]
      exact (((hr1.below hb3).below (hb4.mono s2))).more (by omega)
    · rw [Ha.out]
      exact (hr2.below hb4).more (by omega)
    · rw [Ha.out]
      exact hr3
end Go.Proofs.Ytfcalfccogbgnaa
