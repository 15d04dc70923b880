/- Contract of follow, over any function that is told of each deal. Conditions: the arguments read as data; the function that is told changes but blocks of its own. -/
import Derived.Test.YtpcceankhgjjmaaWl
namespace Go.Proofs.Ytpcceankhgjjmaa
open Go.RowKit

abbrev standV (F : Fair) (R : Refs) (L : Locs) (C : Count) : Value :=
  .agg #[.int .i64 F.purses, .int .i64 F.boxes, .slice R.A1 F.stock.length R.c1, .slice R.A2 F.cash.length R.c2, .slice R.A3 F.bundles.length R.c3, .int .i64 F.refund, .int .i64 F.band, .int .i64 F.hours,
   .slice (some ⟨L.g1, 0, none⟩) F.stock.length L.c1, .slice (some ⟨L.g2, 0, none⟩) F.stock.length L.c2, .slice (some ⟨L.g3, 0, none⟩) F.purses.toNat L.c3, .slice (some ⟨L.g4, 0, none⟩) F.boxes.toNat L.c4, .int .i64 C.lost]

theorem zcells {w : World} {g : Nat} {t : TypeId} (h : Row w g t zeros) : (∀ o, w.frozen? ⟨g, o, none⟩ = false) ∧ w.cell? ⟨g, 0, none⟩ = some (.int .i64 0) ∧ w.cell? ⟨g, 1, none⟩ = some (.int .i64 0) ∧ w.cell? ⟨g, 2, none⟩ = some (.slice none 0 0) ∧ w.cell? ⟨g, 3, none⟩ = some (.slice none 0 0) ∧ w.cell? ⟨g, 4, none⟩ = some (.slice none 0 0) ∧ w.cell? ⟨g, 5, none⟩ = some (.int .i64 0) ∧ w.cell? ⟨g, 6, none⟩ = some (.int .i64 0) ∧ w.cell? ⟨g, 7, none⟩ = some (.int .i64 0) ∧ w.cell? ⟨g, 8, none⟩ = some (.slice none 0 0) ∧ w.cell? ⟨g, 9, none⟩ = some (.slice none 0 0) ∧ w.cell? ⟨g, 10, none⟩ = some (.slice none 0 0) ∧ w.cell? ⟨g, 11, none⟩ = some (.slice none 0 0) ∧ w.cell? ⟨g, 12, none⟩ = some (.int .i64 0) :=
  ⟨fun o => h.frozen o, h.cell (j := 0) (by simp), h.cell (j := 1) (by simp), h.cell (j := 2) (by simp), h.cell (j := 3) (by simp), h.cell (j := 4) (by simp), h.cell (j := 5) (by simp), h.cell (j := 6) (by simp), h.cell (j := 7) (by simp), h.cell (j := 8) (by simp), h.cell (j := 9) (by simp), h.cell (j := 10) (by simp), h.cell (j := 11) (by simp), h.cell (j := 12) (by simp)⟩
theorem scells {w : World} {B : Nat} {F : Fair} {R : Refs} {L : Locs} {C : Count} (h : Std w B F R L C) : w.cell? ⟨L.bs, 0, none⟩ = some (.int .i64 F.purses) ∧ w.cell? ⟨L.bs, 1, none⟩ = some (.int .i64 F.boxes) ∧ w.cell? ⟨L.bs, 2, none⟩ = some (.slice R.A1 F.stock.length R.c1) ∧ w.cell? ⟨L.bs, 3, none⟩ = some (.slice R.A2 F.cash.length R.c2) ∧ w.cell? ⟨L.bs, 4, none⟩ = some (.slice R.A3 F.bundles.length R.c3) ∧ w.cell? ⟨L.bs, 5, none⟩ = some (.int .i64 F.refund) ∧ w.cell? ⟨L.bs, 6, none⟩ = some (.int .i64 F.band) ∧ w.cell? ⟨L.bs, 7, none⟩ = some (.int .i64 F.hours) ∧ w.cell? ⟨L.bs, 8, none⟩ = some (.slice (some ⟨L.g1, 0, none⟩) F.stock.length L.c1) ∧ w.cell? ⟨L.bs, 9, none⟩ = some (.slice (some ⟨L.g2, 0, none⟩) F.stock.length L.c2) ∧ w.cell? ⟨L.bs, 10, none⟩ = some (.slice (some ⟨L.g3, 0, none⟩) F.purses.toNat L.c3) ∧ w.cell? ⟨L.bs, 11, none⟩ = some (.slice (some ⟨L.g4, 0, none⟩) F.boxes.toNat L.c4) ∧ w.cell? ⟨L.bs, 12, none⟩ = some (.int .i64 C.lost) :=
  ⟨StandIn.cell h 0 (by omega), StandIn.cell h 1 (by omega), StandIn.cell h 2 (by omega), StandIn.cell h 3 (by omega), StandIn.cell h 4 (by omega), StandIn.cell h 5 (by omega), StandIn.cell h 6 (by omega), StandIn.cell h 7 (by omega), StandIn.cell h 8 (by omega), StandIn.cell h 9 (by omega), StandIn.cell h 10 (by omega), StandIn.cell h 11 (by omega), StandIn.cell h 12 (by omega)⟩
/-- What follow leaves. -/
def FPost (w : World) (B : Nat) (F : Fair) (R : Refs) (l : List Deal) (Ls : List Nat) (P : Nat → World → Prop) (e : Ending) (w' : World) : Prop :=
  KeptBut Ls w w' ∧
  ((validB F = false ∧ e = .returned (.tuple #[.agg zeros.toArray, .int .i64 0, .int .i64 10])) ∨
   (validB F = true ∧ 200 < l.length ∧ e = .returned (.tuple #[.agg zeros.toArray, .int .i64 0, .int .i64 2])) ∨
   (validB F = true ∧ l.length ≤ 200 ∧ goS F l l.length = none ∧ e = .returned (.tuple #[.agg zeros.toArray, .int .i64 (badS F l (beginS F) 0), .int .i64 11])) ∨
   (validB F = true ∧ l.length ≤ 200 ∧ ∃ C t L, goS F l l.length = some (C, t) ∧ Std w' B F R L C ∧ (∀ x ∈ L.all, w.heap.size ≤ x) ∧ P l.length w' ∧ e = .returned (.tuple #[standV F R L C, .int .i64 0, .int .i64 0])))

/-- What is asked of the function that is told: a call for the deal k takes P from k to k + 1, and writes but blocks of the list Ls. -/
def SeeOk (fid : FuncId) (caps : Array Value) (B N : Nat) (F : Fair) (R : Refs) (l : List Deal) (Ls : List Nat) (P : Nat → World → Prop) : Prop :=
  ∀ (k : Nat) (C C' : Count) (t : Int) (x : World) (L : Locs), k < l.length → goS F l k = some (C, t) → stepS F C (getd l k) = some C' → goS F l (k + 1) = some (C', (getd l k).at_) → Std x B F R L C' → (∀ y ∈ L.all, N ≤ y) → N ≤ x.heap.size → P k x →
    Calls Try.prog fid (#[dealV (getd l k), standV F R L C'] ++ caps) x fun e x' => e = .returned (.tuple #[]) ∧ KeptBut Ls x x' ∧ P (k + 1) x'

/-- The end of follow where all deals are right: the result's own block has been written, nothing else. -/
theorem fin_ok {w wr w' : World} {B : Nat} {F : Fair} {R : Refs} {l : List Deal} {Ls M : List Nat} {P : Nat → World → Prop} {C : Count} {t : Int} {L : Locs} (hval : validB F = true) (h200 : l.length ≤ 200) (hgo : goS F l l.length = some (C, t))
    (hSr : Std wr B F R L C) (hPk : P l.length wr) (hKr : KeptBut Ls w wr) (hM : KeptBut M wr w') (hM1 : M = [w.heap.size + 1]) (hLs : ∀ g ∈ Ls, B ≤ g ∧ g < w.heap.size)
    (hP : ∀ k x x', (∀ g ∈ Ls, g < x.heap.size ∧ x'.heap[g]? = x.heap[g]?) → P k x → P k x') (hB : B ≤ w.heap.size) (hL0 : ∀ x ∈ L.all, w.heap.size + 2 ≤ x) :
    FPost w B F R l Ls P (.returned (.tuple #[standV F R L C, .int .i64 0, .int .i64 0])) w' := by
  subst hM1
  refine ⟨?_, .inr (.inr (.inr ⟨hval, h200, C, t, L, hgo, ?_, fun x hx => by have := hL0 x hx; omega, ?_, rfl⟩))⟩
  · exact ⟨hM.os.trans hKr.os, hM.tape.trans hKr.tape, hM.output.trans hKr.output, Nat.le_trans hKr.size hM.size, fun k hk hn => (hM.block k (by have := hKr.size; omega) (by simp; omega)).trans (hKr.block k hk hn)⟩
  · exact StandIn.kept hSr hM fun x hx => by
      simp at hx; subst hx
      exact ⟨by omega, fun hm => by have := hL0 _ hm; omega⟩
  · exact hP _ _ _ (fun g hg => ⟨by have := (hLs g hg).2; have := hKr.size; omega, hM.block g (by have := (hLs g hg).2; have := hKr.size; omega) (by have := (hLs g hg).2; simp; omega)⟩) hPk

set_option maxHeartbeats 1000000 in
set_option maxRecDepth 100000 in
theorem follow_any (F : Fair) (R : Refs) (l : List Deal) (A : Option Addr) (c B : Nat) (w : World) (fid : FuncId) (caps : Array Value) (Ls : List Nat) (P : Nat → World → Prop)
    (hB : B ≤ w.heap.size) (hF : FairIn w B F R) (hl : Reads w B 5 A l.length (dealCells l)) (hn : l.length ≤ maxLen)
    (hLs : ∀ g ∈ Ls, B ≤ g ∧ g < w.heap.size) (hP : ∀ k x x', (∀ g ∈ Ls, g < x.heap.size ∧ x'.heap[g]? = x.heap[g]?) → P k x → P k x') (h0 : P 0 w)
    (hfid : ∀ a w, Sem.run Try.prog (callFunc fid a) w = Result.ok (Next.enter fid a) w)
    (hsee : SeeOk fid caps B w.heap.size F R l Ls P) :
    Calls Try.prog 45 #[fairV F R, .slice A l.length c, .func (.func fid) #[] caps] w (FPost w B F R l Ls P) := by
  unfold maxLen at hn
  have b0 := (Below.refl w.heap.size w).alloc (Nat.le_refl _) (.cells (fairCells F R) 25)
  have b1 := b0.alloc (by simp) (.cells zeros.toArray 80)
  have F1 := hF.below (b1.mono hB)
  unfold fairV
  go_enter Try.func45, Try.ntmps45
  go_wp2_with fail
  refine (valid_any F R _ B (by simp; omega) F1).mono ?_
  rintro e w1 ⟨rfl, hb1⟩
  obtain ⟨hc1, hf1⟩ := bcell hb1
  have z1 : w.heap.size + 2 ≤ w1.heap.size := by have := hb1.size; simp at this; omega
  have hv : w.heap.size < w1.heap.size := by omega
  have hv' : w.heap.size + 1 < w1.heap.size := by omega
  have B1 : Below w.heap.size w w1 := below_step b1 hb1
  have F2 := hF.below (B1.mono hB)
  have hK1 : KeptBut Ls w w1 := KeptBut.of_below B1
  have rz : Row w1 (w.heap.size + 1) 80 zeros := by
    have := Row.new (w.alloc (.cells (fairCells F R) 25)) 80 zeros.toArray
    exact Row.below (by simpa using this) hb1 (by simp)
  cases hval : validB F with
  | false =>
    go_wp2_with fail
    refine bodyPost_ret (v := .tuple #[.agg zeros.toArray, .int .i64 0, .int .i64 10]) (by simp [results, Try.results45, go_sem, *]) rfl ?_
    exact ⟨by repeat (first | (with_reducible exact hK1) | (with_reducible refine KeptBut.setNew ?_ (by simp) _)), .inl ⟨hval, rfl⟩⟩
  | true =>
    have hbd := bounds_of hval
    rcases Nat.lt_or_ge 200 l.length with h200 | h200
    · have h200' : (200 : Int) < (l.length : Int) := by omega
      go_wp2_with fail
      refine bodyPost_ret (v := .tuple #[.agg zeros.toArray, .int .i64 0, .int .i64 2]) (by simp [results, Try.results45, go_sem, *]) rfl ?_
      exact ⟨by repeat (first | (with_reducible exact hK1) | (with_reducible refine KeptBut.setNew ?_ (by simp) _)), .inr (.inl ⟨hval, h200, rfl⟩)⟩
    · have h200' : decide ((200 : Int) < (l.length : Int)) = false := by simp; omega
      go_wp2_with fail
      refine (begin_any F R _ B (by omega) F2 hval).mono ?_
      rintro e w2 ⟨g1, g2, g3, g4, c1, c2, c3, c4, hb2, rfl, e1, e2, e3, e4, hnd, r1, r2, r3, r4⟩
      rw [show (Value.slice (some (⟨g2, 0, none⟩ : Addr)) F.cash.length c2) = .slice (some ⟨g2, 0, none⟩) F.stock.length c2 from by rw [hbd.c]]
      obtain ⟨L, hL⟩ : ∃ L : Locs, L = ⟨w2.heap.size, g1, g2, g3, g4, c1, c2, c3, c4⟩ := ⟨_, rfl⟩
      have s2 := hb2.size
      have s2' : w.heap.size ≤ w2.heap.size := by omega
      have B2 : Below w.heap.size w w2 := below_step B1 hb2
      have rz2 := rz.below hb2 (by omega)
      have hS : Std (w2.alloc (.cells (standCells F R L (beginS F)).toArray 80)) B F R L (beginS F) := by
        subst hL
        refine ⟨by simpa using Row.new w2 80 (standCells F R _ (beginS F)).toArray, r1.alloc _, r2.alloc _, r3.alloc _, r4.alloc _, rfl, hbd.c, by simp [beginS], by simp [beginS], ?_, ?_, (hF.below (B2.mono hB)).alloc (by omega) _, hval⟩
        · have q1 := r1.lt; have q2 := r2.lt; have q3 := r3.lt; have q4 := r4.lt
          simp only [Locs.all, List.nodup_cons, List.mem_cons, List.not_mem_nil, or_false, not_or] at hnd ⊢
          exact ⟨⟨by omega, by omega, by omega, by omega⟩, hnd⟩
        · simp [Locs.all]; omega
      have hL0 : ∀ x ∈ L.all, w1.heap.size ≤ x := by subst hL; simp [Locs.all]; omega
      have hbs : L.bs = w2.heap.size := by subst hL; rfl
      have hg : L.g1 = g1 ∧ L.g2 = g2 ∧ L.g3 = g3 ∧ L.g4 = g4 ∧ L.c1 = c1 ∧ L.c2 = c2 ∧ L.c3 = c3 ∧ L.c4 = c4 := by subst hL; exact ⟨rfl, rfl, rfl, rfl, rfl, rfl, rfl, rfl⟩
      obtain ⟨rfl, rfl, rfl, rfl, rfl, rfl, rfl, rfl⟩ := hg
      have P2 : P 0 w2 := hP 0 w w2 (fun g hgm => ⟨(hLs g hgm).2, B2.block g (hLs g hgm).2⟩) h0
      clear hL e1 e2 e3 e4 hnd r1 r2 r3 r4 rz
      have HB := Lib.hid hbs
      clear hbs
      go_wp2_with fail
      rw [← HB.out]
      have hK2 : KeptBut Ls w (w2.alloc (.cells (standCells F R L (beginS F)).toArray 80)) := KeptBut.of_below (B2.alloc s2' _)
      have rz3 := rz2.alloc (.cells (standCells F R L (beginS F)).toArray 80)
      have P3 : P 0 (w2.alloc (.cells (standCells F R L (beginS F)).toArray 80)) := hP 0 _ _ (fun g hgm => ⟨by have := (hLs g hgm).2; omega, Below.heap_alloc _ _ _ (by have := (hLs g hgm).2; omega)⟩) P2
      have hlen : Hid (w.heap.size + 2 ≤ w1.heap.size) := z1
      go_loopw [10, 25] (fun clk i wr => ∃ (k : Nat) (C : Count) (t : Int), k ≤ l.length ∧ i = .int .i64 k ∧ clk = .int .i64 t ∧ goS F l k = some (C, t) ∧ Std wr B F R L C ∧ KeptBut Ls w wr ∧ P k wr ∧ Row wr (w.heap.size + 1) 80 zeros) (fun _ i _ => l.length - (intOf i).toNat)
      case atStart => exact ⟨0, beginS F, 0, Nat.zero_le _, rfl, rfl, rfl, hS, hK2, P3, rz3⟩
      case round =>
        obtain ⟨k, C, t, hk, rfl, rfl, hgo, hSr, hKr, hPk, rzr⟩ := hrel
        have Hgo := Lib.hid hgo
        clear hgo
        obtain ⟨y0, y1, y2, y3, y4⟩ := Std.sizes hSr
        obtain ⟨hzf, x0, x1, x2, x3, x4, x5, x6, x7, x8, x9, x10, x11, x12⟩ := zcells rzr
        have hzl := rzr.lt
        by_cases hlt : k < l.length
        · have hbr : Below B w wr := hKr.to_below hB fun g hgm => (hLs g hgm).1
          obtain ⟨db, d0, rfl, hdb, q0, q1, q2, q3, q4⟩ := (hl.below hbr).at5 hlt
          have hdb' : db < wr.heap.size := by have := hSr.size; omega
          obtain ⟨d, hd⟩ : ∃ d, d = getd l k := ⟨_, rfl⟩
          rw [← hd] at q0 q1 q2 q3 q4
          have HD := Lib.hid hd
          clear hd hbr
          have hlt' : (k : Int) < (l.length : Int) := by omega
          by_cases hin : inB d.at_ t 1440 = true
          · go_wp2_with (go_at_call 59; refine (within_any _ _ _ _).mono ?_; rintro e w' ⟨rfl, rfl⟩)
            have hSd := hSr.alloc (.cells #[.int .i64 d.at_, .int .i64 d.kind, .int .i64 d.a, .int .i64 d.b, .int .i64 d.n] 65)
            refine (happen_any d hSd).mono ?_
            intro e w4 hp
            cases hst : stepS F C d with
            | none =>
              rw [hst] at hp
              obtain ⟨rfl, hb4⟩ := hp
              have Hst := Lib.hid hst
              clear hst
              have rz4 := (rzr.alloc (.cells #[.int .i64 d.at_, .int .i64 d.kind, .int .i64 d.a, .int .i64 d.b, .int .i64 d.n] 65)).below hb4 (by simp; omega)
              have hK4 := (hKr.alloc (.cells #[.int .i64 d.at_, .int .i64 d.kind, .int .i64 d.a, .int .i64 d.b, .int .i64 d.n] 65)).below hb4
              clear hzf x0 x1 x2 x3 x4 x5 x6 x7 x8 x9 x10 x11 x12
              obtain ⟨hzf, x0, x1, x2, x3, x4, x5, x6, x7, x8, x9, x10, x11, x12⟩ := zcells rz4
              go_wp2_with fail
              refine bodyPost_ret (v := .tuple #[.agg zeros.toArray, .int .i64 k, .int .i64 11]) (by simp [results, Try.results45, go_sem, *]) rfl ?_
              have hbad := bad_at F l k hlt C t Hgo.out (by rw [goS_succ F l k hlt C t Hgo.out, ← HD.out, hin, Hst.out]; rfl)
              refine ⟨by repeat (first | (with_reducible exact hK4) | (with_reducible refine KeptBut.setNew ?_ (by simp) _)), .inr (.inr (.inl ⟨hval, h200, hbad.1, ?_⟩))⟩
              rw [hbad.2]
            | some C' =>
              rw [hst] at hp
              obtain ⟨rfl, hS4, hk4⟩ := hp
              have Hst := Lib.hid hst
              clear hst
              have hnm : w.heap.size + 1 ∉ L.all := fun hm => by have := hL0 _ hm; omega
              have hnr : wr.heap.size ∉ L.all := fun hm => by simp [Locs.all] at hm; omega
              have rz4 := (rzr.alloc (.cells #[.int .i64 d.at_, .int .i64 d.kind, .int .i64 d.a, .int .i64 d.b, .int .i64 d.n] 65)).kept hk4 hnm
              have rd4 := (Row.new wr 65 #[.int .i64 d.at_, .int .i64 d.kind, .int .i64 d.a, .int .i64 d.b, .int .i64 d.n]).kept hk4 hnr
              have z4 := hk4.size
              have hK4 : KeptBut Ls w w4 := ⟨hk4.os.trans hKr.os, hk4.tape.trans hKr.tape, hk4.output.trans hKr.output, by have := hKr.size; simp at z4; omega, fun g hg hn => (hk4.block g (by have := hKr.size; simp; omega) (fun hm => by have := hL0 _ hm; omega)).trans ((Below.heap_alloc _ _ _ (by have := hKr.size; omega)).trans (hKr.block g hg hn))⟩
              have P4 : P k w4 := hP k wr w4 (fun g hg => ⟨by have := (hLs g hg).2; have := hKr.size; omega, (hk4.block g (by have := (hLs g hg).2; have := hKr.size; simp; omega) (fun hm => by have := hL0 _ hm; have := (hLs g hg).2; omega)).trans (Below.heap_alloc _ _ _ (by have := (hLs g hg).2; have := hKr.size; omega))⟩) hPk
              have w0 : w4.cell? ⟨wr.heap.size, 0, none⟩ = some (.int .i64 d.at_) := rd4.cell (j := 0) (by simp)
              have wk1 : w4.cell? ⟨wr.heap.size, 1, none⟩ = some (.int .i64 d.kind) := rd4.cell (j := 1) (by simp)
              have wk2 : w4.cell? ⟨wr.heap.size, 2, none⟩ = some (.int .i64 d.a) := rd4.cell (j := 2) (by simp)
              have wk3 : w4.cell? ⟨wr.heap.size, 3, none⟩ = some (.int .i64 d.b) := rd4.cell (j := 3) (by simp)
              have wk4 : w4.cell? ⟨wr.heap.size, 4, none⟩ = some (.int .i64 d.n) := rd4.cell (j := 4) (by simp)
              clear hzf x0 x1 x2 x3 x4 x5 x6 x7 x8 x9 x10 x11 x12 q0 q1 q2 q3 q4 hnr hnm
              obtain ⟨hd0, hd1, hd2, hd3, hd4, hd5, hd6, hd7, hd8, hd9, hd10, hd11, hd12⟩ := scells hS4
              go_wp2_with fail
              have hgo' := goS_succ F l k hlt C t Hgo.out
              rw [← HD.out, hin, Hst.out] at hgo'
              have Hgo' := Lib.hid hgo'
              clear hgo'
              have hd := HD.out
              subst hd
              refine (hsee k C C' t w4 L hlt Hgo.out Hst.out Hgo'.out hS4 (fun y hy => by have := hL0 y hy; omega) hK4.size P4).mono ?_
              rintro e w5 ⟨rfl, hk5, hp5⟩
              have z5 := hk5.size
              have hS5 : Std w5 B F R L C' := StandIn.kept hS4 hk5 fun g hg => ⟨(hLs g hg).1, fun hm => by have := hL0 _ hm; have := (hLs g hg).2; omega⟩
              have hK5 := hK4.trans hk5
              have rz5 := rz4.kept hk5 (fun hm => by have := (hLs _ hm).2; omega)
              have zz : wr.heap.size < w5.heap.size := by simp at z4; omega
              have w0' : w5.cell? ⟨wr.heap.size, 0, none⟩ = some (.int .i64 (getd l k).at_) := ((rd4.kept hk5 (fun hm => by have := (hLs _ hm).2; have := hKr.size; omega)).cell (j := 0) (by simp))
              clear hd0 hd1 hd2 hd3 hd4 hd5 hd6 hd7 hd8 hd9 hd10 hd11 hd12 w0 wk1 wk2 wk3 wk4
              go_wp2_with fail
              go_roundw
              case rel => exact ⟨k + 1, C', (getd l k).at_, by omega, by go_num, rfl, Hgo'.out, hS5, hK5, hp5, rz5⟩
              case measure => simp [intOf]; omega
          · have hin' : inB d.at_ t 1440 = false := by simpa using hin
            clear hin
            go_wp2_with (go_at_call 59; refine (within_any _ _ _ _).mono ?_; rintro e w' ⟨rfl, rfl⟩)
            refine bodyPost_ret (v := .tuple #[.agg zeros.toArray, .int .i64 k, .int .i64 11]) (by simp [results, Try.results45, go_sem, *]) rfl ?_
            have hbad := bad_at F l k hlt C t Hgo.out (by rw [goS_succ F l k hlt C t Hgo.out, ← HD.out, hin']; rfl)
            refine ⟨by repeat (first | (with_reducible exact hKr) | (with_reducible refine KeptBut.alloc ?_ _) | (with_reducible refine KeptBut.setNew ?_ (by simp) _)), .inr (.inr (.inl ⟨hval, h200, hbad.1, ?_⟩))⟩
            rw [hbad.2]
        · have ek : k = l.length := by omega
          have hge : ¬ (k : Int) < (l.length : Int) := by omega
          obtain ⟨hd0, hd1, hd2, hd3, hd4, hd5, hd6, hd7, hd8, hd9, hd10, hd11, hd12⟩ := scells hSr
          clear ek
          go_wp2_with fail
          refine bodyPost_ret (v := .tuple #[standV F R L C, .int .i64 0, .int .i64 0]) (by simp [results, Try.results45, go_sem, *]) rfl ?_
          have ek : k = l.length := by omega
          subst ek
          refine fin_ok hval h200 Hgo.out hSr hPk hKr (M := [w.heap.size + 1]) (by repeat (first | (with_reducible exact KeptBut.refl _ _) | (with_reducible refine KeptBut.set ?_ (by simp) _))) (by simp) hLs hP hB (fun x hx => by have := hL0 x hx; omega)
end Go.Proofs.Ytpcceankhgjjmaa
