/- Contract of inspect's read. Conditions: a book and entries that read as data. -/
import Derived.Test.YtaocgkmobfocjaaInn
import Derived.Test.YtaocgkmobfocjaaIno
import Derived.BigRegion
namespace Go.Proofs.Ytaocgkmobfocjaa
open Go.RowKit

/-- The empty log. -/
def logZ : Value := .agg #[.slice none 0 0, .slice none 0 0, .slice none 0 0, .slice none 0 0]
/-- The log that is read, or the empty one. -/
def logE (k : BookZ) (R : BkR) (l : List EntZ) (A : Option Addr) (c : Nat) : Value := if (chkR k l).2 = 0 then logV k R l A c else logZ
theorem logE_ok {k : BookZ} {R : BkR} {l : List EntZ} {A : Option Addr} {c : Nat} (h : (chkR k l).2 = 0) : logE k R l A c = logV k R l A c := if_pos h
theorem logE_bad {k : BookZ} {R : BkR} {l : List EntZ} {A : Option Addr} {c : Nat} (h : (chkR k l).2 ≠ 0) : logE k R l A c = logZ := if_neg h
theorem rd_end (fn : Func) (p : Tmp) (q r : Tmp) (hf : fn.results = #[.cell p 66, .tmp q, .tmp r]) (tmps : Array Value) (g : Nat) (s1 s2 s3 s4 v2 v3 : Value) (Z : World) (t4 : tmps.getD p undef = .pointer (some ⟨g, 0, none⟩)) (t5 : tmps.getD q undef = v2) (t6 : tmps.getD r undef = v3) (h : Row Z g 66 [s1, s2, s3, s4]) :
    (results fn tmps).run Try.prog Z = .ok (.tuple #[.agg #[s1, s2, s3, s4], v2, v3]) Z := by
  have y0 : Z.cell? ⟨g, 0, none⟩ = some s1 := h.cell (j := 0) (by simp)
  have y1 : Z.cell? ⟨g, 1, none⟩ = some s2 := h.cell (j := 1) (by simp)
  have y2 : Z.cell? ⟨g, 2, none⟩ = some s3 := h.cell (j := 2) (by simp)
  have y3 : Z.cell? ⟨g, 3, none⟩ = some s4 := h.cell (j := 3) (by simp)
  have l2 := h.lt
  rw [Array.getD_eq_getD_getElem?] at t4 t5 t6
  simp only [results, hf]
  simp [Sem.run_bind, Result.andThen, t4, t5, t6]
  go_simp
theorem ents_take {w : World} {B n : Nat} {A : Option Addr} {l : List EntZ} (h : Reads w B 5 A l.length (entCells l)) (hn : n ≤ l.length) : Reads w B 5 A (l.take n).length (entCells (l.take n)) := by
  have e : ∀ (l : List EntZ), (entCells l).length = l.length * 5 := by
    intro l
    induction l with
    | nil => rfl
    | cons x l ih => rw [show entCells (x :: l) = entL x ++ entCells l from rfl, List.length_append, ih, List.length_cons]; simp [entL]; omega
  refine ⟨e _, fun h0 => ?_⟩
  obtain ⟨b, o, hA, hb, hc⟩ := h.2 (by rw [List.length_take] at h0; omega)
  refine ⟨b, o, hA, hb, fun j u hu => hc j u ?_⟩
  have ea : entCells l = entCells (l.take n) ++ entCells (l.drop n) := by
    unfold entCells
    rw [← List.flatMap_append, List.take_append_drop]
  rw [ea, List.getElem?_append_left (List.getElem?_eq_some_iff.1 hu).1]
  exact hu
theorem row4 {Z : World} {g : Nat} {t : TypeId} {a0 a1 a2 a3 : Value} (h : Row Z g t [a0, a1, a2, a3]) (s1 s2 s3 s4 : Value) : Row ((((Z.setCell ⟨g, 0, none⟩ s1).setCell ⟨g, 1, none⟩ s2).setCell ⟨g, 2, none⟩ s3).setCell ⟨g, 3, none⟩ s4) g t [s1, s2, s3, s4] := (((h.set 0 s1).set 1 s2).set 2 s3).set 3 s4
theorem below4 {w Z : World} {B g : Nat} (h : Below B w Z) (hg : B ≤ g) (s1 s2 s3 s4 : Value) : Below B w ((((Z.setCell ⟨g, 0, none⟩ s1).setCell ⟨g, 1, none⟩ s2).setCell ⟨g, 2, none⟩ s3).setCell ⟨g, 3, none⟩ s4) := (((h.setCell hg s1).setCell hg s2).setCell hg s3).setCell hg s4
/-- What read leaves. -/
def RdTo (w : World) (k : BookZ) (R : BkR) (l : List EntZ) (A : Option Addr) (c : Nat) (e : Ending) (w' : World) : Prop :=
  e = .returned (.tuple #[logE k R l A c, .int .i64 (chkR k l).1, .int .i64 (chkR k l).2]) ∧ Below w.heap.size w w'
theorem RdTo.bad {w w' : World} {k : BookZ} {R : BkR} {l : List EntZ} {A : Option Addr} {c : Nat} {a e : Int} (h : chkR k l = (a, e)) (he : e ≠ 0) (hb : Below w.heap.size w w') : RdTo w k R l A c (.returned (.tuple #[.agg #[.slice none 0 0, .slice none 0 0, .slice none 0 0, .slice none 0 0], .int .i64 a, .int .i64 e])) w' := by
  unfold RdTo
  rw [logE_bad (by rw [h]; exact he), h]
  exact ⟨rfl, hb⟩
theorem RdTo.ok {w w' : World} {k : BookZ} {R : BkR} {l : List EntZ} {A : Option Addr} {c : Nat} (h : chkR k l = (0, 0)) (hb : Below w.heap.size w w') : RdTo w k R l A c (.returned (.tuple #[.agg #[.slice R.A1 k.rules.length R.c1, .slice R.A2 k.ranks.length R.c2, .slice R.A3 k.insured.length R.c3, .slice A l.length c], .int .i64 0, .int .i64 0])) w' := by
  unfold RdTo
  rw [logE_ok (by rw [h]), h]
  exact ⟨rfl, hb⟩
theorem chk_book {k : BookZ} {l : List EntZ} (h : bookB k = false) : chkR k l = (0, 100) := if_pos h
theorem chk_many {k : BookZ} {l : List EntZ} (h : bookB k = true) (hl : 100 < l.length) : chkR k l = (0, 2) := by
  unfold chkR
  rw [if_neg (by rw [h]; decide), if_pos hl]
theorem chk_bad {k : BookZ} {l : List EntZ} (h : bookB k = true) (hl : ¬ 100 < l.length) {n : Nat} (hn : n < l.length) (hb : badN k l n = n) (hc : canB k (l.take n) (l.getD n default) = false) : chkR k l = ((n : Int), 101) := by
  unfold chkR
  rw [if_neg (by rw [h]; decide), if_neg hl, badN_stop hb hc hn, if_pos hn]
theorem chk_good {k : BookZ} {l : List EntZ} (h : bookB k = true) (hl : ¬ 100 < l.length) (hb : badN k l l.length = l.length) : chkR k l = (0, 0) := by
  unfold chkR
  rw [if_neg (by rw [h]; decide), if_neg hl, if_neg (by rw [hb]; omega)]
theorem ent_getD {l : List EntZ} {n : Nat} (h : n < l.length) : l.getD n default = l[n] := by rw [List.getD_eq_getElem?_getD, List.getElem?_eq_getElem h]; rfl
set_option maxRecDepth 100000 in
set_option maxHeartbeats 2000000 in
theorem read_any (k : BookZ) (R : BkR) (l : List EntZ) (A : Option Addr) (c B : Nat) (w : World) (hB : B ≤ w.heap.size) (hl : l.length ≤ maxLen) (hlc : l.length ≤ c) (hr : Reads w B 5 A l.length (entCells l)) (hk : BkIn w B k R) :
    Calls Try.prog 44 #[bookV k R, .slice A l.length c] w (RdTo w k R l A c) := by
  obtain ⟨W, hW⟩ : ∃ W, W = (w.alloc (.cells #[.slice R.A1 k.rules.length R.c1, .slice R.A2 k.ranks.length R.c2, .slice R.A3 k.insured.length R.c3] 25)).alloc (.cells #[.slice none 0 0, .slice none 0 0, .slice none 0 0, .slice none 0 0] 66) := ⟨_, rfl⟩
  have bW : Below w.heap.size w W := by subst hW; exact ((Below.refl _ _).alloc (Nat.le_refl _) _).alloc (by simp) _
  have r0 : Row W w.heap.size 25 [.slice R.A1 k.rules.length R.c1, .slice R.A2 k.ranks.length R.c2, .slice R.A3 k.insured.length R.c3] := by subst hW; exact (Row.new w _ _).alloc _
  have r1 : Row W (w.heap.size + 1) 66 [.slice none 0 0, .slice none 0 0, .slice none 0 0, .slice none 0 0] := by
    subst hW
    have h := Row.new (w.alloc (.cells #[.slice R.A1 k.rules.length R.c1, .slice R.A2 k.ranks.length R.c2, .slice R.A3 k.insured.length R.c3] 25)) 66 #[.slice none 0 0, .slice none 0 0, .slice none 0 0, .slice none 0 0]
    rw [World.size_alloc] at h
    exact h
  obtain ⟨zb, hzb⟩ : ∃ z, z = w.heap.size := ⟨_, rfl⟩
  obtain ⟨zl, hzl⟩ : ∃ z, z = w.heap.size + 1 := ⟨_, rfl⟩
  have HZL : Hid (w.heap.size ≤ zl) := by show _ ≤ _; omega
  rw [← hzb] at r0
  rw [← hzl] at r1
  have q0 : W.cell? ⟨zb, 0, none⟩ = some (.slice R.A1 k.rules.length R.c1) := r0.cell (j := 0) (by simp)
  have q1 : W.cell? ⟨zb, 1, none⟩ = some (.slice R.A2 k.ranks.length R.c2) := r0.cell (j := 1) (by simp)
  have q2 : W.cell? ⟨zb, 2, none⟩ = some (.slice R.A3 k.insured.length R.c3) := r0.cell (j := 2) (by simp)
  have lW := r0.lt
  have HBW := Lib.hid bW
  have HR0 := Lib.hid r0
  have HR1 := Lib.hid r1
  have HVa := Lib.hid (valid_any k R B W (Nat.le_trans hB bW.size) (hk.below (bW.mono hB)))
  have HCa : Hid (∀ (n : Nat) (x : EntZ) (X : World), n ≤ l.length → Below w.heap.size w X → Calls Try.prog 72 #[.agg #[.slice R.A1 k.rules.length R.c1, .slice R.A2 k.ranks.length R.c2, .slice R.A3 k.insured.length R.c3, .slice A n c], entV x] X fun e w' => e = .returned (.bool (canB k (l.take n) x)) ∧ Below X.heap.size X w') := fun n x X hn hX => by
    have h := can_any k R (l.take n) A c B x X (Nat.le_trans hB hX.size) (by rw [List.length_take]; omega) (ents_take (hr.below (hX.mono hB)) hn) (hk.below (hX.mono hB))
    have e : (l.take n).length = n := by rw [List.length_take]; omega
    unfold logV at h
    rw [e] at h
    exact h
  have HEn : Hid (∀ (n : Nat) (hn : n < l.length) (X : World), Below w.heap.size w X → ∃ b o, A = some ⟨b, o, none⟩ ∧ b < X.heap.size ∧ X.cell? ⟨b, o + n * 5, none⟩ = some (.int .i64 l[n].day) ∧ X.cell? ⟨b, o + n * 5 + 1, none⟩ = some (.int .i64 l[n].kind) ∧ X.cell? ⟨b, o + n * 5 + 2, none⟩ = some (.int .i64 l[n].a) ∧ X.cell? ⟨b, o + n * 5 + 3, none⟩ = some (.int .i64 l[n].b) ∧ X.cell? ⟨b, o + n * 5 + 4, none⟩ = some (.int .i64 l[n].c)) := fun n hn X hX => by
    obtain ⟨b, o, h1, h2, h3⟩ := ent_at (hr.below (hX.mono hB)) hn
    exact ⟨b, o, h1, by have := hX.size; omega, h3⟩
  have HC1 := Lib.hid (fun h => chk_book (k := k) (l := l) h)
  have HC2 := Lib.hid (fun h hl => chk_many (k := k) (l := l) h hl)
  unfold maxLen at hl
  unfold bookV entV at *
  clear bW r0 r1 hk hr hB
  cases hb : bookB k with
  | false =>
    rw [hb] at HVa
    have HC := Lib.hid (HC1.out hb)
    clear HC1 HC2 hb
    go_enter Try.func44, Try.ntmps44
    go_upto_region 1 with fail
    rw [← hW, ← hzl, ← hzb]
    clear hW hzl hzb
    go_wp2_with (go_at_call 61; refine HVa.out.mono ?_; rintro e X ⟨rfl, hX⟩; have s1 := HR1.out.below hX HR1.out.lt; have f1 := s1.frozen; have lx := s1.lt; have z0 : X.cell? ⟨zl, 0, none⟩ = some (.slice none 0 0) := s1.cell (j := 0) (by simp); have z1 : X.cell? ⟨zl, 1, none⟩ = some (.slice none 0 0) := s1.cell (j := 1) (by simp); have z2 : X.cell? ⟨zl, 2, none⟩ = some (.slice none 0 0) := s1.cell (j := 2) (by simp); have z3 : X.cell? ⟨zl, 3, none⟩ = some (.slice none 0 0) := s1.cell (j := 3) (by simp); have HS1 := Lib.hid s1; have HX := Lib.hid (HBW.out.trans (hX.mono HBW.out.size)); clear hX s1)
    refine bodyPost_ret (v := .tuple #[.agg #[.slice none 0 0, .slice none 0 0, .slice none 0 0, .slice none 0 0], .int .i64 0, .int .i64 100]) (rd_end _ 4 5 6 rfl _ zl _ _ _ _ _ _ _ rfl rfl rfl (row4 HS1.out _ _ _ _)) rfl ?_
    exact RdTo.bad HC.out (by decide) (below4 HX.out HZL.out _ _ _ _)
  | true =>
    rw [hb] at HVa
    have HBk := Lib.hid hb
    by_cases hm : 100 < l.length
    · have d1 : decide ((100 : Int) < (l.length : Int)) = true := by simp; omega
      have HC := Lib.hid (HC2.out hb hm)
      clear HC1 HC2 hb hm
      go_enter Try.func44, Try.ntmps44
      go_upto_region 1 with fail
      rw [← hW, ← hzl, ← hzb]
      clear hW hzl hzb
      go_wp2_with (go_at_call 61; refine HVa.out.mono ?_; rintro e X ⟨rfl, hX⟩; have s1 := HR1.out.below hX HR1.out.lt; have f1 := s1.frozen; have lx := s1.lt; have z0 : X.cell? ⟨zl, 0, none⟩ = some (.slice none 0 0) := s1.cell (j := 0) (by simp); have z1 : X.cell? ⟨zl, 1, none⟩ = some (.slice none 0 0) := s1.cell (j := 1) (by simp); have z2 : X.cell? ⟨zl, 2, none⟩ = some (.slice none 0 0) := s1.cell (j := 2) (by simp); have z3 : X.cell? ⟨zl, 3, none⟩ = some (.slice none 0 0) := s1.cell (j := 3) (by simp); have HS1 := Lib.hid s1; have HX := Lib.hid (HBW.out.trans (hX.mono HBW.out.size)); clear hX s1)
      refine bodyPost_ret (v := .tuple #[.agg #[.slice none 0 0, .slice none 0 0, .slice none 0 0, .slice none 0 0], .int .i64 0, .int .i64 2]) (rd_end _ 4 5 6 rfl _ zl _ _ _ _ _ _ _ rfl rfl rfl (row4 HS1.out _ _ _ _)) rfl ?_
      exact RdTo.bad HC.out (by decide) (below4 HX.out HZL.out _ _ _ _)
    · have d1 : decide ((100 : Int) < (l.length : Int)) = false := by simp; omega
      have HM : Hid (¬ 100 < l.length) := hm
      clear HC1 HC2 hb hm
      go_enter Try.func44, Try.ntmps44
      go_upto_region 1 with fail
      rw [← hW, ← hzl, ← hzb]
      clear hW hzl hzb
      go_wp2_with (go_at_call 61; refine HVa.out.mono ?_; rintro e X ⟨rfl, hX⟩; have s0 := HR0.out.below hX HR0.out.lt; have s1 := HR1.out.below hX HR1.out.lt; have HS0 := Lib.hid s0; have HS1 := Lib.hid s1; have HX := Lib.hid (HBW.out.trans (hX.mono HBW.out.size)); clear hX s1 s0)
      clear HVa d1
      go_loopw [20] (fun i wr => ∃ n : Nat, n ≤ l.length ∧ i = .int .i64 n ∧ Below X.heap.size X wr ∧ Hid (badN k l n = n)) (fun i _ => l.length - (intOf i).toNat)
      case atStart => exact ⟨0, Nat.zero_le _, rfl, Below.refl _ _, rfl⟩
      case round =>
        obtain ⟨n, hn, rfl, hbel, Hbad⟩ := hrel
        have HBr := Lib.hid (HX.out.trans (hbel.mono HX.out.size))
        have HBL := Lib.hid hbel
        have s0 := HS0.out.below hbel HS0.out.lt
        have s1 := HS1.out.below hbel HS1.out.lt
        have HT0 := Lib.hid s0
        have HT1 := Lib.hid s1
        have g0 : wr.cell? ⟨zb, 0, none⟩ = some (.slice R.A1 k.rules.length R.c1) := s0.cell (j := 0) (by simp)
        have g1 : wr.cell? ⟨zb, 1, none⟩ = some (.slice R.A2 k.ranks.length R.c2) := s0.cell (j := 1) (by simp)
        have g2 : wr.cell? ⟨zb, 2, none⟩ = some (.slice R.A3 k.insured.length R.c3) := s0.cell (j := 2) (by simp)
        have lz := s0.lt
        have ll := s1.lt
        have fl := s1.frozen
        have z0 : wr.cell? ⟨zl, 0, none⟩ = some (.slice none 0 0) := s1.cell (j := 0) (by simp)
        have z1 : wr.cell? ⟨zl, 1, none⟩ = some (.slice none 0 0) := s1.cell (j := 1) (by simp)
        have z2 : wr.cell? ⟨zl, 2, none⟩ = some (.slice none 0 0) := s1.cell (j := 2) (by simp)
        have z3 : wr.cell? ⟨zl, 3, none⟩ = some (.slice none 0 0) := s1.cell (j := 3) (by simp)
        by_cases hlt : n < l.length
        · have n1 : (n : Int) < (l.length : Int) := by omega
          have n0 : ¬ (n : Int) < 0 := by omega
          have en : IntKind.i64.wrap ((n : Int) + 1) = (n : Int) + 1 := IntWalk.i64_in _ (by omega)
          have nc : ¬ (c : Int) < (n : Int) := by omega
          obtain ⟨b, o, hA, lb, x0, x1, x2, x3, x4⟩ := HEn.out n hlt wr HBr.out
          have HCn := Lib.hid (HCa.out n l[n])
          have HGo := Lib.hid (fun hc => badN_go (k := k) (l := l) Hbad.out hc)
          have HSt := Lib.hid (fun hc => chk_bad (k := k) (l := l) HBk.out HM.out hlt Hbad.out hc)
          rw [ent_getD hlt] at HGo HSt
          generalize l[n] = x at x0 x1 x2 x3 x4 HCn HGo HSt
          generalize canB k (l.take n) x = cb at HCn HGo HSt
          rw [hA] at HCn ⊢
          clear hbel s0 s1 hA HCa HEn
          go_upto_region 8 with fail
          have b1 := HBr.out.alloc HBr.out.size (.cells #[.int .i64 x.day, .int .i64 x.kind, .int .i64 x.a, .int .i64 x.b, .int .i64 x.c] 54)
          have b2 := HBL.out.alloc HBL.out.size (.cells #[.int .i64 x.day, .int .i64 x.kind, .int .i64 x.a, .int .i64 x.b, .int .i64 x.c] 54)
          have eY := Row.new wr 54 #[.int .i64 x.day, .int .i64 x.kind, .int .i64 x.a, .int .i64 x.b, .int .i64 x.c]
          have sY := HT0.out.alloc (.cells #[.int .i64 x.day, .int .i64 x.kind, .int .i64 x.a, .int .i64 x.b, .int .i64 x.c] 54)
          have tY := HT1.out.alloc (.cells #[.int .i64 x.day, .int .i64 x.kind, .int .i64 x.a, .int .i64 x.b, .int .i64 x.c] 54)
          generalize wr.alloc (.cells #[.int .i64 x.day, .int .i64 x.kind, .int .i64 x.a, .int .i64 x.b, .int .i64 x.c] 54) = Y at b1 b2 eY sY tY ⊢
          generalize wr.heap.size = ze at eY ⊢
          have g0 : Y.cell? ⟨zb, 0, none⟩ = some (.slice R.A1 k.rules.length R.c1) := sY.cell (j := 0) (by simp)
          have g1 : Y.cell? ⟨zb, 1, none⟩ = some (.slice R.A2 k.ranks.length R.c2) := sY.cell (j := 1) (by simp)
          have g2 : Y.cell? ⟨zb, 2, none⟩ = some (.slice R.A3 k.insured.length R.c3) := sY.cell (j := 2) (by simp)
          have lz := sY.lt
          have HB1' := Lib.hid b1
          have HB2' := Lib.hid b2
          have HEY := Lib.hid eY
          have HSY := Lib.hid sY
          have HTY := Lib.hid tY
          clear b1 b2 eY sY tY x0 x1 x2 x3 x4
          go_big_region
          have b1 := (HB1'.out.alloc HB1'.out.size (.cells #[.slice R.A1 k.rules.length R.c1, .slice R.A2 k.ranks.length R.c2, .slice R.A3 k.insured.length R.c3, .slice (some ⟨b, o, none⟩) n c] 66)).drew
          have b2 := (HB2'.out.alloc HB2'.out.size (.cells #[.slice R.A1 k.rules.length R.c1, .slice R.A2 k.ranks.length R.c2, .slice R.A3 k.insured.length R.c3, .slice (some ⟨b, o, none⟩) n c] 66)).drew
          have gZ := (Row.new Y 66 #[.slice R.A1 k.rules.length R.c1, .slice R.A2 k.ranks.length R.c2, .slice R.A3 k.insured.length R.c3, .slice (some ⟨b, o, none⟩) n c]).drew
          have eZ := (HEY.out.alloc (.cells #[.slice R.A1 k.rules.length R.c1, .slice R.A2 k.ranks.length R.c2, .slice R.A3 k.insured.length R.c3, .slice (some ⟨b, o, none⟩) n c] 66)).drew
          have sZ := (HSY.out.alloc (.cells #[.slice R.A1 k.rules.length R.c1, .slice R.A2 k.ranks.length R.c2, .slice R.A3 k.insured.length R.c3, .slice (some ⟨b, o, none⟩) n c] 66)).drew
          have tZ := (HTY.out.alloc (.cells #[.slice R.A1 k.rules.length R.c1, .slice R.A2 k.ranks.length R.c2, .slice R.A3 k.insured.length R.c3, .slice (some ⟨b, o, none⟩) n c] 66)).drew
          generalize (Y.alloc (.cells #[.slice R.A1 k.rules.length R.c1, .slice R.A2 k.ranks.length R.c2, .slice R.A3 k.insured.length R.c3, .slice (some ⟨b, o, none⟩) n c] 66)).drew = Z at b1 b2 gZ eZ sZ tZ ⊢
          generalize Y.heap.size = zg at gZ ⊢
          have gg0 : Z.cell? ⟨zg, 0, none⟩ = some (.slice R.A1 k.rules.length R.c1) := gZ.cell (j := 0) (by simp)
          have gg1 : Z.cell? ⟨zg, 1, none⟩ = some (.slice R.A2 k.ranks.length R.c2) := gZ.cell (j := 1) (by simp)
          have gg2 : Z.cell? ⟨zg, 2, none⟩ = some (.slice R.A3 k.insured.length R.c3) := gZ.cell (j := 2) (by simp)
          have gg3 : Z.cell? ⟨zg, 3, none⟩ = some (.slice (some ⟨b, o, none⟩) n c) := gZ.cell (j := 3) (by simp)
          have ee0 : Z.cell? ⟨ze, 0, none⟩ = some (.int .i64 x.day) := eZ.cell (j := 0) (by simp)
          have ee1 : Z.cell? ⟨ze, 1, none⟩ = some (.int .i64 x.kind) := eZ.cell (j := 1) (by simp)
          have ee2 : Z.cell? ⟨ze, 2, none⟩ = some (.int .i64 x.a) := eZ.cell (j := 2) (by simp)
          have ee3 : Z.cell? ⟨ze, 3, none⟩ = some (.int .i64 x.b) := eZ.cell (j := 3) (by simp)
          have ee4 : Z.cell? ⟨ze, 4, none⟩ = some (.int .i64 x.c) := eZ.cell (j := 4) (by simp)
          have lg := gZ.lt
          have le := eZ.lt
          have HB1 := Lib.hid b1
          have HB2 := Lib.hid b2
          have HSZ := Lib.hid sZ
          have HTZ := Lib.hid tZ
          have HCZ := Lib.hid (HCn.out Z (by omega) b1)
          clear b1 b2 gZ eZ sZ tZ HB1' HB2' HEY HSY HTY HCn g0 g1 g2 lz
          cases cb with
          | false =>
            go_wp2_with (go_at_call 72; refine HCZ.out.mono ?_; rintro e X2 ⟨rfl, hX2⟩; have s1 := HTZ.out.below hX2 HTZ.out.lt; have f1 := s1.frozen; have lx := s1.lt; have z0 : X2.cell? ⟨zl, 0, none⟩ = some (.slice none 0 0) := s1.cell (j := 0) (by simp); have z1 : X2.cell? ⟨zl, 1, none⟩ = some (.slice none 0 0) := s1.cell (j := 1) (by simp); have z2 : X2.cell? ⟨zl, 2, none⟩ = some (.slice none 0 0) := s1.cell (j := 2) (by simp); have z3 : X2.cell? ⟨zl, 3, none⟩ = some (.slice none 0 0) := s1.cell (j := 3) (by simp); have HS2 := Lib.hid s1; have HX2 := Lib.hid (HB1.out.trans (hX2.mono HB1.out.size)); clear hX2 s1)
            refine bodyPost_ret (v := .tuple #[.agg #[.slice none 0 0, .slice none 0 0, .slice none 0 0, .slice none 0 0], .int .i64 (n : Int), .int .i64 101]) (rd_end _ 4 5 6 rfl _ zl _ _ _ _ _ _ _ rfl rfl rfl (row4 HS2.out _ _ _ _)) rfl ?_
            exact RdTo.bad (HSt.out (by simp)) (by decide) (below4 HX2.out HZL.out _ _ _ _)
          | true =>
            go_wp2_with (go_at_call 72; refine HCZ.out.mono ?_; rintro e X2 ⟨rfl, hX2⟩; have HX2 := Lib.hid (HB2.out.trans (hX2.mono HB2.out.size)); clear hX2)
            go_roundw
            case rel => exact ⟨n + 1, by omega, by go_num, HX2.out, HGo.out (by simp)⟩
            case measure => simp [intOf]; omega
        · have en : n = l.length := by omega
          have n1 : ¬ (n : Int) < (l.length : Int) := by omega
          have HG := Lib.hid (chk_good HBk.out HM.out (by rw [← en]; exact Hbad.out))
          clear hbel s0 s1 en
          go_wp2_with fail
          refine bodyPost_ret (v := .tuple #[.agg #[.slice R.A1 k.rules.length R.c1, .slice R.A2 k.ranks.length R.c2, .slice R.A3 k.insured.length R.c3, .slice A l.length c], .int .i64 0, .int .i64 0]) (rd_end _ 4 5 6 rfl _ zl _ _ _ _ _ _ _ rfl rfl rfl (row4 HT1.out _ _ _ _)) rfl ?_
          exact RdTo.ok HG.out (below4 HBr.out HZL.out _ _ _ _)
end Go.Proofs.Ytaocgkmobfocjaa
