/- The walk of InspectChanged, with its plain facts. Conditions: arguments that read as data. -/
import Derived.Test.YtaocgkmobfocjaaIcg
import Derived.Test.YtaocgkmobfocjaaIae
import Derived.Test.YtaocgkmobfocjaaIal
import Derived.Deep.CutBlock
namespace Go.Proofs.Ytaocgkmobfocjaa
open Go.RowKit

theorem mix_plain {s n : Int} (h1 : 0 ≤ s ∧ s < 1000003) (h2 : 0 ≤ n ∧ n ≤ 20000) : mixS s n = (s * 31 + n) % 1000003 := by
  unfold mixS
  have e1 : wrap64 (s * 31) = s * 31 := (i64w _).symm.trans (IntWalk.i64_in _ (by omega))
  have e2 : wrap64 (s * 31 + n) = s * 31 + n := (i64w _).symm.trans (IntWalk.i64_in _ (by omega))
  rw [e1, e2, Int.tmod_eq_emod_of_nonneg (by omega)]
theorem mix_in {s n : Int} (h1 : 0 ≤ s ∧ s < 1000003) (h2 : 0 ≤ n ∧ n ≤ 20000) : 0 ≤ mixS s n ∧ mixS s n < 1000003 := by
  rw [mix_plain h1 h2]; omega
theorem mix_ne {s s' n : Int} (h1 : 0 ≤ s ∧ s < 1000003) (h1' : 0 ≤ s' ∧ s' < 1000003) (h2 : 0 ≤ n ∧ n ≤ 20000) (h : s ≠ s') : mixS s n ≠ mixS s' n := by
  rw [mix_plain h1 h2, mix_plain h1' h2]; omega
theorem mix_one {s n : Int} (h1 : 0 ≤ s ∧ s < 1000003) (h2 : 0 ≤ n ∧ n < 20000) : mixS s n ≠ mixS s (n + 1) := by
  rw [mix_plain h1 (by omega), mix_plain h1 (by omega)]; omega
/-- Five numbers, one after the other. -/
def mix5 (s a b c d e : Int) : Int := mixS (mixS (mixS (mixS (mixS s a) b) c) d) e
def okN (n : Int) : Prop := 0 ≤ n ∧ n ≤ 20000
theorem mix5_in {s a b c d e : Int} (h : 0 ≤ s ∧ s < 1000003) (ha : okN a) (hb : okN b) (hc : okN c) (hd : okN d) (he : okN e) : 0 ≤ mix5 s a b c d e ∧ mix5 s a b c d e < 1000003 := mix_in (mix_in (mix_in (mix_in (mix_in h ha) hb) hc) hd) he
section
variable {s a b c d e : Int} (h : 0 ≤ s ∧ s < 1000003) (ha : okN a) (hb : okN b) (hc : okN c) (hd : okN d) (he : okN e)
theorem mix5_e (h : 0 ≤ s ∧ s < 1000003) (ha : okN a) (hb : okN b) (hc : okN c) (hd : okN d) (he : okN (e + 1)) (he0 : 0 ≤ e) : mix5 s a b c d e ≠ mix5 s a b c d (e + 1) :=
  mix_one (mix_in (mix_in (mix_in (mix_in h ha) hb) hc) hd) ⟨he0, by have := he.2; omega⟩
theorem mix5_d (h : 0 ≤ s ∧ s < 1000003) (ha : okN a) (hb : okN b) (hc : okN c) (hd : okN (d + 1)) (hd0 : 0 ≤ d) (he : okN e) : mix5 s a b c d e ≠ mix5 s a b c (d + 1) e := by
  have hd' : okN d := ⟨hd0, by have := hd.2; omega⟩
  have q := mix_in (mix_in (mix_in h ha) hb) hc
  exact mix_ne (mix_in q hd') (mix_in q hd) he (mix_one q ⟨hd0, by have := hd.2; omega⟩)
theorem mix5_c (h : 0 ≤ s ∧ s < 1000003) (ha : okN a) (hb : okN b) (hc : okN (c + 1)) (hc0 : 0 ≤ c) (hd : okN d) (he : okN e) : mix5 s a b c d e ≠ mix5 s a b (c + 1) d e := by
  have hc' : okN c := ⟨hc0, by have := hc.2; omega⟩
  have q := mix_in (mix_in h ha) hb
  exact mix_ne (mix_in (mix_in q hc') hd) (mix_in (mix_in q hc) hd) he (mix_ne (mix_in q hc') (mix_in q hc) hd (mix_one q ⟨hc0, by have := hc.2; omega⟩))
theorem mix5_b (h : 0 ≤ s ∧ s < 1000003) (ha : okN a) (hb : okN (b + 1)) (hb0 : 0 ≤ b) (hc : okN c) (hd : okN d) (he : okN e) : mix5 s a b c d e ≠ mix5 s a (b + 1) c d e := by
  have hb' : okN b := ⟨hb0, by have := hb.2; omega⟩
  have q := mix_in h ha
  exact mix_ne (mix_in (mix_in (mix_in q hb') hc) hd) (mix_in (mix_in (mix_in q hb) hc) hd) he (mix_ne (mix_in (mix_in q hb') hc) (mix_in (mix_in q hb) hc) hd (mix_ne (mix_in q hb') (mix_in q hb) hc (mix_one q ⟨hb0, by have := hb.2; omega⟩)))
theorem mix5_a (h : 0 ≤ s ∧ s < 1000003) (ha : okN (a + 1)) (ha0 : 0 ≤ a) (hb : okN b) (hc : okN c) (hd : okN d) (he : okN e) : mix5 s a b c d e ≠ mix5 s (a + 1) b c d e := by
  have ha' : okN a := ⟨ha0, by have := ha.2; omega⟩
  exact mix_ne (mix_in (mix_in (mix_in (mix_in h ha') hb) hc) hd) (mix_in (mix_in (mix_in (mix_in h ha) hb) hc) hd) he (mix_ne (mix_in (mix_in (mix_in h ha') hb) hc) (mix_in (mix_in (mix_in h ha) hb) hc) hd (mix_ne (mix_in (mix_in h ha') hb) (mix_in (mix_in h ha) hb) hc (mix_ne (mix_in h ha') (mix_in h ha) hb (mix_one h ⟨ha0, by have := ha.2; omega⟩))))
end
/-- The numbers of a right entry are small. -/
def smallE (x : EntZ) : Prop := (0 ≤ x.day ∧ x.day ≤ 10000) ∧ (1 ≤ x.kind ∧ x.kind ≤ 6) ∧ (0 ≤ x.a ∧ x.a ≤ 100) ∧ (0 ≤ x.b ∧ x.b ≤ 10000) ∧ (-1 ≤ x.c ∧ x.c ≤ 100)
theorem can_small {k : BookZ} {l : List EntZ} {x : EntZ} (hb : bookB k = true) (hl : l.length ≤ 100) (h : canB k l x = true) : smallE x := by
  obtain ⟨h1, -, h2⟩ := canB_iff.1 h
  obtain ⟨b1, b2, b3⟩ := book_lens hb
  unfold smallE
  unfold kindB at h2
  by_cases k1 : x.kind = 1
  · rw [if_pos k1] at h2
    unfold signB rankB at h2
    simp only [Bool.and_eq_true, inBI] at h2
    obtain ⟨ha, hs⟩ := h2
    by_cases h3 : (k.rules.getD x.a.toNat default).two = false
    · rw [if_pos h3] at hs
      simp only [Bool.and_eq_true, decide_eq_true_eq, inBI] at hs
      omega
    · rw [if_neg h3] at hs
      simp only [Bool.and_eq_true, decide_eq_true_eq, inBI] at hs
      omega
  rw [if_neg k1] at h2
  by_cases k2 : x.kind = 2
  · rw [if_pos k2] at h2
    simp only [Bool.and_eq_true, decide_eq_true_eq, inBI] at h2
    omega
  rw [if_neg k2] at h2
  by_cases k3 : x.kind = 3
  · rw [if_pos k3] at h2
    unfold openS at h2
    simp only [Bool.and_eq_true, decide_eq_true_eq, inBI] at h2
    omega
  rw [if_neg k3] at h2
  by_cases k4 : x.kind = 4
  · rw [if_pos k4] at h2
    simp only [Bool.and_eq_true, decide_eq_true_eq, inBI] at h2
    omega
  rw [if_neg k4] at h2
  by_cases k5 : x.kind = 5
  · rw [if_pos k5] at h2
    simp only [Bool.and_eq_true, decide_eq_true_eq, inBI] at h2
    omega
  rw [if_neg k5] at h2
  by_cases k6 : x.kind = 6
  · rw [if_pos k6] at h2
    simp only [Bool.and_eq_true, decide_eq_true_eq, inBI] at h2
    omega
  rw [if_neg k6] at h2
  cases h2
theorem selN_step (l : List EntZ) (n : Nat) : selN l (n + 1) = mix5 (selN l n) (l.getD n default).day (l.getD n default).kind (wrap64 ((l.getD n default).a + 1)) (wrap64 ((l.getD n default).b + 1)) (wrap64 ((l.getD n default).c + 1)) := rfl
theorem selN_pre {l m : List EntZ} {n : Nat} (h : ∀ i, i < n → l.getD i default = m.getD i default) : selN l n = selN m n := by
  induction n with
  | zero => rfl
  | succ n ih => rw [selN_step, selN_step, ih (fun i hi => h i (by omega)), h n (by omega)]
theorem sel_in {k : BookZ} {l : List EntZ} (h : LogOk k l) : ∀ n, n ≤ l.length → 0 ≤ selN l n ∧ selN l n < 1000003 := by
  intro n
  induction n with
  | zero => intro _; show 0 ≤ (7 : Int) ∧ (7 : Int) < 1000003; omega
  | succ n ih =>
    intro hn
    have hs := can_small h.book (by have := h.len; rw [List.length_take]; omega) (h.can n (by omega))
    obtain ⟨s1, s2, s3, s4, s5⟩ := hs
    rw [selN_step, ← i64w, ← i64w, ← i64w, IntWalk.i64_in _ (by omega), IntWalk.i64_in _ (by omega), IntWalk.i64_in _ (by omega)]
    exact mix5_in (ih (by omega)) ⟨by omega, by omega⟩ ⟨by omega, by omega⟩ ⟨by omega, by omega⟩ ⟨by omega, by omega⟩ ⟨by omega, by omega⟩
/-- One of the five numbers is greater by 1. -/
def bumpE (f : Int) (x : EntZ) : EntZ :=
  if f = 0 then { x with day := x.day + 1 } else if f = 1 then { x with kind := x.kind + 1 } else if f = 2 then { x with a := x.a + 1 } else if f = 3 then { x with b := x.b + 1 } else { x with c := x.c + 1 }
theorem sel_bump {k : BookZ} {l : List EntZ} {x : EntZ} {f : Int} (h1 : LogOk k (l ++ [x])) (h2 : LogOk k (l ++ [bumpE f x])) : selN (l ++ [x]) (l.length + 1) ≠ selN (l ++ [bumpE f x]) (l.length + 1) := by
  have g : ∀ y : EntZ, (l ++ [y]).getD l.length default = y := fun y => by simp
  have hp : selN (l ++ [bumpE f x]) l.length = selN (l ++ [x]) l.length := selN_pre (fun i hi => by rw [fm_getD hi, fm_getD hi])
  have hin := sel_in h1 l.length (by simp)
  rw [logOk_snoc] at h1 h2
  obtain ⟨x1, x2, x3, x4, x5⟩ := can_small h1.1.book h1.1.len h1.2.1
  obtain ⟨y1, y2, y3, y4, y5⟩ := can_small h2.1.book h2.1.len h2.2.1
  rw [selN_step, selN_step, g, g, hp]
  generalize selN (l ++ [x]) l.length = s at hin
  have ew : ∀ z : Int, -1 ≤ z → z ≤ 10000 → wrap64 (z + 1) = z + 1 := fun z a b => (i64w _).symm.trans (IntWalk.i64_in _ (by omega))
  rw [ew x.a (by omega) (by omega), ew x.b (by omega) (by omega), ew x.c (by omega) (by omega), ew (bumpE f x).a (by omega) (by omega), ew (bumpE f x).b (by omega) (by omega), ew (bumpE f x).c (by omega) (by omega)]
  unfold bumpE at y1 y2 y3 y4 y5 ⊢
  by_cases f0 : f = 0
  · simp only [if_pos f0] at y1 y2 y3 y4 y5 ⊢
    exact mix5_a hin ⟨by omega, by omega⟩ (by omega) ⟨by omega, by omega⟩ ⟨by omega, by omega⟩ ⟨by omega, by omega⟩ ⟨by omega, by omega⟩
  simp only [if_neg f0] at y1 y2 y3 y4 y5 ⊢
  by_cases f1 : f = 1
  · simp only [if_pos f1] at y1 y2 y3 y4 y5 ⊢
    exact mix5_b hin ⟨by omega, by omega⟩ ⟨by omega, by omega⟩ (by omega) ⟨by omega, by omega⟩ ⟨by omega, by omega⟩ ⟨by omega, by omega⟩
  simp only [if_neg f1] at y1 y2 y3 y4 y5 ⊢
  by_cases f2 : f = 2
  · simp only [if_pos f2] at y1 y2 y3 y4 y5 ⊢
    exact mix5_c hin ⟨by omega, by omega⟩ ⟨by omega, by omega⟩ ⟨by omega, by omega⟩ (by omega) ⟨by omega, by omega⟩ ⟨by omega, by omega⟩
  simp only [if_neg f2] at y1 y2 y3 y4 y5 ⊢
  by_cases f3 : f = 3
  · simp only [if_pos f3] at y1 y2 y3 y4 y5 ⊢
    exact mix5_d hin ⟨by omega, by omega⟩ ⟨by omega, by omega⟩ ⟨by omega, by omega⟩ ⟨by omega, by omega⟩ (by omega) ⟨by omega, by omega⟩
  simp only [if_neg f3] at y1 y2 y3 y4 y5 ⊢
  exact mix5_e hin ⟨by omega, by omega⟩ ⟨by omega, by omega⟩ ⟨by omega, by omega⟩ ⟨by omega, by omega⟩ ⟨by omega, by omega⟩ (by omega)
theorem selL_at {l : List EntZ} {n i : Nat} (h : i < n) : (selL l n)[i]? = some (selN l (i + 1)) := by
  unfold selL
  rw [List.getElem?_map, List.getElem?_range h]
  rfl
/-- What the law finds of the seals of the changed list. -/
theorem bump_chg {k : BookZ} {l : List EntZ} {x : EntZ} {f : Int} (h1 : LogOk k (l ++ [x])) (h2 : LogOk k (l ++ [bumpE f x])) : ChgIs (selL (l ++ [bumpE f x]) (l.length + 1)) (selL (l ++ [x]) (l.length + 1)) (l.length : Int) ∧ (selL (l ++ [bumpE f x]) (l.length + 1)).take l.length = (selL (l ++ [x]) (l.length + 1)).take l.length ∧ selN (l ++ [bumpE f x]) (l.length + 1) ≠ selN (l ++ [x]) (l.length + 1) := by
  have hb := sel_bump h1 h2
  have hp : ∀ j, j < l.length → selN (l ++ [bumpE f x]) (j + 1) = selN (l ++ [x]) (j + 1) := fun j hj => selN_pre (fun i hi => by rw [fm_getD (by omega), fm_getD (by omega)])
  refine ⟨.inr ⟨l.length, rfl, fun j hj => ?_, ?_⟩, ?_, fun h => hb h.symm⟩
  · rw [selL_at (by omega), selL_at (by omega), hp j hj]
  · rw [selL_at (by omega), selL_at (by omega)]
    intro h
    injection h with h
    exact hb h.symm
  · rw [selL_succ, selL_succ, List.take_left' (selL_len _ _), List.take_left' (selL_len _ _)]
    unfold selL
    refine List.map_congr_left (fun i hi => hp i (List.mem_range.1 hi))
theorem cut_chg (l : List EntZ) (n : Nat) : ChgIs (selL l (n + 1)) (selL l n) (n : Int) := by
  refine .inr ⟨n, rfl, fun j hj => by rw [selL_at (by omega), selL_at hj], ?_⟩
  rw [selL_at (by omega), List.getElem?_eq_none (by rw [selL_len]; omega)]
  simp

def NumsToC (w : World) (l : List Int) (e : Ending) (w' : World) : Prop :=
  Below w.heap.size w w' ∧ ∃ A c, e = .returned (.slice A l.length c) ∧ Reads w' w'.heap.size 1 A l.length (l.map (Value.int .i64)) ∧ l.length ≤ c
def SlTo (w : World) (n : Nat) (L : List Int) (e : Ending) (w' : World) : Prop :=
  Below w.heap.size w w' ∧ ∃ A c, e = .returned (.tuple #[.slice A n c, .int .i64 0]) ∧ Reads w' w'.heap.size 1 A n (L.map (Value.int .i64)) ∧ n ≤ c
set_option maxRecDepth 100000 in
set_option maxHeartbeats 2000000 in
theorem sealsC_any (k : BookZ) (R : BkR) (l : List EntZ) (A : Option Addr) (c B : Nat) (w : World) (hB : B ≤ w.heap.size) (hl : l.length ≤ 1000) (hp : 0 < l.length) (hr : Reads w B 5 A l.length (entCells l)) :
    Calls Try.prog 67 #[logV k R l A c] w (NumsToC w (selL l l.length)) := by
  obtain ⟨W, hW⟩ : ∃ W, W = w.alloc (.cells #[.slice R.A1 k.rules.length R.c1, .slice R.A2 k.ranks.length R.c2, .slice R.A3 k.insured.length R.c3, .slice A l.length c] 66) := ⟨_, rfl⟩
  have bW : Below w.heap.size w W := by subst hW; exact (Below.refl _ _).alloc (Nat.le_refl _) _
  have gW : Row W w.heap.size 66 [.slice R.A1 k.rules.length R.c1, .slice R.A2 k.ranks.length R.c2, .slice R.A3 k.insured.length R.c3, .slice A l.length c] := by subst hW; exact Row.new w _ _
  obtain ⟨zg, hzg⟩ : ∃ z, z = w.heap.size := ⟨_, rfl⟩
  rw [← hzg] at gW
  have g3 : W.cell? ⟨zg, 3, none⟩ = some (.slice A l.length c) := gW.cell (j := 3) (by simp)
  have lW := gW.lt
  have HBW := Lib.hid bW
  have HEc := ent_cells hr
  have HBB : Hid (B ≤ w.heap.size) := hB
  have HMx : Hid (∀ (s : Int) (x : EntZ) (X : World) (c : Nat), Calls Try.prog 84 #[.int .i64 s, .slice (some ⟨X.heap.size, 0, none⟩) 5 c] (X.alloc (.cells #[.int .i64 x.day, .int .i64 x.kind, .int .i64 (wrap64 (x.a + 1)), .int .i64 (wrap64 (x.b + 1)), .int .i64 (wrap64 (x.c + 1))] 3)) fun e w' => e = .returned (.int .i64 (mixL s (fldL x))) ∧ w' = X.alloc (.cells #[.int .i64 x.day, .int .i64 x.kind, .int .i64 (wrap64 (x.a + 1)), .int .i64 (wrap64 (x.b + 1)), .int .i64 (wrap64 (x.c + 1))] 3)) := fun s x X c =>
    mix_any s (fldL x) (some ⟨X.heap.size, 0, none⟩) c _ _ (Nat.le_refl _) (by show 5 ≤ maxLen; decide) ((Row.new X 3 #[.int .i64 x.day, .int .i64 x.kind, .int .i64 (wrap64 (x.a + 1)), .int .i64 (wrap64 (x.b + 1)), .int .i64 (wrap64 (x.c + 1))]).reads (n := 5) (size := 1) rfl (by simp))
  obtain ⟨i0, hi, hz0, hz1, hz2⟩ := info_parts Try.info_intI
  unfold logV at *
  clear bW gW hr hB
  go_enter Try.func67, Try.ntmps67
  go_upto_region 1 with fail
  rw [← hW, ← hzg]
  clear hW hzg
  go_wp2_with fail
  go_loopw [3, 4, 10] (fun v s q wr => ∃ n : Nat, n ≤ l.length ∧ q = .int .i64 n ∧ s = .int .i64 (selN l n) ∧ wr.ownsRow W.heap.size 3 1 v (selL l n).length ((selL l n).map (Value.int .i64)) ∧ Below W.heap.size W wr) (fun _ _ q _ => l.length - (intOf q).toNat)
  case atStart => exact ⟨0, Nat.zero_le _, rfl, rfl, owns_nil _ _ _ _, Below.refl _ _⟩
  case round =>
    obtain ⟨n, hn, rfl, rfl, hown, hbel⟩ := hrel
    have HBr := Lib.hid (HBW.out.trans (hbel.mono HBW.out.size))
    have HBL := Lib.hid hbel
    have HOw := Lib.hid hown
    by_cases hlt : n < l.length
    · have n1 : (n : Int) < (l.length : Int) := by omega
      have n0 : ¬ (n : Int) < 0 := by omega
      have en : IntKind.i64.wrap ((n : Int) + 1) = (n : Int) + 1 := IntWalk.i64_in _ (by omega)
      obtain ⟨b, o, hA, lb, x0, x1, x2, x3, x4⟩ := HEc.out n hlt wr (HBr.out.mono HBB.out) (Nat.le_trans HBB.out HBr.out.size)
      have HSn : Hid (selN l (n + 1) = mixL (selN l n) (fldL (l.getD n default))) := rfl
      rw [ent_getD hlt] at HSn
      have HLn := Lib.hid (selL_succ l n)
      have hln := selL_len l n
      have hl9 : (selL l n).length ≤ 1000 := by omega
      clear hln
      generalize l[n] = x at x0 x1 x2 x3 x4 HSn
      have HM1 := Lib.hid (HMx.out (selN l n) x)
      generalize mixL (selN l n) (fldL x) = d at HM1 HSn
      rw [HSn.out] at HLn
      generalize selN l n = s at HM1 ⊢
      generalize selL l n = L at hl9 HOw HLn
      have ea : IntKind.i64.wrap (x.a + 1) = wrap64 (x.a + 1) := i64w _
      have eb : IntKind.i64.wrap (x.b + 1) = wrap64 (x.b + 1) := i64w _
      have ec : IntKind.i64.wrap (x.c + 1) = wrap64 (x.c + 1) := i64w _
      generalize wrap64 (x.a + 1) = ya at HM1 ea
      generalize wrap64 (x.b + 1) = yb at HM1 eb
      generalize wrap64 (x.c + 1) = yc at HM1 ec
      subst hA
      have bY := HBL.out.alloc HBL.out.size (.cells #[.int .i64 x.day, .int .i64 x.kind, .int .i64 x.a, .int .i64 x.b, .int .i64 x.c] 54)
      have rY := Row.new wr 54 #[.int .i64 x.day, .int .i64 x.kind, .int .i64 x.a, .int .i64 x.b, .int .i64 x.c]
      have oY := owns_alloc HOw.out (.cells #[.int .i64 x.day, .int .i64 x.kind, .int .i64 x.a, .int .i64 x.b, .int .i64 x.c] 54)
      clear hown hbel
      go_upto_region 6 with fail
      generalize wr.alloc (.cells #[.int .i64 x.day, .int .i64 x.kind, .int .i64 x.a, .int .i64 x.b, .int .i64 x.c] 54) = Y at bY rY oY ⊢
      generalize wr.heap.size = ze at rY ⊢
      have y0 : Y.cell? ⟨ze, 0, none⟩ = some (.int .i64 x.day) := rY.cell (j := 0) (by simp)
      have y1 : Y.cell? ⟨ze, 1, none⟩ = some (.int .i64 x.kind) := rY.cell (j := 1) (by simp)
      have y2 : Y.cell? ⟨ze, 2, none⟩ = some (.int .i64 x.a) := rY.cell (j := 2) (by simp)
      have y3 : Y.cell? ⟨ze, 3, none⟩ = some (.int .i64 x.b) := rY.cell (j := 3) (by simp)
      have y4 : Y.cell? ⟨ze, 4, none⟩ = some (.int .i64 x.c) := rY.cell (j := 4) (by simp)
      have lY := rY.lt
      have HBY := Lib.hid bY
      have HOY := Lib.hid oY
      have HM2 := Lib.hid (HM1.out Y)
      clear bY rY oY x0 x1 x2 x3 x4 HM1
      go_upto_region 7 with (go_at_call 84; refine (HM2.out _).mono ?_; rintro e w' ⟨rfl, hw⟩; rw [hw]; clear hw)
      have bZ := HBY.out.alloc HBY.out.size (.cells #[.int .i64 x.day, .int .i64 x.kind, .int .i64 ya, .int .i64 yb, .int .i64 yc] 3)
      have oZ := owns_alloc HOY.out (.cells #[.int .i64 x.day, .int .i64 x.kind, .int .i64 ya, .int .i64 yb, .int .i64 yc] 3)
      generalize Y.alloc (.cells #[.int .i64 x.day, .int .i64 x.kind, .int .i64 ya, .int .i64 yb, .int .i64 yc] 3) = Z at bZ oZ ⊢
      have HBZ := Lib.hid bZ
      have hws := bZ.size
      have m1 : L.length + 1 ≤ maxLen := by unfold maxLen; omega
      have m2 : (L.length + 1) * 8 ≤ 140737488355328 := by omega
      clear HM2 y0 y1 y2 y3 y4 lY bZ
      go_wp2_with (at_builtin; refine wpList_app _ rfl _ _ 23 rfl W.heap.size 3 i0 (.int .i64 0) 1 8 Try.underlying23 hi hz0 hz1 hz2 rfl (by decide) u3 L.length (L.map (Value.int .i64)) rfl ?qo (Z.heap.size + 1) (some ⟨Z.heap.size, 0, none⟩) 1 1 ([d].map (Value.int .i64)) rfl ?qr ?q1 m1 m2 ?qb ?_)
      case qo => first | exact owns_alloc oZ _ | exact owns_alloc (owns_drewN oZ _) _ | exact owns_drewN (owns_alloc oZ _) _
      case qr =>
        refine Row.reads (t := 3) ?_ rfl (by omega)
        show Row _ _ _ [.int .i64 d]
        first | exact row_oneI _ _ _ _ (by simp; done) | exact (row_oneI _ _ _ _ (by simp; done)).drewN _
      case q1 => first | rfl | (intro u hu; simp at hu; subst hu; rfl)
      case qb => first | exact hws | (have := hws; omega) | (have := hws; simp; omega)
      intro v' w1 hown' hbel'
      have HB1 : Hid (Below W.heap.size W w1) := by
        refine Below.trans ?_ hbel'
        repeat (first | (with_reducible exact HBZ.out) | (with_reducible exact hws) | (with_reducible refine below_drewN ?_ _) | (with_reducible refine Below.alloc ?_ ?_ _) | (simp; omega))
      go_wp2_with fail
      go_roundw
      case rel => exact ⟨n + 1, by omega, by go_num, by rw [HSn.out], by rw [HLn.out]; simpa using hown', HB1.out⟩
      case measure => simp [intOf]; omega
    · have en : n = l.length := by omega
      have n1 : ¬ (n : Int) < (l.length : Int) := by omega
      obtain ⟨A2, c2, rfl, hr2, hc2⟩ := own_readsC hown (by rw [selL_len]; omega)
      rw [en] at hr2 hc2
      have HEn := Lib.hid en
      have HR2 := Lib.hid hr2
      have HC2 := Lib.hid hc2
      clear en hlt hr2 hc2 hown hbel
      go_wp2_with fail
      go_ret
      exact ⟨HBr.out, A2, c2, by rw [HEn.out]; rfl, HR2.out, HC2.out⟩
set_option maxRecDepth 100000 in
set_option maxHeartbeats 1000000 in
theorem SealsC_any (k : BookZ) (R : BkR) (l : List EntZ) (A : Option Addr) (c B : Nat) (w : World) (hB : B ≤ w.heap.size) (hl : l.length ≤ maxLen) (hlc : l.length ≤ c) (hr : Reads w B 5 A l.length (entCells l)) (hk : BkIn w B k R) (hp : 0 < l.length) (h0 : (chkR k l).2 = 0) :
    Calls Try.prog 34 #[bookV k R, .slice A l.length c] w (SlTo w l.length (selL l l.length)) := by
  obtain ⟨W, hW⟩ : ∃ W, W = w.alloc (.cells #[.slice R.A1 k.rules.length R.c1, .slice R.A2 k.ranks.length R.c2, .slice R.A3 k.insured.length R.c3] 25) := ⟨_, rfl⟩
  have bW : Below w.heap.size w W := by subst hW; exact (Below.refl _ _).alloc (Nat.le_refl _) _
  have r0 : Row W w.heap.size 25 [.slice R.A1 k.rules.length R.c1, .slice R.A2 k.ranks.length R.c2, .slice R.A3 k.insured.length R.c3] := by subst hW; exact Row.new w _ _
  obtain ⟨zb, hzb⟩ : ∃ z, z = w.heap.size := ⟨_, rfl⟩
  rw [← hzb] at r0
  have q0 : W.cell? ⟨zb, 0, none⟩ = some (.slice R.A1 k.rules.length R.c1) := r0.cell (j := 0) (by simp)
  have q1 : W.cell? ⟨zb, 1, none⟩ = some (.slice R.A2 k.ranks.length R.c2) := r0.cell (j := 1) (by simp)
  have q2 : W.cell? ⟨zb, 2, none⟩ = some (.slice R.A3 k.insured.length R.c3) := r0.cell (j := 2) (by simp)
  have lW := r0.lt
  have HBW := Lib.hid bW
  have HRd := Lib.hid (read_any k R l A c B W (Nat.le_trans hB bW.size) hl hlc (hr.below (bW.mono hB)) (hk.below (bW.mono hB)))
  unfold RdTo at HRd
  have HSe : Hid ((chkR k l).2 = 0 → ∀ X, Below w.heap.size w X → Calls Try.prog 67 #[logV k R l A c] X (NumsToC X (selL l l.length))) := fun h X hX => sealsC_any k R l A c B X (Nat.le_trans hB hX.size) (by have := chk_len h; omega) hp (hr.below (hX.mono hB))
  unfold bookV at *
  clear bW r0 hk hr hB
  · rw [logE_ok h0, chkR_zero h0] at HRd
    have HS1 := Lib.hid (HSe.out h0)
    unfold logV at *
    clear h0 HSe
    go_enter Try.func34, Try.ntmps34
    go_upto_region 1 with fail
    rw [← hW, ← hzb]
    clear hW hzb
    go_upto_region 2 with (go_at_call 44; refine HRd.out.mono ?_; rintro e X ⟨rfl, hX⟩)
    have bY := hX.alloc hX.size (.cells #[.slice R.A1 k.rules.length R.c1, .slice R.A2 k.ranks.length R.c2, .slice R.A3 k.insured.length R.c3, .slice A l.length c] 66)
    have gY := Row.new X 66 #[.slice R.A1 k.rules.length R.c1, .slice R.A2 k.ranks.length R.c2, .slice R.A3 k.insured.length R.c3, .slice A l.length c]
    generalize X.alloc (.cells #[.slice R.A1 k.rules.length R.c1, .slice R.A2 k.ranks.length R.c2, .slice R.A3 k.insured.length R.c3, .slice A l.length c] 66) = Y at bY gY ⊢
    generalize X.heap.size = zg at gY ⊢
    have HBY := Lib.hid (HBW.out.trans (bY.mono HBW.out.size))
    have g0 : Y.cell? ⟨zg, 0, none⟩ = some (.slice R.A1 k.rules.length R.c1) := gY.cell (j := 0) (by simp)
    have g1 : Y.cell? ⟨zg, 1, none⟩ = some (.slice R.A2 k.ranks.length R.c2) := gY.cell (j := 1) (by simp)
    have g2 : Y.cell? ⟨zg, 2, none⟩ = some (.slice R.A3 k.insured.length R.c3) := gY.cell (j := 2) (by simp)
    have g3 : Y.cell? ⟨zg, 3, none⟩ = some (.slice A l.length c) := gY.cell (j := 3) (by simp)
    have lG := gY.lt
    have HS2 := Lib.hid (HS1.out Y HBY.out)
    clear hX bY gY HRd HS1
    go_wp2_with (go_at_call 67; refine HS2.out.mono ?_; rintro e Z ⟨hZ, A2, c2, rfl, hr2, hc2⟩; have HR2 := Lib.hid hr2; have HC2 := Lib.hid hc2; have HZ := Lib.hid (HBY.out.trans (hZ.mono HBY.out.size)); clear hZ hr2 hc2)
    refine bodyPost_ret (v := .tuple #[.slice A2 (selL l l.length).length c2, .int .i64 0]) (by simp [results, Try.results34, go_sem]) rfl ?_
    rw [selL_len] at HC2 HR2
    refine ⟨HZ.out, A2, c2, by rw [selL_len], HR2.out, HC2.out⟩

structure ChC (U : World) (R : BkR) (k : BookZ) (A : Option Addr) (c m bs os cs : Nat) (done : Nat → Bool) (xs : Nat → Value) (y : World) : Prop where
  bl : Below U.heap.size U y
  v0 : done 0 = true → xs 0 = .agg #[.slice R.A1 k.rules.length R.c1, .slice R.A2 k.ranks.length R.c2, .slice R.A3 k.insured.length R.c3]
  v1 : done 1 = true → xs 1 = .slice A (m + 1) c
  v2 : done 2 = true → xs 2 = .slice (some ⟨bs, os, none⟩) (m + 1) cs
  v3 : done 3 = true → xs 3 = .slice (some ⟨bs, os, none⟩) (m + 1) cs
  v4 : done 4 = true → xs 4 = .int .i64 ((m : Int) + 1)
  v5 : done 5 = true → xs 5 = .int .i64 (m : Int)
  v6 : done 6 = true → xs 6 = .slice (some ⟨bs, os, none⟩) m cs
  v7 : done 7 = true → xs 7 = .tuple #[.int .i64 (m : Int), .int .i64 0]
  v8 : done 8 = true → xs 8 = .tuple #[.int .i64 (m : Int), .int .i64 0]
  v9 : done 9 = true → xs 9 = .int .i64 (m : Int)
  v10 : done 10 = true → xs 10 = .int .i64 0
  v11 : done 11 = true → xs 11 = .int .i64 (m : Int)
  v12 : done 12 = true → xs 12 = .int .i64 0
structure ChE (U : World) (A : Option Addr) (c m bs os cs bz oz cz : Nat) (sz ss : Int) (done : Nat → Bool) (xs : Nat → Value) (y : World) : Prop where
  bl : Below U.heap.size U y
  v0 : done 0 = true → xs 0 = .int .i64 0
  v1 : done 1 = true → xs 1 = .bool true
  v2 : done 2 = true → xs 2 = .bool true
  v3 : done 3 = true → xs 3 = .int .i64 (m : Int)
  v4 : done 4 = true → xs 4 = .slice A (m + 1) c
  v5 : done 5 = true → xs 5 = .int .i64 ((m : Int) + 1)
  v6 : done 6 = true → xs 6 = .int .i64 (m : Int)
  v7 : done 7 = true → xs 7 = .bool true
  v8 : done 8 = true → xs 8 = .bool true
  v9 : done 9 = true → xs 9 = .bool true
  v10 : done 10 = true → xs 10 = .slice (some ⟨bz, oz, none⟩) (m + 1) cz
  v11 : done 11 = true → xs 11 = .int .i64 ((m : Int) + 1)
  v12 : done 12 = true → xs 12 = .slice (some ⟨bs, os, none⟩) (m + 1) cs
  v13 : done 13 = true → xs 13 = .int .i64 ((m : Int) + 1)
  v14 : done 14 = true → xs 14 = .bool true
  v15 : done 15 = true → xs 15 = .bool true
  v16 : done 16 = true → xs 16 = .bool true
  v17 : done 17 = true → xs 17 = .slice (some ⟨bz, oz, none⟩) (m + 1) cz
  v18 : done 18 = true → xs 18 = .slice (some ⟨bz, oz, none⟩) (m + 1) cz
  v19 : done 19 = true → xs 19 = .int .i64 ((m : Int) + 1)
  v20 : done 20 = true → xs 20 = .int .i64 (m : Int)
  v21 : done 21 = true → xs 21 = .slice (some ⟨bz, oz, none⟩) m cz
  v22 : done 22 = true → xs 22 = .slice (some ⟨bs, os, none⟩) (m + 1) cs
  v23 : done 23 = true → xs 23 = .slice (some ⟨bs, os, none⟩) (m + 1) cs
  v24 : done 24 = true → xs 24 = .int .i64 ((m : Int) + 1)
  v25 : done 25 = true → xs 25 = .int .i64 (m : Int)
  v26 : done 26 = true → xs 26 = .slice (some ⟨bs, os, none⟩) m cs
  v27 : done 27 = true → xs 27 = .bool true
  v28 : done 28 = true → xs 28 = .bool true
  v29 : done 29 = true → xs 29 = .bool true
  v30 : done 30 = true → xs 30 = .slice (some ⟨bz, oz, none⟩) (m + 1) cz
  v31 : done 31 = true → xs 31 = .slice (some ⟨bz, oz, none⟩) (m + 1) cz
  v32 : done 32 = true → xs 32 = .int .i64 ((m : Int) + 1)
  v33 : done 33 = true → xs 33 = .int .i64 (m : Int)
  v34 : done 34 = true → xs 34 = .pointer (some ⟨bz, oz + m, none⟩)
  v35 : done 35 = true → xs 35 = .int .i64 sz
  v36 : done 36 = true → xs 36 = .slice (some ⟨bs, os, none⟩) (m + 1) cs
  v37 : done 37 = true → xs 37 = .slice (some ⟨bs, os, none⟩) (m + 1) cs
  v38 : done 38 = true → xs 38 = .int .i64 ((m : Int) + 1)
  v39 : done 39 = true → xs 39 = .int .i64 (m : Int)
  v40 : done 40 = true → xs 40 = .pointer (some ⟨bs, os + m, none⟩)
  v41 : done 41 = true → xs 41 = .int .i64 ss
  v42 : done 42 = true → xs 42 = .bool true
  v43 : done 43 = true → xs 43 = .bool true
  v44 : done 44 = true → xs 44 = .bool true
  v45 : done 45 = true → xs 45 = .bool true
  v46 : done 46 = true → xs 46 = .bool true
  v47 : done 47 = true → xs 47 = .bool true
theorem own_at {w : World} {base : Nat} {e : TypeId} {size n : Nat} {v : Value} {xs : List Value} (h : w.ownsRow base e size v n xs) (hn : 0 < n) : ∃ g c, v = .slice (some ⟨g, 0, none⟩) n c ∧ Row w g e xs ∧ base ≤ g ∧ n ≤ c := by
  have h0 := h
  rcases h.2 with ⟨_, h2⟩ | ⟨g, cap, cur, rfl, hb, hg, hc, -⟩
  · omega
  · exact ⟨g, cap, rfl, (Row.of_own h0).1, hb, hc⟩
theorem cells_snoc (l : List EntZ) (x : EntZ) : entCells (l ++ [x]) = entCells l ++ entL x := by simp [entCells]
/-- The five cells of the last entry. -/
theorem row_last {w : World} {g : Nat} {t : TypeId} {l : List EntZ} {x : EntZ} (h : Row w g t (entCells (l ++ [x]))) {j : Nat} (hj : j < 5) : w.cell? ⟨g, l.length * 5 + j, none⟩ = (entL x)[j]? := by
  have e := cells_snoc l x
  have e2 := entCells_len l
  rw [e] at h
  rw [h.cell (by rw [List.length_append, e2]; simp [entL]; omega), List.getElem?_append_right (by omega), e2]
  congr 1
  omega
theorem row_bump {w : World} {g : Nat} {t : TypeId} {l : List EntZ} {x y : EntZ} {u : Value} (h : Row w g t (entCells (l ++ [x]))) {j : Nat} (_hj : j < 5) (hy : entL y = (entL x).set j u) : Row (w.setCell ⟨g, l.length * 5 + j, none⟩ u) g t (entCells (l ++ [y])) := by
  have hs := h.set (l.length * 5 + j) u
  have e2 := entCells_len l
  rw [cells_snoc] at hs ⊢
  rw [List.set_append_right _ _ (by omega), e2, Nat.add_sub_cancel_left, ← hy] at hs
  exact hs
theorem below_set {base : Nat} {a w : World} (h : Below base a w) {p : Addr} (hp : base ≤ p.block) (u : Value) : Below base a (w.setCell p u) :=
  h.trans ⟨rfl, rfl, rfl, by simp [World.setCell], fun k hk => Below.heap_setCell _ _ _ _ (fun e => by omega)⟩
theorem reads_cut {w : World} {B m b o : Nat} {L : List Int} (h : Reads w B 1 (some ⟨b, o, none⟩) (m + 1) (L.map (Value.int .i64))) : Reads w B 1 (some ⟨b, o, none⟩) m ((L.take m).map (Value.int .i64)) := by
  have hl := h.1
  rw [List.length_map] at hl
  refine ⟨by rw [List.length_map, List.length_take]; omega, fun hm => ?_⟩
  obtain ⟨b2, o2, h1, h2, h3⟩ := h.2 (Nat.succ_pos m)
  injection h1 with h1
  injection h1 with h1a h1b
  subst h1a
  subst h1b
  refine ⟨b, o, rfl, h2, fun j u hu => h3 j u ?_⟩
  rw [List.map_take, List.getElem?_take] at hu
  by_cases hj : j < m
  · rwa [if_pos hj] at hu
  · rw [if_neg hj] at hu; cases hu
/-- A list and an error. -/
def SlBad (w : World) (E : Int) (e : Ending) (w' : World) : Prop := (∃ A n c, e = .returned (.tuple #[.slice A n c, .int .i64 E])) ∧ Below w.heap.size w w'
set_option maxRecDepth 100000 in
set_option maxHeartbeats 4000000 in
theorem changedL_walk {w : World} (k : BookZ) (R : BkR) (hk : BkIn w w.heap.size k R) (l : List EntZ) (A : Option Addr) (c : Nat) (hr : Reads w w.heap.size 5 A l.length (entCells l)) (hl : l.length ≤ maxLen) (hlc : l.length ≤ c) (field : Int) :
    Calls Try.prog 15 #[bookV k R, .slice A l.length c, .int .i64 field] w (TrueI w) := by
  obtain ⟨W, hW⟩ : ∃ W, W = w.alloc (.cells #[.slice R.A1 k.rules.length R.c1, .slice R.A2 k.ranks.length R.c2, .slice R.A3 k.insured.length R.c3] 25) := ⟨_, rfl⟩
  have bW : Below w.heap.size w W := by subst hW; exact (Below.refl _ _).alloc (Nat.le_refl _) _
  have r0 : Row W w.heap.size 25 [.slice R.A1 k.rules.length R.c1, .slice R.A2 k.ranks.length R.c2, .slice R.A3 k.insured.length R.c3] := by subst hW; exact Row.new w _ _
  obtain ⟨zb, hzb⟩ : ∃ z, z = w.heap.size := ⟨_, rfl⟩
  rw [← hzb] at r0
  have gW0 : W.cell? ⟨zb, 0, none⟩ = some (.slice R.A1 k.rules.length R.c1) := r0.cell (j := 0) (by simp)
  have gW1 : W.cell? ⟨zb, 1, none⟩ = some (.slice R.A2 k.ranks.length R.c2) := r0.cell (j := 1) (by simp)
  have gW2 : W.cell? ⟨zb, 2, none⟩ = some (.slice R.A3 k.insured.length R.c3) := r0.cell (j := 2) (by simp)
  have lW := r0.lt
  have HBW := Lib.hid bW
  have HGW := Lib.hid r0
  have HW : Hid (∀ X, Below w.heap.size w X → Calls Try.prog 17 #[] X fun e w' => e = .returned (.bool true) ∧ Below w.heap.size w w') := fun X hX => (works_any X).mono fun e w' h => ⟨h.1, hX.trans (h.2.mono hX.size)⟩
  have HL := Lib.hid (long_any A l.length c W)
  have HSC : Hid (∀ (l : List EntZ) (A : Option Addr) (c n : Nat), l.length = n + 1 → (chkR k l).2 = 0 → n + 1 ≤ c → ∀ X, Below w.heap.size w X → Reads X X.heap.size 5 A (n + 1) (entCells l) → Calls Try.prog 34 #[bookV k R, .slice A (n + 1) c] X (SlTo X (n + 1) (selL l (n + 1)))) := fun l A c n h1 h2 h3 X hX h => by
    have q := SealsC_any k R l A c X.heap.size X (Nat.le_refl _) (by have := chk_len h2; unfold maxLen; omega) (by omega) (by rw [h1]; exact h) ((hk.below hX).more hX.size) (by omega) h2
    rw [h1] at q
    exact q
  have HSB : Hid (∀ (l : List EntZ) (A : Option Addr) (c n : Nat), l.length = n + 1 → n + 1 ≤ 9223372036854775807 → n + 1 ≤ c → ∀ X, Below w.heap.size w X → Reads X X.heap.size 5 A (n + 1) (entCells l) → Calls Try.prog 34 #[bookV k R, .slice A (n + 1) c] X (SlBad X (chkR k l).2)) := fun l A c n h1 h2 h3 X hX h => by
    have q := Seals_any k R l A c X.heap.size X (Nat.le_refl _) (by unfold maxLen; omega) (by omega) (by rw [h1]; exact h) ((hk.below hX).more hX.size)
    rw [h1] at q
    exact q.mono fun e w' ⟨a, A2, c2, b, _⟩ => ⟨⟨A2, _, c2, b⟩, a⟩
  have HCh : Hid (∀ (l : List EntZ) (A : Option Addr) (c n : Nat) (zs : List Int) (A2 : Option Addr) (c2 n2 : Nat) (z : Int), l.length = n + 1 → (chkR k l).2 = 0 → n + 1 ≤ c → zs.length = n2 → n2 ≤ 1000 → ChgIs (selL l (n + 1)) zs z → ∀ X, Below w.heap.size w X → Reads X X.heap.size 5 A (n + 1) (entCells l) → Reads X X.heap.size 1 A2 n2 (zs.map (Value.int .i64)) → Calls Try.prog 36 #[bookV k R, .slice A (n + 1) c, .slice A2 n2 c2] X fun e w' => e = .returned (.tuple #[.int .i64 z, .int .i64 0]) ∧ Below X.heap.size X w') := fun l A c n zs A2 c2 n2 z h1 h2 h3 h4 h5 h6 X hX h h' => by
    have q := Changed_any k R l A c X.heap.size zs A2 c2 X (Nat.le_refl _) (by have := chk_len h2; unfold maxLen; omega) (by omega) (by rw [h1]; exact h) ((hk.below hX).more hX.size) (by unfold maxLen; omega) (by rw [h4]; exact h')
    rw [h1, h4, h2] at q
    refine q.mono fun e w' ⟨r, a, b, _, d⟩ => ⟨?_, d⟩
    rw [a, chg_one (b rfl) h6]
  have HSm : Hid (∀ (L : List Int) (n : Nat) (A A' : Option Addr) (c c' : Nat) (X : World), L.length = n → n ≤ 1000 → Reads X X.heap.size 1 A n (L.map (Value.int .i64)) → Reads X X.heap.size 1 A' n (L.map (Value.int .i64)) → Calls Try.prog 22 #[.slice A n c, .slice A' n c'] X fun e w' => e = .returned (.bool true) ∧ Below X.heap.size X w') := fun L n A A' c c' X h0 h h1 h2 => by subst h0; exact same_eq L A A' c c' X.heap.size X.heap.size X h1 h2 (Nat.le_refl _) (Nat.le_refl _) (by omega)
  have HRl : Hid (∀ X, Below w.heap.size w X → Reads X w.heap.size 5 A l.length (entCells l)) := fun X hX => hr.below hX
  have HLc := Lib.hid hlc
  obtain ⟨i0, hi, hz0, hz1, hz2⟩ := info_parts Try.info_entI
  have HLg : Hid ((decide (30 < l.length) && decide (l.length ≤ 100)) = false → l.length ≤ 30 ∨ 100 < l.length) := fun h => by simp at h; omega
  generalize (decide (30 < l.length) && decide (l.length ≤ 100)) = lg at HL HLg
  unfold bookV at *
  clear bW r0 hk hr hlc
  go_enter Try.func15, Try.ntmps15
  go_upto_region 1 with fail
  rw [← hW, ← hzb]
  clear hW hzb
  cases lg with
  | true =>
    go_wp2_with (first | (go_at_call 16; refine HL.out.mono ?_; rintro e w' ⟨rfl, hw⟩; rw [hw]; clear hw) | (go_at_call 17; refine (HW.out _ HBW.out).mono ?_; rintro e w' ⟨rfl, hb⟩; have BW := Lib.hid hb; clear hb))
    go_ret
    exact ⟨rfl, BW.out⟩
  | false =>
  by_cases hp : l.length = 0
  · have d1 : decide (l.length = 0) = true := decide_eq_true hp
    have d2 : ((l.length : Int) == 0) = true := by simpa using hp
    have d3 : decide ((l.length : Int) = 0) = true := by simpa using hp
    clear hp
    go_wp2_with (first | (go_at_call 16; refine HL.out.mono ?_; rintro e w' ⟨rfl, hw⟩; rw [hw]; clear hw) | (go_at_call 17; refine (HW.out _ HBW.out).mono ?_; rintro e w' ⟨rfl, hb⟩; have BW := Lib.hid hb; clear hb))
    go_ret
    exact ⟨rfl, BW.out⟩
  obtain ⟨l0, x, hx⟩ : ∃ l0 x, l = l0 ++ [x] := by
    rcases List.eq_nil_or_concat l with q | ⟨l0, x, q⟩
    · rw [q] at hp; exact absurd rfl hp
    · exact ⟨l0, x, by rw [q, List.concat_eq_append]⟩
  have HX := Lib.hid hx
  obtain ⟨m, hm0⟩ : ∃ m, l0.length = m := ⟨_, rfl⟩
  have hm : l.length = m + 1 := by rw [hx, List.length_append, hm0]; rfl
  have HM0 := Lib.hid hm0
  have HM := Lib.hid hm
  clear hx hm0 hp
  rw [hm] at HL HLc HLg HRl hl ⊢
  clear hm
  have hmm : m + 1 ≤ 30 ∨ 100 < m + 1 := HLg.out rfl
  unfold maxLen at hl
  have a0 : decide (m + 1 = 0) = false := decide_eq_false (by omega)
  have a1 : ¬ (m : Int) + 1 = 0 := by omega
  have a2 : (((m : Int) + 1) == 0) = false := by simpa using a1
  go_upto_region 3 with (go_at_call 16; refine HL.out.mono ?_; rintro e w' ⟨rfl, hw⟩; rw [hw]; clear hw)
  clear HL HLg a0 a1 a2
  by_cases h0 : (chkR k l).2 = 0
  case neg =>
    have HS := Lib.hid (HSB.out l A c m HM.out (by omega) HLc.out W HBW.out ((HRl.out W HBW.out).more HBW.out.size))
    generalize (chkR k l).2 = E at HS h0
    have q1 : (E != 0) = true := by simpa using h0
    have q2 : (E == 0) = false := by simpa using h0
    have q3 : decide (E = 0) = false := decide_eq_false h0
    clear h0
    go_upto_region 4 with (go_at_call 34; refine HS.out.mono ?_; rintro e X1 ⟨⟨As, ns, cs, rfl⟩, hX1⟩)
    have HBX1 := Lib.hid (HBW.out.trans (hX1.mono HBW.out.size))
    clear hX1
    go_wp2_with (go_at_call 17; refine (HW.out _ HBX1.out).mono ?_; rintro e w' ⟨rfl, hb⟩; have BW := Lib.hid hb; clear hb)
    go_ret
    exact ⟨rfl, BW.out⟩
  have HOk0 := Lib.hid h0
  have HOk := Lib.hid (chkR_ok.1 h0)
  have hm9 : m + 1 ≤ 100 := by have := chk_len h0; rw [HM.out] at this; exact this
  have HS := Lib.hid (HSC.out l A c m HM.out h0 HLc.out W HBW.out ((HRl.out W HBW.out).more HBW.out.size))
  clear h0 hmm
  go_upto_region 4 with (go_at_call 34; refine HS.out.mono ?_; rintro e X1 ⟨hX1, As, cs, rfl, hrs, hcs⟩)
  have HBX1 := Lib.hid (HBW.out.trans (hX1.mono HBW.out.size))
  have sX1 := HGW.out.below hX1 HGW.out.lt
  have gX10 : X1.cell? ⟨zb, 0, none⟩ = some (.slice R.A1 k.rules.length R.c1) := sX1.cell (j := 0) (by simp)
  have gX11 : X1.cell? ⟨zb, 1, none⟩ = some (.slice R.A2 k.ranks.length R.c2) := sX1.cell (j := 1) (by simp)
  have gX12 : X1.cell? ⟨zb, 2, none⟩ = some (.slice R.A3 k.insured.length R.c3) := sX1.cell (j := 2) (by simp)
  have lX1 := sX1.lt
  have HGX1 := Lib.hid sX1
  have HRs := Lib.hid hrs
  have HCs := Lib.hid hcs
  clear HS hX1 hrs sX1 gW0 gW1 gW2 lW
  have H1 := Lib.hid (HCh.out l A c m (selL l (m + 1)) As cs (m + 1) (-1) HM.out HOk0.out HLc.out (selL_len _ _) (by omega) (.inl ⟨rfl, rfl⟩) X1 HBX1.out ((HRl.out X1 HBX1.out).more HBX1.out.size) HRs.out)
  go_upto_region 7 with (go_at_call 36; refine H1.out.mono ?_; rintro e X2 ⟨rfl, hX2⟩)
  have HBX2 := Lib.hid (HBX1.out.trans (hX2.mono HBX1.out.size))
  have sX2 := HGX1.out.below hX2 HGX1.out.lt
  have gX20 : X2.cell? ⟨zb, 0, none⟩ = some (.slice R.A1 k.rules.length R.c1) := sX2.cell (j := 0) (by simp)
  have gX21 : X2.cell? ⟨zb, 1, none⟩ = some (.slice R.A2 k.ranks.length R.c2) := sX2.cell (j := 1) (by simp)
  have gX22 : X2.cell? ⟨zb, 2, none⟩ = some (.slice R.A3 k.insured.length R.c3) := sX2.cell (j := 2) (by simp)
  have lX2 := sX2.lt
  have HGX2 := Lib.hid sX2
  have HRs2 := Lib.hid ((HRs.out.below hX2).more hX2.size)
  clear HRs H1 hX2 sX2 gX10 gX11 gX12 lX1
  obtain ⟨bs, os, hAs, lbs, -⟩ := HRs2.out.2 (Nat.succ_pos m)
  subst hAs
  have HLbs := Lib.hid lbs
  have hcs1 : m ≤ cs := by omega
  have em1 : IntKind.i64.wrap ((m : Int) + 1 - 1) = (m : Int) := by rw [Int.add_sub_cancel]; exact IntWalk.i64_in _ (by omega)
  have em2 : IntKind.i64.wrap (m : Int) = (m : Int) := IntWalk.i64_in _ (by omega)
  have em3 : ¬ (m : Int) < 0 := by omega
  have em4 : ¬ (cs : Int) < (m : Int) := by omega
  have em5 : ¬ cs < m := by omega
  have HTk : Hid ((selL l (m + 1)).take m = selL l m) := by show _ = _; rw [selL_succ, List.take_left' (selL_len _ _)]
  have HC2 : Hid (∀ X, Below w.heap.size w X → Below X2.heap.size X2 X → Calls Try.prog 36 #[.agg #[.slice R.A1 k.rules.length R.c1, .slice R.A2 k.ranks.length R.c2, .slice R.A3 k.insured.length R.c3], .slice A (m + 1) c, .slice (some ⟨bs, os, none⟩) m cs] X fun e w' => e = .returned (.tuple #[.int .i64 (m : Int), .int .i64 0]) ∧ Below X.heap.size X w') := fun X hX hX2 => HCh.out l A c m (selL l m) (some ⟨bs, os, none⟩) cs m (m : Int) HM.out HOk0.out HLc.out (selL_len _ _) (by omega) (cut_chg l m) X hX ((HRl.out X hX).more hX.size) (by
    have h := reads_cut ((HRs2.out.below hX2).more hX2.size)
    rw [HTk.out] at h
    exact h)
  go_upto_region 9 with fail
  clear gX20 gX21 gX22 lX2
  refine wp_region_stepsY 13 (ord := [0, 1, 2, 3, 4, 5, 6, 7, 8, 9, 10, 11, 12]) (ds := [(0, 52), (1, 53), (2, 54), (3, 55), (4, 56), (5, 57), (6, 58), (7, 59), (8, 51), (9, 60), (10, 61), (11, 10), (12, 8)]) (I := ChC X2 R k A c m bs os cs) (by kernel_rfl) (by kernel_rfl) rfl ?iy (StepsY.cons (k := 0) (k' := 1) (o := ⟨some 52, _, _, _, _, _⟩) rfl rfl ?sy0 (StepsY.cons (k := 1) (k' := 2) (o := ⟨some 53, _, _, _, _, _⟩) rfl rfl ?sy1 (StepsY.cons (k := 2) (k' := 3) (o := ⟨some 54, _, _, _, _, _⟩) rfl rfl ?sy2 (StepsY.cons (k := 3) (k' := 4) (o := ⟨some 55, _, _, _, _, _⟩) rfl rfl ?sy3 (StepsY.cons (k := 4) (k' := 5) (o := ⟨some 56, _, _, _, _, _⟩) rfl rfl ?sy4 (StepsY.cons (k := 5) (k' := 6) (o := ⟨some 57, _, _, _, _, _⟩) rfl rfl ?sy5 (StepsY.cons (k := 6) (k' := 7) (o := ⟨some 58, _, _, _, _, _⟩) rfl rfl ?sy6 (StepsY.cons (k := 7) (k' := 8) (o := ⟨some 59, _, _, _, _, _⟩) rfl rfl ?sy7 (StepsY.cons (k := 8) (k' := 9) (o := ⟨some 51, _, _, _, _, _⟩) rfl rfl ?sy8 (StepsY.cons (k := 9) (k' := 10) (o := ⟨some 60, _, _, _, _, _⟩) rfl rfl ?sy9 (StepsY.cons (k := 10) (k' := 11) (o := ⟨some 61, _, _, _, _, _⟩) rfl rfl ?sy10 (StepsY.cons (k := 11) (k' := 12) (o := ⟨some 10, _, _, _, _, _⟩) rfl rfl ?sy11 (StepsY.cons (k := 12) (k' := 13) (o := ⟨some 8, _, _, _, _, _⟩) rfl rfl ?sy12 StepsY.nil))))))))))))) ?finy
  case iy => exact fun xs => ⟨(Below.refl _ _).drew, fun h => Bool.noConfusion h, fun h => Bool.noConfusion h, fun h => Bool.noConfusion h, fun h => Bool.noConfusion h, fun h => Bool.noConfusion h, fun h => Bool.noConfusion h, fun h => Bool.noConfusion h, fun h => Bool.noConfusion h, fun h => Bool.noConfusion h, fun h => Bool.noConfusion h, fun h => Bool.noConfusion h, fun h => Bool.noConfusion h, fun h => Bool.noConfusion h⟩
  case sy0 =>
    intro xs done y hI hd0 hup hdn K hK
    refine wpOp_go (o := ⟨some 52, _, _, _, _, _⟩) rfl rfl ?_
    simp only [putsF, List.foldl_cons, List.foldl_nil, Act.put, List.setIfInBounds_toArray, List.set_cons_zero, List.set_cons_succ] at hK ⊢
    have rG := HGX2.out.below hI.bl HGX2.out.lt
    have lG := rG.lt
    have g0 : y.cell? ⟨zb, 0, none⟩ = some (.slice R.A1 k.rules.length R.c1) := rG.cell (j := 0) (by simp)
    have g1 : y.cell? ⟨zb, 1, none⟩ = some (.slice R.A2 k.ranks.length R.c2) := rG.cell (j := 1) (by simp)
    have g2 : y.cell? ⟨zb, 2, none⟩ = some (.slice R.A3 k.insured.length R.c3) := rG.cell (j := 2) (by simp)
    go_wp2_with fail
    exact hK.out _ _ ⟨hI.bl, fun _ => rfl, hI.v1, hI.v2, hI.v3, hI.v4, hI.v5, hI.v6, hI.v7, hI.v8, hI.v9, hI.v10, hI.v11, hI.v12⟩
  case sy1 =>
    intro xs done y hI hd0 hup hdn K hK
    refine wpOp_go (o := ⟨some 53, _, _, _, _, _⟩) rfl rfl ?_
    simp only [putsF, List.foldl_cons, List.foldl_nil, Act.put, List.setIfInBounds_toArray, List.set_cons_zero, List.set_cons_succ] at hK ⊢
    go_wp2_with fail
    exact hK.out _ _ ⟨hI.bl, hI.v0, fun _ => rfl, hI.v2, hI.v3, hI.v4, hI.v5, hI.v6, hI.v7, hI.v8, hI.v9, hI.v10, hI.v11, hI.v12⟩
  case sy2 =>
    intro xs done y hI hd0 hup hdn K hK
    refine wpOp_go (o := ⟨some 54, _, _, _, _, _⟩) rfl rfl ?_
    simp only [putsF, List.foldl_cons, List.foldl_nil, Act.put, List.setIfInBounds_toArray, List.set_cons_zero, List.set_cons_succ] at hK ⊢
    go_wp2_with fail
    exact hK.out _ _ ⟨hI.bl, hI.v0, hI.v1, fun _ => rfl, hI.v3, hI.v4, hI.v5, hI.v6, hI.v7, hI.v8, hI.v9, hI.v10, hI.v11, hI.v12⟩
  case sy3 =>
    intro xs done y hI hd0 hup hdn K hK
    refine wpOp_go (o := ⟨some 55, _, _, _, _, _⟩) rfl rfl ?_
    simp only [putsF, List.foldl_cons, List.foldl_nil, Act.put, List.setIfInBounds_toArray, List.set_cons_zero, List.set_cons_succ] at hK ⊢
    go_wp2_with fail
    exact hK.out _ _ ⟨hI.bl, hI.v0, hI.v1, hI.v2, fun _ => rfl, hI.v4, hI.v5, hI.v6, hI.v7, hI.v8, hI.v9, hI.v10, hI.v11, hI.v12⟩
  case sy4 =>
    intro xs done y hI hd0 hup hdn K hK
    refine wpOp_go (o := ⟨some 56, _, _, _, _, _⟩) rfl rfl ?_
    have e3 := hI.v3 (hdn 3 (by kernel_rfl))
    simp only [putsF, List.foldl_cons, List.foldl_nil, Act.put, List.setIfInBounds_toArray, List.set_cons_zero, List.set_cons_succ] at hK ⊢
    simp only [e3] at hK ⊢
    go_wp2_with fail
    exact hK.out _ _ ⟨hI.bl, hI.v0, hI.v1, hI.v2, hI.v3, fun _ => rfl, hI.v5, hI.v6, hI.v7, hI.v8, hI.v9, hI.v10, hI.v11, hI.v12⟩
  case sy5 =>
    intro xs done y hI hd0 hup hdn K hK
    refine wpOp_go (o := ⟨some 57, _, _, _, _, _⟩) rfl rfl ?_
    have e4 := hI.v4 (hdn 4 (by kernel_rfl))
    simp only [putsF, List.foldl_cons, List.foldl_nil, Act.put, List.setIfInBounds_toArray, List.set_cons_zero, List.set_cons_succ] at hK ⊢
    simp only [e4] at hK ⊢
    go_wp2_with fail
    exact hK.out _ _ ⟨hI.bl, hI.v0, hI.v1, hI.v2, hI.v3, hI.v4, fun _ => rfl, hI.v6, hI.v7, hI.v8, hI.v9, hI.v10, hI.v11, hI.v12⟩
  case sy6 =>
    intro xs done y hI hd0 hup hdn K hK
    refine wpOp_go (o := ⟨some 58, _, _, _, _, _⟩) rfl rfl ?_
    have e2 := hI.v2 (hdn 2 (by kernel_rfl))
    have e5 := hI.v5 (hdn 5 (by kernel_rfl))
    simp only [putsF, List.foldl_cons, List.foldl_nil, Act.put, List.setIfInBounds_toArray, List.set_cons_zero, List.set_cons_succ] at hK ⊢
    simp only [e2, e5] at hK ⊢
    go_wp2_with fail
    exact hK.out _ _ ⟨hI.bl, hI.v0, hI.v1, hI.v2, hI.v3, hI.v4, hI.v5, fun _ => rfl, hI.v7, hI.v8, hI.v9, hI.v10, hI.v11, hI.v12⟩
  case sy7 =>
    intro xs done y hI hd0 hup hdn K hK
    refine wpOp_go (o := ⟨some 59, _, _, _, _, _⟩) rfl rfl ?_
    have e0 := hI.v0 (hdn 0 (by kernel_rfl))
    have e1 := hI.v1 (hdn 1 (by kernel_rfl))
    have e6 := hI.v6 (hdn 6 (by kernel_rfl))
    simp only [putsF, List.foldl_cons, List.foldl_nil, Act.put, List.setIfInBounds_toArray, List.set_cons_zero, List.set_cons_succ] at hK ⊢
    simp only [e0, e1, e6] at hK ⊢
    have hq := HC2.out y (HBX2.out.trans (hI.bl.mono HBX2.out.size)) hI.bl
    go_wp2_with (go_at_call 36; with_reducible refine hq.mono ?_; rintro e z ⟨rfl, hb4⟩)
    exact hK.out _ _ ⟨(hI.bl.trans (hb4.mono hI.bl.size)), hI.v0, hI.v1, hI.v2, hI.v3, hI.v4, hI.v5, hI.v6, fun _ => rfl, hI.v8, hI.v9, hI.v10, hI.v11, hI.v12⟩
  case sy8 =>
    intro xs done y hI hd0 hup hdn K hK
    refine wpOp_go (o := ⟨some 51, _, _, _, _, _⟩) rfl rfl ?_
    have e7 := hI.v7 (hdn 7 (by kernel_rfl))
    simp only [putsF, List.foldl_cons, List.foldl_nil, Act.put, List.setIfInBounds_toArray, List.set_cons_zero, List.set_cons_succ] at hK ⊢
    simp only [e7] at hK ⊢
    go_wp2_with fail
    exact hK.out _ _ ⟨hI.bl, hI.v0, hI.v1, hI.v2, hI.v3, hI.v4, hI.v5, hI.v6, hI.v7, fun _ => rfl, hI.v9, hI.v10, hI.v11, hI.v12⟩
  case sy9 =>
    intro xs done y hI hd0 hup hdn K hK
    refine wpOp_go (o := ⟨some 60, _, _, _, _, _⟩) rfl rfl ?_
    have e8 := hI.v8 (hdn 8 (by kernel_rfl))
    simp only [putsF, List.foldl_cons, List.foldl_nil, Act.put, List.setIfInBounds_toArray, List.set_cons_zero, List.set_cons_succ] at hK ⊢
    simp only [e8] at hK ⊢
    go_wp2_with fail
    exact hK.out _ _ ⟨hI.bl, hI.v0, hI.v1, hI.v2, hI.v3, hI.v4, hI.v5, hI.v6, hI.v7, hI.v8, fun _ => rfl, hI.v10, hI.v11, hI.v12⟩
  case sy10 =>
    intro xs done y hI hd0 hup hdn K hK
    refine wpOp_go (o := ⟨some 61, _, _, _, _, _⟩) rfl rfl ?_
    have e8 := hI.v8 (hdn 8 (by kernel_rfl))
    simp only [putsF, List.foldl_cons, List.foldl_nil, Act.put, List.setIfInBounds_toArray, List.set_cons_zero, List.set_cons_succ] at hK ⊢
    simp only [e8] at hK ⊢
    go_wp2_with fail
    exact hK.out _ _ ⟨hI.bl, hI.v0, hI.v1, hI.v2, hI.v3, hI.v4, hI.v5, hI.v6, hI.v7, hI.v8, hI.v9, fun _ => rfl, hI.v11, hI.v12⟩
  case sy11 =>
    intro xs done y hI hd0 hup hdn K hK
    refine wpOp_go (o := ⟨some 10, _, _, _, _, _⟩) rfl rfl ?_
    have e9 := hI.v9 (hdn 9 (by kernel_rfl))
    simp only [putsF, List.foldl_cons, List.foldl_nil, Act.put, List.setIfInBounds_toArray, List.set_cons_zero, List.set_cons_succ] at hK ⊢
    simp only [e9] at hK ⊢
    go_wp2_with fail
    exact hK.out _ _ ⟨hI.bl, hI.v0, hI.v1, hI.v2, hI.v3, hI.v4, hI.v5, hI.v6, hI.v7, hI.v8, hI.v9, hI.v10, fun _ => rfl, hI.v12⟩
  case sy12 =>
    intro xs done y hI hd0 hup hdn K hK
    refine wpOp_go (o := ⟨some 8, _, _, _, _, _⟩) rfl rfl ?_
    have e10 := hI.v10 (hdn 10 (by kernel_rfl))
    simp only [putsF, List.foldl_cons, List.foldl_nil, Act.put, List.setIfInBounds_toArray, List.set_cons_zero, List.set_cons_succ] at hK ⊢
    simp only [e10] at hK ⊢
    go_wp2_with fail
    exact hK.out _ _ ⟨hI.bl, hI.v0, hI.v1, hI.v2, hI.v3, hI.v4, hI.v5, hI.v6, hI.v7, hI.v8, hI.v9, hI.v10, hI.v11, fun _ => rfl⟩
  case finy =>
    intro xs done y hI hdn
    have HBy := Lib.hid (HBX2.out.trans (hI.bl.mono HBX2.out.size))
    have HRs3 := Lib.hid ((HRs2.out.below hI.bl).more hI.bl.size)
    have HGy := Lib.hid (HGX2.out.below hI.bl HGX2.out.lt)
    have HLby : Hid (bs < y.heap.size) := Nat.lt_of_lt_of_le HLbs.out hI.bl.size
    have e0 := hI.v0 (hdn 0 (by decide))
    have e1 := hI.v1 (hdn 1 (by decide))
    have e2 := hI.v2 (hdn 2 (by decide))
    have e3 := hI.v3 (hdn 3 (by decide))
    have e4 := hI.v4 (hdn 4 (by decide))
    have e5 := hI.v5 (hdn 5 (by decide))
    have e6 := hI.v6 (hdn 6 (by decide))
    have e7 := hI.v7 (hdn 7 (by decide))
    have e8 := hI.v8 (hdn 8 (by decide))
    have e9 := hI.v9 (hdn 9 (by decide))
    have e10 := hI.v10 (hdn 10 (by decide))
    have e11 := hI.v11 (hdn 11 (by decide))
    have e12 := hI.v12 (hdn 12 (by decide))
    simp only [putsF, List.foldl_cons, List.foldl_nil, Act.put, List.setIfInBounds_toArray, List.set_cons_zero, List.set_cons_succ]
    simp only [e0, e1, e2, e3, e4, e5, e6, e7, e8, e9, e10, e11, e12]
    clear e0 e1 e2 e3 e4 e5 e6 e7 e8 e9 e10 e11 e12 hI hdn em4 em5 HC2
    have hru := HRl.out y HBy.out
    have m1 : 0 + (m + 1) ≤ maxLen := by unfold maxLen; omega
    have m2 : (0 + (m + 1)) * 40 ≤ 140737488355328 := by omega
    have hones := ents_ones l
    go_upto_region 13 with (at_builtin; refine wpList_app _ rfl _ _ 26 rfl y.heap.size 54 i0 (.agg #[.int .i64 0, .int .i64 0, .int .i64 0, .int .i64 0, .int .i64 0]) 5 40 Try.underlying26 hi hz0 hz1 hz2 rfl (by decide) (.slice none 0 0) 0 [] rfl (owns_nil _ _ _ _) w.heap.size A (m + 1) c (entCells l) rfl hru hones m1 m2 (Nat.le_refl _) ?_; intro v' Y hown' hbY)
    have hown2 : Y.ownsRow y.heap.size 54 5 v' (m + 1) (entCells l) := by simpa using hown'
    obtain ⟨g, cg, rfl, rowY, hgl, hgc⟩ := own_at hown2 (Nat.succ_pos m)
    have HBY := Lib.hid (HBy.out.trans (hbY.mono HBy.out.size))
    have HYb := Lib.hid hbY
    have HRw := Lib.hid rowY
    have HGl := Lib.hid hgl
    clear hown' hown2 hru hones m1 m2 hgl hbY
    go_upto_block 0 with fail
    obtain ⟨l2, hl2⟩ : ∃ l2, l2 = l0 ++ [bumpE field x] := ⟨_, rfl⟩
    have HL2 := Lib.hid hl2
    clear hl2
    go_cut [78] (fun s wx => s = .int .i64 field ∧ Row wx g 54 (entCells l2) ∧ Below y.heap.size y wx)
    case first =>
      have lY := rowY.lt
      have hsm := HOk.out
      rw [HX.out, logOk_snoc] at hsm
      obtain ⟨s1, s2, s3, s4, s5⟩ := can_small hsm.1.book hsm.1.len hsm.2.1
      clear hsm
      rw [HX.out] at rowY
      have rl : ∀ j, j < 5 → Y.cell? ⟨g, m * 5 + j, none⟩ = (entL x)[j]? := fun j hj => by rw [← HM0.out]; exact row_last rowY hj
      have x0 : Y.cell? ⟨g, m * 5, none⟩ = some (.int .i64 x.day) := rl 0 (by decide)
      have x1 : Y.cell? ⟨g, m * 5 + 1, none⟩ = some (.int .i64 x.kind) := rl 1 (by decide)
      have x2 : Y.cell? ⟨g, m * 5 + 2, none⟩ = some (.int .i64 x.a) := rl 2 (by decide)
      have x3 : Y.cell? ⟨g, m * 5 + 3, none⟩ = some (.int .i64 x.b) := rl 3 (by decide)
      have x4 : Y.cell? ⟨g, m * 5 + 4, none⟩ = some (.int .i64 x.c) := rl 4 (by decide)
      have z0 : Y.frozen? ⟨g, m * 5, none⟩ = false := rowY.frozen _
      have z1 : Y.frozen? ⟨g, m * 5 + 1, none⟩ = false := rowY.frozen _
      have z2 : Y.frozen? ⟨g, m * 5 + 2, none⟩ = false := rowY.frozen _
      have z3 : Y.frozen? ⟨g, m * 5 + 3, none⟩ = false := rowY.frozen _
      have z4 : Y.frozen? ⟨g, m * 5 + 4, none⟩ = false := rowY.frozen _
      have w0 : IntKind.i64.wrap (x.day + 1) = x.day + 1 := IntWalk.i64_in _ (by omega)
      have w1 : IntKind.i64.wrap (x.kind + 1) = x.kind + 1 := IntWalk.i64_in _ (by omega)
      have w2 : IntKind.i64.wrap (x.a + 1) = x.a + 1 := IntWalk.i64_in _ (by omega)
      have w3 : IntKind.i64.wrap (x.b + 1) = x.b + 1 := IntWalk.i64_in _ (by omega)
      have w4 : IntKind.i64.wrap (x.c + 1) = x.c + 1 := IntWalk.i64_in _ (by omega)
      have HRb : Hid (∀ (j : Nat) (u : Value), j < 5 → entL (bumpE field x) = (entL x).set j u → Row (Y.setCell ⟨g, m * 5 + j, none⟩ u) g 54 (entCells l2)) := fun j u h1 h2 => by
        rw [HL2.out, ← HM0.out]
        exact row_bump rowY h1 h2
      have HBs : Hid (∀ (j : Nat) (u : Value), Below y.heap.size y (Y.setCell ⟨g, j, none⟩ u)) := fun j u => below_set HYb.out HGl.out u
      have HEb : Hid ((field = 0 → entL (bumpE field x) = (entL x).set 0 (.int .i64 (x.day + 1))) ∧ (field = 1 → entL (bumpE field x) = (entL x).set 1 (.int .i64 (x.kind + 1))) ∧ (field = 2 → entL (bumpE field x) = (entL x).set 2 (.int .i64 (x.a + 1))) ∧ (field = 3 → entL (bumpE field x) = (entL x).set 3 (.int .i64 (x.b + 1))) ∧ (field = 4 → entL (bumpE field x) = (entL x).set 4 (.int .i64 (x.c + 1)))) := by
        refine ⟨?_, ?_, ?_, ?_, ?_⟩ <;> intro h <;> subst h <;> rfl
      clear rl rowY s1 s2 s3 s4 s5
      by_cases c0 : field = 0
      · have hb := HEb.out.1 c0
        have HB1 := Lib.hid hb
        subst c0
        clear hb
        go_wp2_with fail
        go_meet
        exact ⟨rfl, HRb.out 0 _ (by decide) HB1.out, HBs.out _ _⟩
      have n0 : (field == 0) = false := by simpa using c0
      have p0 : decide (field = 0) = false := decide_eq_false c0
      by_cases c1 : field = 1
      · have hb := HEb.out.2.1 c1
        have HB1 := Lib.hid hb
        subst c1
        clear hb c0 n0 p0
        go_wp2_with fail
        go_meet
        exact ⟨rfl, HRb.out 1 _ (by decide) HB1.out, HBs.out _ _⟩
      have n1 : (field == 1) = false := by simpa using c1
      have p1 : decide (field = 1) = false := decide_eq_false c1
      by_cases c2 : field = 2
      · have hb := HEb.out.2.2.1 c2
        have HB1 := Lib.hid hb
        subst c2
        clear hb c0 n0 p0 c1 n1 p1
        go_wp2_with fail
        go_meet
        exact ⟨rfl, HRb.out 2 _ (by decide) HB1.out, HBs.out _ _⟩
      have n2 : (field == 2) = false := by simpa using c2
      have p2 : decide (field = 2) = false := decide_eq_false c2
      by_cases c3 : field = 3
      · have hb := HEb.out.2.2.2.1 c3
        have HB1 := Lib.hid hb
        subst c3
        clear hb c0 n0 p0 c1 n1 p1 c2 n2 p2
        go_wp2_with fail
        go_meet
        exact ⟨rfl, HRb.out 3 _ (by decide) HB1.out, HBs.out _ _⟩
      have n3 : (field == 3) = false := by simpa using c3
      have p3 : decide (field = 3) = false := decide_eq_false c3
      by_cases c4 : field = 4
      · have hb := HEb.out.2.2.2.2 c4
        have HB1 := Lib.hid hb
        subst c4
        clear hb c0 n0 p0 c1 n1 p1 c2 n2 p2 c3 n3 p3
        go_wp2_with fail
        go_meet
        exact ⟨rfl, HRb.out 4 _ (by decide) HB1.out, HBs.out _ _⟩
      have n4 : (field == 4) = false := by simpa using c4
      have p4 : decide (field = 4) = false := decide_eq_false c4
      clear c0 c1 c2 c3 c4
      go_wp2_with (go_at_call 17; refine (HW.out _ HBY.out).mono ?_; rintro e w' ⟨rfl, hb⟩; have BW := Lib.hid hb; clear hb)
      go_ret
      exact ⟨rfl, BW.out⟩
    case rest =>
      obtain ⟨rfl, rowc, hbc⟩ := hcut
      obtain ⟨U, rfl⟩ : ∃ x : World, x = wc := ⟨_, rfl⟩
      have HBU := Lib.hid (HBy.out.trans (hbc.mono HBy.out.size))
      have HGU := Lib.hid (HGy.out.below hbc HGy.out.lt)
      have HRs4 := Lib.hid ((HRs3.out.below hbc).more hbc.size)
      have hl2n : l2.length = m + 1 := by rw [HL2.out, List.length_append, HM0.out]; rfl
      have HLn2 := Lib.hid hl2n
      have HRo := Lib.hid (rowc.reads (B := U.heap.size) (size := 5) (n := m + 1) (by rw [entCells_len, hl2n]) rowc.lt)
      have sG := HGU.out
      have g0 : U.cell? ⟨zb, 0, none⟩ = some (.slice R.A1 k.rules.length R.c1) := sG.cell (j := 0) (by simp)
      have g1 : U.cell? ⟨zb, 1, none⟩ = some (.slice R.A2 k.ranks.length R.c2) := sG.cell (j := 1) (by simp)
      have g2 : U.cell? ⟨zb, 2, none⟩ = some (.slice R.A3 k.insured.length R.c3) := sG.cell (j := 2) (by simp)
      have lG := sG.lt
      clear sG rowc hbc hl2n rowY
      by_cases h2 : (chkR k l2).2 = 0
      case neg =>
        have HS := Lib.hid (HSB.out l2 (some ⟨g, 0, none⟩) cg m HLn2.out (by omega) hgc U HBU.out HRo.out)
        generalize (chkR k l2).2 = E2 at HS h2
        have q1 : (E2 != 0) = true := by simpa using h2
        have q2 : (E2 == 0) = false := by simpa using h2
        have q3 : decide (E2 = 0) = false := decide_eq_false h2
        clear h2
        go_upto_region 27 with (go_at_call 34; refine HS.out.mono ?_; rintro e V ⟨⟨Az, nz, cz, rfl⟩, hV⟩)
        have HBV := Lib.hid (HBU.out.trans (hV.mono HBU.out.size))
        clear hV
        go_wp2_with (go_at_call 17; refine (HW.out _ HBV.out).mono ?_; rintro e w' ⟨rfl, hb⟩; have BW := Lib.hid hb; clear hb)
        go_ret
        exact ⟨rfl, BW.out⟩
      have HOk2 := Lib.hid h2
      have HLo2 := Lib.hid (chkR_ok.1 h2)
      have HS := Lib.hid (HSC.out l2 (some ⟨g, 0, none⟩) cg m HLn2.out h2 hgc U HBU.out HRo.out)
      clear h2
      go_upto_region 27 with (go_at_call 34; refine HS.out.mono ?_; rintro e V ⟨hV, Az, cz, rfl, hrz, hcz⟩)
      have HBV := Lib.hid (HBU.out.trans (hV.mono HBU.out.size))
      have HGV := Lib.hid (HGU.out.below hV HGU.out.lt)
      have HRs5 := Lib.hid ((HRs4.out.below hV).more hV.size)
      have HRo2 := Lib.hid ((HRo.out.below hV).more hV.size)
      have HRz := Lib.hid hrz
      have HCz0 := Lib.hid hcz
      clear g0 g1 g2 lG
      have sG := HGV.out
      have g0 : V.cell? ⟨zb, 0, none⟩ = some (.slice R.A1 k.rules.length R.c1) := sG.cell (j := 0) (by simp)
      have g1 : V.cell? ⟨zb, 1, none⟩ = some (.slice R.A2 k.ranks.length R.c2) := sG.cell (j := 1) (by simp)
      have g2 : V.cell? ⟨zb, 2, none⟩ = some (.slice R.A3 k.insured.length R.c3) := sG.cell (j := 2) (by simp)
      have lG := sG.lt
      clear sG hV hrz HS
      have hbump : ChgIs (selL l2 (m + 1)) (selL l (m + 1)) (m : Int) ∧ (selL l2 (m + 1)).take m = (selL l (m + 1)).take m ∧ selN l2 (m + 1) ≠ selN l (m + 1) := by
        have q := bump_chg (k := k) (l := l0) (x := x) (f := field) (by rw [← HX.out]; exact HOk.out) (by rw [← HL2.out]; exact HLo2.out)
        rw [← HX.out, ← HL2.out, HM0.out] at q
        exact q
      have HTk2 := Lib.hid hbump.2.1
      have HNe := Lib.hid hbump.2.2
      have HC3 := Lib.hid (HCh.out l2 (some ⟨g, 0, none⟩) cg m (selL l (m + 1)) (some ⟨bs, os, none⟩) cs (m + 1) (m : Int) HLn2.out HOk2.out hgc (selL_len _ _) (by omega) hbump.1 V HBV.out HRo2.out HRs5.out)
      clear hbump
      go_upto_region 30 with (go_at_call 36; refine HC3.out.mono ?_; rintro e Y3 ⟨rfl, hY3⟩)
      have HBY3 := Lib.hid (HBV.out.trans (hY3.mono HBV.out.size))
      have HRs6 := Lib.hid ((HRs5.out.below hY3).more hY3.size)
      have HRz6 := Lib.hid ((HRz.out.below hY3).more hY3.size)
      clear g0 g1 g2 lG hY3 HC3
      obtain ⟨bz, oz, hAz, lbz, hz⟩ := HRz6.out.2 (Nat.succ_pos m)
      subst hAz
      obtain ⟨bs2, os2, hAs2, lbs2, hs2⟩ := HRs6.out.2 (Nat.succ_pos m)
      injection hAs2 with hAs2
      injection hAs2 with hAs3 hAs4
      subst hAs3
      subst hAs4
      obtain ⟨sz, hsz⟩ : ∃ s, s = selN l2 (m + 1) := ⟨_, rfl⟩
      obtain ⟨ss, hss⟩ : ∃ s, s = selN l (m + 1) := ⟨_, rfl⟩
      have hz1 : Y3.cell? ⟨bz, oz + m, none⟩ = some (.int .i64 sz) := hz m _ (by rw [List.getElem?_map, selL_at (Nat.lt_succ_self m), hsz]; rfl)
      have hs1 : Y3.cell? ⟨bs, os + m, none⟩ = some (.int .i64 ss) := hs2 m _ (by rw [List.getElem?_map, selL_at (Nat.lt_succ_self m), hss]; rfl)
      have HCz : Hid (∀ y, Below Y3.heap.size Y3 y → y.cell? ⟨bz, oz + m, none⟩ = some (.int .i64 sz)) := fun y hy => (hy.cell (p := ⟨bz, oz + m, none⟩) lbz).trans hz1
      have HCs2 : Hid (∀ y, Below Y3.heap.size Y3 y → y.cell? ⟨bs, os + m, none⟩ = some (.int .i64 ss)) := fun y hy => (hy.cell (p := ⟨bs, os + m, none⟩) lbs2).trans hs1
      have LT : Hid (bz < Y3.heap.size ∧ bs < Y3.heap.size) := ⟨lbz, lbs2⟩
      have hne : ¬ sz = ss := by rw [hsz, hss]; exact HNe.out
      have HNe2 := Lib.hid hne
      have HSq : Hid (∀ y, Below Y3.heap.size Y3 y → Calls Try.prog 22 #[.slice (some ⟨bz, oz, none⟩) m cz, .slice (some ⟨bs, os, none⟩) m cs] y fun e w' => e = .returned (.bool true) ∧ Below y.heap.size y w') := fun y hy => HSm.out ((selL l (m + 1)).take m) m _ _ cz cs y (by rw [List.length_take, selL_len]; omega) (by omega) (by
          rw [← HTk2.out]
          exact reads_cut ((HRz6.out.below hy).more hy.size)) (reads_cut ((HRs6.out.below hy).more hy.size))
      have HWq : Hid (∀ y, Below Y3.heap.size Y3 y → Calls Try.prog 17 #[] y fun e w' => e = .returned (.bool true) ∧ Below Y3.heap.size Y3 w') := fun y hy => (works_any y).mono fun e w' h => ⟨h.1, hy.trans (h.2.mono hy.size)⟩
      have ez4 : ¬ (cz : Int) < (m : Int) := by have := HCz0.out; omega
      have ez5 : ¬ cz < m := by have := HCz0.out; omega
      have ey4 : ¬ (cs : Int) < (m : Int) := by omega
      have ey5 : ¬ cs < m := by omega
      have n1 : decide (sz = ss) = false := decide_eq_false hne
      have n2 : (sz == ss) = false := by simpa using hne
      have n3 : (sz != ss) = true := by simpa using hne
      clear hz hs2 hz1 hs1 hsz hss hne lbz lbs2 hcz
    
      refine wp_region_stepsY 48 (ord := [0, 1, 2, 3, 4, 5, 6, 7, 8, 9, 10, 11, 12, 13, 14, 15, 16, 17, 18, 19, 20, 21, 22, 23, 24, 25, 26, 27, 28, 29, 30, 31, 32, 33, 34, 35, 36, 37, 38, 39, 40, 41, 42, 43, 44, 45, 46, 47]) (ds := [(0, 141), (1, 142), (2, 143), (3, 144), (4, 145), (5, 146), (6, 147), (7, 148), (8, 149), (9, 150), (10, 151), (11, 152), (12, 153), (13, 154), (14, 155), (15, 156), (16, 157), (17, 158), (18, 159), (19, 160), (20, 161), (21, 162), (22, 163), (23, 164), (24, 165), (25, 166), (26, 167), (27, 168), (28, 169), (29, 170), (30, 171), (31, 172), (32, 173), (33, 174), (34, 175), (35, 176), (36, 177), (37, 178), (38, 179), (39, 180), (40, 181), (41, 182), (42, 183), (43, 184), (44, 185), (45, 186), (46, 187), (47, 6)]) (I := ChE Y3 A c m bs os cs bz oz cz sz ss) (by kernel_rfl) (by kernel_rfl) rfl ?ix (StepsY.cons (k := 0) (k' := 1) (o := ⟨some 141, _, _, _, _, _⟩) rfl rfl ?sx0 (StepsY.cons (k := 1) (k' := 2) (o := ⟨some 142, _, _, _, _, _⟩) rfl rfl ?sx1 (StepsY.cons (k := 2) (k' := 3) (o := ⟨some 143, _, _, _, _, _⟩) rfl rfl ?sx2 (StepsY.cons (k := 3) (k' := 4) (o := ⟨some 144, _, _, _, _, _⟩) rfl rfl ?sx3 (StepsY.cons (k := 4) (k' := 5) (o := ⟨some 145, _, _, _, _, _⟩) rfl rfl ?sx4 (StepsY.cons (k := 5) (k' := 6) (o := ⟨some 146, _, _, _, _, _⟩) rfl rfl ?sx5 (StepsY.cons (k := 6) (k' := 7) (o := ⟨some 147, _, _, _, _, _⟩) rfl rfl ?sx6 (StepsY.cons (k := 7) (k' := 8) (o := ⟨some 148, _, _, _, _, _⟩) rfl rfl ?sx7 (StepsY.cons (k := 8) (k' := 9) (o := ⟨some 149, _, _, _, _, _⟩) rfl rfl ?sx8 (StepsY.cons (k := 9) (k' := 10) (o := ⟨some 150, _, _, _, _, _⟩) rfl rfl ?sx9 (StepsY.cons (k := 10) (k' := 11) (o := ⟨some 151, _, _, _, _, _⟩) rfl rfl ?sx10 (StepsY.cons (k := 11) (k' := 12) (o := ⟨some 152, _, _, _, _, _⟩) rfl rfl ?sx11 (StepsY.cons (k := 12) (k' := 13) (o := ⟨some 153, _, _, _, _, _⟩) rfl rfl ?sx12 (StepsY.cons (k := 13) (k' := 14) (o := ⟨some 154, _, _, _, _, _⟩) rfl rfl ?sx13 (StepsY.cons (k := 14) (k' := 15) (o := ⟨some 155, _, _, _, _, _⟩) rfl rfl ?sx14 (StepsY.cons (k := 15) (k' := 16) (o := ⟨some 156, _, _, _, _, _⟩) rfl rfl ?sx15 (StepsY.cons (k := 16) (k' := 17) (o := ⟨some 157, _, _, _, _, _⟩) rfl rfl ?sx16 (StepsY.cons (k := 17) (k' := 18) (o := ⟨some 158, _, _, _, _, _⟩) rfl rfl ?sx17 (StepsY.cons (k := 18) (k' := 19) (o := ⟨some 159, _, _, _, _, _⟩) rfl rfl ?sx18 (StepsY.cons (k := 19) (k' := 20) (o := ⟨some 160, _, _, _, _, _⟩) rfl rfl ?sx19 (StepsY.cons (k := 20) (k' := 21) (o := ⟨some 161, _, _, _, _, _⟩) rfl rfl ?sx20 (StepsY.cons (k := 21) (k' := 22) (o := ⟨some 162, _, _, _, _, _⟩) rfl rfl ?sx21 (StepsY.cons (k := 22) (k' := 23) (o := ⟨some 163, _, _, _, _, _⟩) rfl rfl ?sx22 (StepsY.cons (k := 23) (k' := 24) (o := ⟨some 164, _, _, _, _, _⟩) rfl rfl ?sx23 (StepsY.cons (k := 24) (k' := 25) (o := ⟨some 165, _, _, _, _, _⟩) rfl rfl ?sx24 (StepsY.cons (k := 25) (k' := 26) (o := ⟨some 166, _, _, _, _, _⟩) rfl rfl ?sx25 (StepsY.cons (k := 26) (k' := 27) (o := ⟨some 167, _, _, _, _, _⟩) rfl rfl ?sx26 (StepsY.cons (k := 27) (k' := 28) (o := ⟨some 168, _, _, _, _, _⟩) rfl rfl ?sx27 (StepsY.cons (k := 28) (k' := 29) (o := ⟨some 169, _, _, _, _, _⟩) rfl rfl ?sx28 (StepsY.cons (k := 29) (k' := 30) (o := ⟨some 170, _, _, _, _, _⟩) rfl rfl ?sx29 (StepsY.cons (k := 30) (k' := 31) (o := ⟨some 171, _, _, _, _, _⟩) rfl rfl ?sx30 (StepsY.cons (k := 31) (k' := 32) (o := ⟨some 172, _, _, _, _, _⟩) rfl rfl ?sx31 (StepsY.cons (k := 32) (k' := 33) (o := ⟨some 173, _, _, _, _, _⟩) rfl rfl ?sx32 (StepsY.cons (k := 33) (k' := 34) (o := ⟨some 174, _, _, _, _, _⟩) rfl rfl ?sx33 (StepsY.cons (k := 34) (k' := 35) (o := ⟨some 175, _, _, _, _, _⟩) rfl rfl ?sx34 (StepsY.cons (k := 35) (k' := 36) (o := ⟨some 176, _, _, _, _, _⟩) rfl rfl ?sx35 (StepsY.cons (k := 36) (k' := 37) (o := ⟨some 177, _, _, _, _, _⟩) rfl rfl ?sx36 (StepsY.cons (k := 37) (k' := 38) (o := ⟨some 178, _, _, _, _, _⟩) rfl rfl ?sx37 (StepsY.cons (k := 38) (k' := 39) (o := ⟨some 179, _, _, _, _, _⟩) rfl rfl ?sx38 (StepsY.cons (k := 39) (k' := 40) (o := ⟨some 180, _, _, _, _, _⟩) rfl rfl ?sx39 (StepsY.cons (k := 40) (k' := 41) (o := ⟨some 181, _, _, _, _, _⟩) rfl rfl ?sx40 (StepsY.cons (k := 41) (k' := 42) (o := ⟨some 182, _, _, _, _, _⟩) rfl rfl ?sx41 (StepsY.cons (k := 42) (k' := 43) (o := ⟨some 183, _, _, _, _, _⟩) rfl rfl ?sx42 (StepsY.cons (k := 43) (k' := 44) (o := ⟨some 184, _, _, _, _, _⟩) rfl rfl ?sx43 (StepsY.cons (k := 44) (k' := 45) (o := ⟨some 185, _, _, _, _, _⟩) rfl rfl ?sx44 (StepsY.cons (k := 45) (k' := 46) (o := ⟨some 186, _, _, _, _, _⟩) rfl rfl ?sx45 (StepsY.cons (k := 46) (k' := 47) (o := ⟨some 187, _, _, _, _, _⟩) rfl rfl ?sx46 (StepsY.cons (k := 47) (k' := 48) (o := ⟨some 6, _, _, _, _, _⟩) rfl rfl ?sx47 StepsY.nil)))))))))))))))))))))))))))))))))))))))))))))))) ?finx
      case ix => exact fun xs => ⟨(Below.refl _ _).drew, fun h => Bool.noConfusion h, fun h => Bool.noConfusion h, fun h => Bool.noConfusion h, fun h => Bool.noConfusion h, fun h => Bool.noConfusion h, fun h => Bool.noConfusion h, fun h => Bool.noConfusion h, fun h => Bool.noConfusion h, fun h => Bool.noConfusion h, fun h => Bool.noConfusion h, fun h => Bool.noConfusion h, fun h => Bool.noConfusion h, fun h => Bool.noConfusion h, fun h => Bool.noConfusion h, fun h => Bool.noConfusion h, fun h => Bool.noConfusion h, fun h => Bool.noConfusion h, fun h => Bool.noConfusion h, fun h => Bool.noConfusion h, fun h => Bool.noConfusion h, fun h => Bool.noConfusion h, fun h => Bool.noConfusion h, fun h => Bool.noConfusion h, fun h => Bool.noConfusion h, fun h => Bool.noConfusion h, fun h => Bool.noConfusion h, fun h => Bool.noConfusion h, fun h => Bool.noConfusion h, fun h => Bool.noConfusion h, fun h => Bool.noConfusion h, fun h => Bool.noConfusion h, fun h => Bool.noConfusion h, fun h => Bool.noConfusion h, fun h => Bool.noConfusion h, fun h => Bool.noConfusion h, fun h => Bool.noConfusion h, fun h => Bool.noConfusion h, fun h => Bool.noConfusion h, fun h => Bool.noConfusion h, fun h => Bool.noConfusion h, fun h => Bool.noConfusion h, fun h => Bool.noConfusion h, fun h => Bool.noConfusion h, fun h => Bool.noConfusion h, fun h => Bool.noConfusion h, fun h => Bool.noConfusion h, fun h => Bool.noConfusion h, fun h => Bool.noConfusion h⟩
      case sx0 =>
        intro xs done y hI hd0 hup hdn K hK
        refine wpOp_go (o := ⟨some 141, _, _, _, _, _⟩) rfl rfl ?_
        simp only [putsF, List.foldl_cons, List.foldl_nil, Act.put, List.setIfInBounds_toArray, List.set_cons_zero, List.set_cons_succ] at hK ⊢
        go_wp2_with fail
        exact hK.out _ _ ⟨hI.bl, fun _ => rfl, hI.v1, hI.v2, hI.v3, hI.v4, hI.v5, hI.v6, hI.v7, hI.v8, hI.v9, hI.v10, hI.v11, hI.v12, hI.v13, hI.v14, hI.v15, hI.v16, hI.v17, hI.v18, hI.v19, hI.v20, hI.v21, hI.v22, hI.v23, hI.v24, hI.v25, hI.v26, hI.v27, hI.v28, hI.v29, hI.v30, hI.v31, hI.v32, hI.v33, hI.v34, hI.v35, hI.v36, hI.v37, hI.v38, hI.v39, hI.v40, hI.v41, hI.v42, hI.v43, hI.v44, hI.v45, hI.v46, hI.v47⟩
      case sx1 =>
        intro xs done y hI hd0 hup hdn K hK
        refine wpOp_go (o := ⟨some 142, _, _, _, _, _⟩) rfl rfl ?_
        have e0 := hI.v0 (hdn 0 (by kernel_rfl))
        simp only [putsF, List.foldl_cons, List.foldl_nil, Act.put, List.setIfInBounds_toArray, List.set_cons_zero, List.set_cons_succ] at hK ⊢
        simp only [e0] at hK ⊢
        go_wp2_with fail
        exact hK.out _ _ ⟨hI.bl, hI.v0, fun _ => rfl, hI.v2, hI.v3, hI.v4, hI.v5, hI.v6, hI.v7, hI.v8, hI.v9, hI.v10, hI.v11, hI.v12, hI.v13, hI.v14, hI.v15, hI.v16, hI.v17, hI.v18, hI.v19, hI.v20, hI.v21, hI.v22, hI.v23, hI.v24, hI.v25, hI.v26, hI.v27, hI.v28, hI.v29, hI.v30, hI.v31, hI.v32, hI.v33, hI.v34, hI.v35, hI.v36, hI.v37, hI.v38, hI.v39, hI.v40, hI.v41, hI.v42, hI.v43, hI.v44, hI.v45, hI.v46, hI.v47⟩
      case sx2 =>
        intro xs done y hI hd0 hup hdn K hK
        refine wpOp_go (o := ⟨some 143, _, _, _, _, _⟩) rfl rfl ?_
        have e1 := hI.v1 (hdn 1 (by kernel_rfl))
        simp only [putsF, List.foldl_cons, List.foldl_nil, Act.put, List.setIfInBounds_toArray, List.set_cons_zero, List.set_cons_succ] at hK ⊢
        simp only [e1] at hK ⊢
        go_wp2_with fail
        exact hK.out _ _ ⟨hI.bl, hI.v0, hI.v1, fun _ => rfl, hI.v3, hI.v4, hI.v5, hI.v6, hI.v7, hI.v8, hI.v9, hI.v10, hI.v11, hI.v12, hI.v13, hI.v14, hI.v15, hI.v16, hI.v17, hI.v18, hI.v19, hI.v20, hI.v21, hI.v22, hI.v23, hI.v24, hI.v25, hI.v26, hI.v27, hI.v28, hI.v29, hI.v30, hI.v31, hI.v32, hI.v33, hI.v34, hI.v35, hI.v36, hI.v37, hI.v38, hI.v39, hI.v40, hI.v41, hI.v42, hI.v43, hI.v44, hI.v45, hI.v46, hI.v47⟩
      case sx3 =>
        intro xs done y hI hd0 hup hdn K hK
        have e2 := hI.v2 (hdn 2 (by kernel_rfl))
        simp only [putsF, List.foldl_cons, List.foldl_nil, Act.put, List.setIfInBounds_toArray, List.set_cons_zero, List.set_cons_succ] at hK ⊢
        refine wpOp_run (o := ⟨some 144, _, _, _, _, _⟩) rfl rfl rfl (congrArg some e2) ?_
        simp only [e2] at hK ⊢
        go_wp2_with fail
        exact hK.out _ _ ⟨hI.bl, hI.v0, hI.v1, hI.v2, fun _ => rfl, hI.v4, hI.v5, hI.v6, hI.v7, hI.v8, hI.v9, hI.v10, hI.v11, hI.v12, hI.v13, hI.v14, hI.v15, hI.v16, hI.v17, hI.v18, hI.v19, hI.v20, hI.v21, hI.v22, hI.v23, hI.v24, hI.v25, hI.v26, hI.v27, hI.v28, hI.v29, hI.v30, hI.v31, hI.v32, hI.v33, hI.v34, hI.v35, hI.v36, hI.v37, hI.v38, hI.v39, hI.v40, hI.v41, hI.v42, hI.v43, hI.v44, hI.v45, hI.v46, hI.v47⟩
      case sx4 =>
        intro xs done y hI hd0 hup hdn K hK
        have e2 := hI.v2 (hdn 2 (by kernel_rfl))
        simp only [putsF, List.foldl_cons, List.foldl_nil, Act.put, List.setIfInBounds_toArray, List.set_cons_zero, List.set_cons_succ] at hK ⊢
        refine wpOp_run (o := ⟨some 145, _, _, _, _, _⟩) rfl rfl rfl (congrArg some e2) ?_
        simp only [e2] at hK ⊢
        go_wp2_with fail
        exact hK.out _ _ ⟨hI.bl, hI.v0, hI.v1, hI.v2, hI.v3, fun _ => rfl, hI.v5, hI.v6, hI.v7, hI.v8, hI.v9, hI.v10, hI.v11, hI.v12, hI.v13, hI.v14, hI.v15, hI.v16, hI.v17, hI.v18, hI.v19, hI.v20, hI.v21, hI.v22, hI.v23, hI.v24, hI.v25, hI.v26, hI.v27, hI.v28, hI.v29, hI.v30, hI.v31, hI.v32, hI.v33, hI.v34, hI.v35, hI.v36, hI.v37, hI.v38, hI.v39, hI.v40, hI.v41, hI.v42, hI.v43, hI.v44, hI.v45, hI.v46, hI.v47⟩
      case sx5 =>
        intro xs done y hI hd0 hup hdn K hK
        have e4 := hI.v4 (hdn 4 (by kernel_rfl))
        have e2 := hI.v2 (hdn 2 (by kernel_rfl))
        simp only [putsF, List.foldl_cons, List.foldl_nil, Act.put, List.setIfInBounds_toArray, List.set_cons_zero, List.set_cons_succ] at hK ⊢
        refine wpOp_run (o := ⟨some 146, _, _, _, _, _⟩) rfl rfl rfl (congrArg some e2) ?_
        simp only [e4, e2] at hK ⊢
        go_wp2_with fail
        exact hK.out _ _ ⟨hI.bl, hI.v0, hI.v1, hI.v2, hI.v3, hI.v4, fun _ => rfl, hI.v6, hI.v7, hI.v8, hI.v9, hI.v10, hI.v11, hI.v12, hI.v13, hI.v14, hI.v15, hI.v16, hI.v17, hI.v18, hI.v19, hI.v20, hI.v21, hI.v22, hI.v23, hI.v24, hI.v25, hI.v26, hI.v27, hI.v28, hI.v29, hI.v30, hI.v31, hI.v32, hI.v33, hI.v34, hI.v35, hI.v36, hI.v37, hI.v38, hI.v39, hI.v40, hI.v41, hI.v42, hI.v43, hI.v44, hI.v45, hI.v46, hI.v47⟩
      case sx6 =>
        intro xs done y hI hd0 hup hdn K hK
        have e5 := hI.v5 (hdn 5 (by kernel_rfl))
        have e2 := hI.v2 (hdn 2 (by kernel_rfl))
        simp only [putsF, List.foldl_cons, List.foldl_nil, Act.put, List.setIfInBounds_toArray, List.set_cons_zero, List.set_cons_succ] at hK ⊢
        refine wpOp_run (o := ⟨some 147, _, _, _, _, _⟩) rfl rfl rfl (congrArg some e2) ?_
        simp only [e5, e2] at hK ⊢
        go_wp2_with fail
        exact hK.out _ _ ⟨hI.bl, hI.v0, hI.v1, hI.v2, hI.v3, hI.v4, hI.v5, fun _ => rfl, hI.v7, hI.v8, hI.v9, hI.v10, hI.v11, hI.v12, hI.v13, hI.v14, hI.v15, hI.v16, hI.v17, hI.v18, hI.v19, hI.v20, hI.v21, hI.v22, hI.v23, hI.v24, hI.v25, hI.v26, hI.v27, hI.v28, hI.v29, hI.v30, hI.v31, hI.v32, hI.v33, hI.v34, hI.v35, hI.v36, hI.v37, hI.v38, hI.v39, hI.v40, hI.v41, hI.v42, hI.v43, hI.v44, hI.v45, hI.v46, hI.v47⟩
      case sx7 =>
        intro xs done y hI hd0 hup hdn K hK
        have e3 := hI.v3 (hdn 3 (by kernel_rfl))
        have e6 := hI.v6 (hdn 6 (by kernel_rfl))
        have e2 := hI.v2 (hdn 2 (by kernel_rfl))
        simp only [putsF, List.foldl_cons, List.foldl_nil, Act.put, List.setIfInBounds_toArray, List.set_cons_zero, List.set_cons_succ] at hK ⊢
        refine wpOp_run (o := ⟨some 148, _, _, _, _, _⟩) rfl rfl rfl (congrArg some e2) ?_
        simp only [e3, e6, e2] at hK ⊢
        go_wp2_with fail
        exact hK.out _ _ ⟨hI.bl, hI.v0, hI.v1, hI.v2, hI.v3, hI.v4, hI.v5, hI.v6, fun _ => rfl, hI.v8, hI.v9, hI.v10, hI.v11, hI.v12, hI.v13, hI.v14, hI.v15, hI.v16, hI.v17, hI.v18, hI.v19, hI.v20, hI.v21, hI.v22, hI.v23, hI.v24, hI.v25, hI.v26, hI.v27, hI.v28, hI.v29, hI.v30, hI.v31, hI.v32, hI.v33, hI.v34, hI.v35, hI.v36, hI.v37, hI.v38, hI.v39, hI.v40, hI.v41, hI.v42, hI.v43, hI.v44, hI.v45, hI.v46, hI.v47⟩
      case sx8 =>
        intro xs done y hI hd0 hup hdn K hK
        refine wpOp_go (o := ⟨some 149, _, _, _, _, _⟩) rfl rfl ?_
        have e2 := hI.v2 (hdn 2 (by kernel_rfl))
        have e7 := hI.v7 (hdn 7 (by kernel_rfl))
        simp only [putsF, List.foldl_cons, List.foldl_nil, Act.put, List.setIfInBounds_toArray, List.set_cons_zero, List.set_cons_succ] at hK ⊢
        simp only [e2, e7] at hK ⊢
        go_wp2_with fail
        exact hK.out _ _ ⟨hI.bl, hI.v0, hI.v1, hI.v2, hI.v3, hI.v4, hI.v5, hI.v6, hI.v7, fun _ => rfl, hI.v9, hI.v10, hI.v11, hI.v12, hI.v13, hI.v14, hI.v15, hI.v16, hI.v17, hI.v18, hI.v19, hI.v20, hI.v21, hI.v22, hI.v23, hI.v24, hI.v25, hI.v26, hI.v27, hI.v28, hI.v29, hI.v30, hI.v31, hI.v32, hI.v33, hI.v34, hI.v35, hI.v36, hI.v37, hI.v38, hI.v39, hI.v40, hI.v41, hI.v42, hI.v43, hI.v44, hI.v45, hI.v46, hI.v47⟩
      case sx9 =>
        intro xs done y hI hd0 hup hdn K hK
        refine wpOp_go (o := ⟨some 150, _, _, _, _, _⟩) rfl rfl ?_
        have e8 := hI.v8 (hdn 8 (by kernel_rfl))
        simp only [putsF, List.foldl_cons, List.foldl_nil, Act.put, List.setIfInBounds_toArray, List.set_cons_zero, List.set_cons_succ] at hK ⊢
        simp only [e8] at hK ⊢
        go_wp2_with fail
        exact hK.out _ _ ⟨hI.bl, hI.v0, hI.v1, hI.v2, hI.v3, hI.v4, hI.v5, hI.v6, hI.v7, hI.v8, fun _ => rfl, hI.v10, hI.v11, hI.v12, hI.v13, hI.v14, hI.v15, hI.v16, hI.v17, hI.v18, hI.v19, hI.v20, hI.v21, hI.v22, hI.v23, hI.v24, hI.v25, hI.v26, hI.v27, hI.v28, hI.v29, hI.v30, hI.v31, hI.v32, hI.v33, hI.v34, hI.v35, hI.v36, hI.v37, hI.v38, hI.v39, hI.v40, hI.v41, hI.v42, hI.v43, hI.v44, hI.v45, hI.v46, hI.v47⟩
      case sx10 =>
        intro xs done y hI hd0 hup hdn K hK
        have e9 := hI.v9 (hdn 9 (by kernel_rfl))
        simp only [putsF, List.foldl_cons, List.foldl_nil, Act.put, List.setIfInBounds_toArray, List.set_cons_zero, List.set_cons_succ] at hK ⊢
        refine wpOp_run (o := ⟨some 151, _, _, _, _, _⟩) rfl rfl rfl (congrArg some e9) ?_
        simp only [e9] at hK ⊢
        go_wp2_with fail
        exact hK.out _ _ ⟨hI.bl, hI.v0, hI.v1, hI.v2, hI.v3, hI.v4, hI.v5, hI.v6, hI.v7, hI.v8, hI.v9, fun _ => rfl, hI.v11, hI.v12, hI.v13, hI.v14, hI.v15, hI.v16, hI.v17, hI.v18, hI.v19, hI.v20, hI.v21, hI.v22, hI.v23, hI.v24, hI.v25, hI.v26, hI.v27, hI.v28, hI.v29, hI.v30, hI.v31, hI.v32, hI.v33, hI.v34, hI.v35, hI.v36, hI.v37, hI.v38, hI.v39, hI.v40, hI.v41, hI.v42, hI.v43, hI.v44, hI.v45, hI.v46, hI.v47⟩
      case sx11 =>
        intro xs done y hI hd0 hup hdn K hK
        have e10 := hI.v10 (hdn 10 (by kernel_rfl))
        have e9 := hI.v9 (hdn 9 (by kernel_rfl))
        simp only [putsF, List.foldl_cons, List.foldl_nil, Act.put, List.setIfInBounds_toArray, List.set_cons_zero, List.set_cons_succ] at hK ⊢
        refine wpOp_run (o := ⟨some 152, _, _, _, _, _⟩) rfl rfl rfl (congrArg some e9) ?_
        simp only [e10, e9] at hK ⊢
        go_wp2_with fail
        exact hK.out _ _ ⟨hI.bl, hI.v0, hI.v1, hI.v2, hI.v3, hI.v4, hI.v5, hI.v6, hI.v7, hI.v8, hI.v9, hI.v10, fun _ => rfl, hI.v12, hI.v13, hI.v14, hI.v15, hI.v16, hI.v17, hI.v18, hI.v19, hI.v20, hI.v21, hI.v22, hI.v23, hI.v24, hI.v25, hI.v26, hI.v27, hI.v28, hI.v29, hI.v30, hI.v31, hI.v32, hI.v33, hI.v34, hI.v35, hI.v36, hI.v37, hI.v38, hI.v39, hI.v40, hI.v41, hI.v42, hI.v43, hI.v44, hI.v45, hI.v46, hI.v47⟩
      case sx12 =>
        intro xs done y hI hd0 hup hdn K hK
        have e9 := hI.v9 (hdn 9 (by kernel_rfl))
        simp only [putsF, List.foldl_cons, List.foldl_nil, Act.put, List.setIfInBounds_toArray, List.set_cons_zero, List.set_cons_succ] at hK ⊢
        refine wpOp_run (o := ⟨some 153, _, _, _, _, _⟩) rfl rfl rfl (congrArg some e9) ?_
        simp only [e9] at hK ⊢
        go_wp2_with fail
        exact hK.out _ _ ⟨hI.bl, hI.v0, hI.v1, hI.v2, hI.v3, hI.v4, hI.v5, hI.v6, hI.v7, hI.v8, hI.v9, hI.v10, hI.v11, fun _ => rfl, hI.v13, hI.v14, hI.v15, hI.v16, hI.v17, hI.v18, hI.v19, hI.v20, hI.v21, hI.v22, hI.v23, hI.v24, hI.v25, hI.v26, hI.v27, hI.v28, hI.v29, hI.v30, hI.v31, hI.v32, hI.v33, hI.v34, hI.v35, hI.v36, hI.v37, hI.v38, hI.v39, hI.v40, hI.v41, hI.v42, hI.v43, hI.v44, hI.v45, hI.v46, hI.v47⟩
      case sx13 =>
        intro xs done y hI hd0 hup hdn K hK
        have e12 := hI.v12 (hdn 12 (by kernel_rfl))
        have e9 := hI.v9 (hdn 9 (by kernel_rfl))
        simp only [putsF, List.foldl_cons, List.foldl_nil, Act.put, List.setIfInBounds_toArray, List.set_cons_zero, List.set_cons_succ] at hK ⊢
        refine wpOp_run (o := ⟨some 154, _, _, _, _, _⟩) rfl rfl rfl (congrArg some e9) ?_
        simp only [e12, e9] at hK ⊢
        go_wp2_with fail
        exact hK.out _ _ ⟨hI.bl, hI.v0, hI.v1, hI.v2, hI.v3, hI.v4, hI.v5, hI.v6, hI.v7, hI.v8, hI.v9, hI.v10, hI.v11, hI.v12, fun _ => rfl, hI.v14, hI.v15, hI.v16, hI.v17, hI.v18, hI.v19, hI.v20, hI.v21, hI.v22, hI.v23, hI.v24, hI.v25, hI.v26, hI.v27, hI.v28, hI.v29, hI.v30, hI.v31, hI.v32, hI.v33, hI.v34, hI.v35, hI.v36, hI.v37, hI.v38, hI.v39, hI.v40, hI.v41, hI.v42, hI.v43, hI.v44, hI.v45, hI.v46, hI.v47⟩
      case sx14 =>
        intro xs done y hI hd0 hup hdn K hK
        have e11 := hI.v11 (hdn 11 (by kernel_rfl))
        have e13 := hI.v13 (hdn 13 (by kernel_rfl))
        have e9 := hI.v9 (hdn 9 (by kernel_rfl))
        simp only [putsF, List.foldl_cons, List.foldl_nil, Act.put, List.setIfInBounds_toArray, List.set_cons_zero, List.set_cons_succ] at hK ⊢
        refine wpOp_run (o := ⟨some 155, _, _, _, _, _⟩) rfl rfl rfl (congrArg some e9) ?_
        simp only [e11, e13, e9] at hK ⊢
        go_wp2_with fail
        exact hK.out _ _ ⟨hI.bl, hI.v0, hI.v1, hI.v2, hI.v3, hI.v4, hI.v5, hI.v6, hI.v7, hI.v8, hI.v9, hI.v10, hI.v11, hI.v12, hI.v13, fun _ => rfl, hI.v15, hI.v16, hI.v17, hI.v18, hI.v19, hI.v20, hI.v21, hI.v22, hI.v23, hI.v24, hI.v25, hI.v26, hI.v27, hI.v28, hI.v29, hI.v30, hI.v31, hI.v32, hI.v33, hI.v34, hI.v35, hI.v36, hI.v37, hI.v38, hI.v39, hI.v40, hI.v41, hI.v42, hI.v43, hI.v44, hI.v45, hI.v46, hI.v47⟩
      case sx15 =>
        intro xs done y hI hd0 hup hdn K hK
        refine wpOp_go (o := ⟨some 156, _, _, _, _, _⟩) rfl rfl ?_
        have e9 := hI.v9 (hdn 9 (by kernel_rfl))
        have e14 := hI.v14 (hdn 14 (by kernel_rfl))
        simp only [putsF, List.foldl_cons, List.foldl_nil, Act.put, List.setIfInBounds_toArray, List.set_cons_zero, List.set_cons_succ] at hK ⊢
        simp only [e9, e14] at hK ⊢
        go_wp2_with fail
        exact hK.out _ _ ⟨hI.bl, hI.v0, hI.v1, hI.v2, hI.v3, hI.v4, hI.v5, hI.v6, hI.v7, hI.v8, hI.v9, hI.v10, hI.v11, hI.v12, hI.v13, hI.v14, fun _ => rfl, hI.v16, hI.v17, hI.v18, hI.v19, hI.v20, hI.v21, hI.v22, hI.v23, hI.v24, hI.v25, hI.v26, hI.v27, hI.v28, hI.v29, hI.v30, hI.v31, hI.v32, hI.v33, hI.v34, hI.v35, hI.v36, hI.v37, hI.v38, hI.v39, hI.v40, hI.v41, hI.v42, hI.v43, hI.v44, hI.v45, hI.v46, hI.v47⟩
      case sx16 =>
        intro xs done y hI hd0 hup hdn K hK
        refine wpOp_go (o := ⟨some 157, _, _, _, _, _⟩) rfl rfl ?_
        have e15 := hI.v15 (hdn 15 (by kernel_rfl))
        simp only [putsF, List.foldl_cons, List.foldl_nil, Act.put, List.setIfInBounds_toArray, List.set_cons_zero, List.set_cons_succ] at hK ⊢
        simp only [e15] at hK ⊢
        go_wp2_with fail
        exact hK.out _ _ ⟨hI.bl, hI.v0, hI.v1, hI.v2, hI.v3, hI.v4, hI.v5, hI.v6, hI.v7, hI.v8, hI.v9, hI.v10, hI.v11, hI.v12, hI.v13, hI.v14, hI.v15, fun _ => rfl, hI.v17, hI.v18, hI.v19, hI.v20, hI.v21, hI.v22, hI.v23, hI.v24, hI.v25, hI.v26, hI.v27, hI.v28, hI.v29, hI.v30, hI.v31, hI.v32, hI.v33, hI.v34, hI.v35, hI.v36, hI.v37, hI.v38, hI.v39, hI.v40, hI.v41, hI.v42, hI.v43, hI.v44, hI.v45, hI.v46, hI.v47⟩
      case sx17 =>
        intro xs done y hI hd0 hup hdn K hK
        have e16 := hI.v16 (hdn 16 (by kernel_rfl))
        simp only [putsF, List.foldl_cons, List.foldl_nil, Act.put, List.setIfInBounds_toArray, List.set_cons_zero, List.set_cons_succ] at hK ⊢
        refine wpOp_run (o := ⟨some 158, _, _, _, _, _⟩) rfl rfl rfl (congrArg some e16) ?_
        simp only [e16] at hK ⊢
        go_wp2_with fail
        exact hK.out _ _ ⟨hI.bl, hI.v0, hI.v1, hI.v2, hI.v3, hI.v4, hI.v5, hI.v6, hI.v7, hI.v8, hI.v9, hI.v10, hI.v11, hI.v12, hI.v13, hI.v14, hI.v15, hI.v16, fun _ => rfl, hI.v18, hI.v19, hI.v20, hI.v21, hI.v22, hI.v23, hI.v24, hI.v25, hI.v26, hI.v27, hI.v28, hI.v29, hI.v30, hI.v31, hI.v32, hI.v33, hI.v34, hI.v35, hI.v36, hI.v37, hI.v38, hI.v39, hI.v40, hI.v41, hI.v42, hI.v43, hI.v44, hI.v45, hI.v46, hI.v47⟩
      case sx18 =>
        intro xs done y hI hd0 hup hdn K hK
        have e16 := hI.v16 (hdn 16 (by kernel_rfl))
        simp only [putsF, List.foldl_cons, List.foldl_nil, Act.put, List.setIfInBounds_toArray, List.set_cons_zero, List.set_cons_succ] at hK ⊢
        refine wpOp_run (o := ⟨some 159, _, _, _, _, _⟩) rfl rfl rfl (congrArg some e16) ?_
        simp only [e16] at hK ⊢
        go_wp2_with fail
        exact hK.out _ _ ⟨hI.bl, hI.v0, hI.v1, hI.v2, hI.v3, hI.v4, hI.v5, hI.v6, hI.v7, hI.v8, hI.v9, hI.v10, hI.v11, hI.v12, hI.v13, hI.v14, hI.v15, hI.v16, hI.v17, fun _ => rfl, hI.v19, hI.v20, hI.v21, hI.v22, hI.v23, hI.v24, hI.v25, hI.v26, hI.v27, hI.v28, hI.v29, hI.v30, hI.v31, hI.v32, hI.v33, hI.v34, hI.v35, hI.v36, hI.v37, hI.v38, hI.v39, hI.v40, hI.v41, hI.v42, hI.v43, hI.v44, hI.v45, hI.v46, hI.v47⟩
      case sx19 =>
        intro xs done y hI hd0 hup hdn K hK
        have e18 := hI.v18 (hdn 18 (by kernel_rfl))
        have e16 := hI.v16 (hdn 16 (by kernel_rfl))
        simp only [putsF, List.foldl_cons, List.foldl_nil, Act.put, List.setIfInBounds_toArray, List.set_cons_zero, List.set_cons_succ] at hK ⊢
        refine wpOp_run (o := ⟨some 160, _, _, _, _, _⟩) rfl rfl rfl (congrArg some e16) ?_
        simp only [e18, e16] at hK ⊢
        go_wp2_with fail
        exact hK.out _ _ ⟨hI.bl, hI.v0, hI.v1, hI.v2, hI.v3, hI.v4, hI.v5, hI.v6, hI.v7, hI.v8, hI.v9, hI.v10, hI.v11, hI.v12, hI.v13, hI.v14, hI.v15, hI.v16, hI.v17, hI.v18, fun _ => rfl, hI.v20, hI.v21, hI.v22, hI.v23, hI.v24, hI.v25, hI.v26, hI.v27, hI.v28, hI.v29, hI.v30, hI.v31, hI.v32, hI.v33, hI.v34, hI.v35, hI.v36, hI.v37, hI.v38, hI.v39, hI.v40, hI.v41, hI.v42, hI.v43, hI.v44, hI.v45, hI.v46, hI.v47⟩
      case sx20 =>
        intro xs done y hI hd0 hup hdn K hK
        have e19 := hI.v19 (hdn 19 (by kernel_rfl))
        have e16 := hI.v16 (hdn 16 (by kernel_rfl))
        simp only [putsF, List.foldl_cons, List.foldl_nil, Act.put, List.setIfInBounds_toArray, List.set_cons_zero, List.set_cons_succ] at hK ⊢
        refine wpOp_run (o := ⟨some 161, _, _, _, _, _⟩) rfl rfl rfl (congrArg some e16) ?_
        simp only [e19, e16] at hK ⊢
        go_wp2_with fail
        exact hK.out _ _ ⟨hI.bl, hI.v0, hI.v1, hI.v2, hI.v3, hI.v4, hI.v5, hI.v6, hI.v7, hI.v8, hI.v9, hI.v10, hI.v11, hI.v12, hI.v13, hI.v14, hI.v15, hI.v16, hI.v17, hI.v18, hI.v19, fun _ => rfl, hI.v21, hI.v22, hI.v23, hI.v24, hI.v25, hI.v26, hI.v27, hI.v28, hI.v29, hI.v30, hI.v31, hI.v32, hI.v33, hI.v34, hI.v35, hI.v36, hI.v37, hI.v38, hI.v39, hI.v40, hI.v41, hI.v42, hI.v43, hI.v44, hI.v45, hI.v46, hI.v47⟩
      case sx21 =>
        intro xs done y hI hd0 hup hdn K hK
        have e17 := hI.v17 (hdn 17 (by kernel_rfl))
        have e20 := hI.v20 (hdn 20 (by kernel_rfl))
        have e16 := hI.v16 (hdn 16 (by kernel_rfl))
        simp only [putsF, List.foldl_cons, List.foldl_nil, Act.put, List.setIfInBounds_toArray, List.set_cons_zero, List.set_cons_succ] at hK ⊢
        refine wpOp_run (o := ⟨some 162, _, _, _, _, _⟩) rfl rfl rfl (congrArg some e16) ?_
        simp only [e17, e20, e16] at hK ⊢
        go_wp2_with fail
        exact hK.out _ _ ⟨hI.bl, hI.v0, hI.v1, hI.v2, hI.v3, hI.v4, hI.v5, hI.v6, hI.v7, hI.v8, hI.v9, hI.v10, hI.v11, hI.v12, hI.v13, hI.v14, hI.v15, hI.v16, hI.v17, hI.v18, hI.v19, hI.v20, fun _ => rfl, hI.v22, hI.v23, hI.v24, hI.v25, hI.v26, hI.v27, hI.v28, hI.v29, hI.v30, hI.v31, hI.v32, hI.v33, hI.v34, hI.v35, hI.v36, hI.v37, hI.v38, hI.v39, hI.v40, hI.v41, hI.v42, hI.v43, hI.v44, hI.v45, hI.v46, hI.v47⟩
      case sx22 =>
        intro xs done y hI hd0 hup hdn K hK
        have e16 := hI.v16 (hdn 16 (by kernel_rfl))
        simp only [putsF, List.foldl_cons, List.foldl_nil, Act.put, List.setIfInBounds_toArray, List.set_cons_zero, List.set_cons_succ] at hK ⊢
        refine wpOp_run (o := ⟨some 163, _, _, _, _, _⟩) rfl rfl rfl (congrArg some e16) ?_
        simp only [e16] at hK ⊢
        go_wp2_with fail
        exact hK.out _ _ ⟨hI.bl, hI.v0, hI.v1, hI.v2, hI.v3, hI.v4, hI.v5, hI.v6, hI.v7, hI.v8, hI.v9, hI.v10, hI.v11, hI.v12, hI.v13, hI.v14, hI.v15, hI.v16, hI.v17, hI.v18, hI.v19, hI.v20, hI.v21, fun _ => rfl, hI.v23, hI.v24, hI.v25, hI.v26, hI.v27, hI.v28, hI.v29, hI.v30, hI.v31, hI.v32, hI.v33, hI.v34, hI.v35, hI.v36, hI.v37, hI.v38, hI.v39, hI.v40, hI.v41, hI.v42, hI.v43, hI.v44, hI.v45, hI.v46, hI.v47⟩
      case sx23 =>
        intro xs done y hI hd0 hup hdn K hK
        have e16 := hI.v16 (hdn 16 (by kernel_rfl))
        simp only [putsF, List.foldl_cons, List.foldl_nil, Act.put, List.setIfInBounds_toArray, List.set_cons_zero, List.set_cons_succ] at hK ⊢
        refine wpOp_run (o := ⟨some 164, _, _, _, _, _⟩) rfl rfl rfl (congrArg some e16) ?_
        simp only [e16] at hK ⊢
        go_wp2_with fail
        exact hK.out _ _ ⟨hI.bl, hI.v0, hI.v1, hI.v2, hI.v3, hI.v4, hI.v5, hI.v6, hI.v7, hI.v8, hI.v9, hI.v10, hI.v11, hI.v12, hI.v13, hI.v14, hI.v15, hI.v16, hI.v17, hI.v18, hI.v19, hI.v20, hI.v21, hI.v22, fun _ => rfl, hI.v24, hI.v25, hI.v26, hI.v27, hI.v28, hI.v29, hI.v30, hI.v31, hI.v32, hI.v33, hI.v34, hI.v35, hI.v36, hI.v37, hI.v38, hI.v39, hI.v40, hI.v41, hI.v42, hI.v43, hI.v44, hI.v45, hI.v46, hI.v47⟩
      case sx24 =>
        intro xs done y hI hd0 hup hdn K hK
        have e23 := hI.v23 (hdn 23 (by kernel_rfl))
        have e16 := hI.v16 (hdn 16 (by kernel_rfl))
        simp only [putsF, List.foldl_cons, List.foldl_nil, Act.put, List.setIfInBounds_toArray, List.set_cons_zero, List.set_cons_succ] at hK ⊢
        refine wpOp_run (o := ⟨some 165, _, _, _, _, _⟩) rfl rfl rfl (congrArg some e16) ?_
        simp only [e23, e16] at hK ⊢
        go_wp2_with fail
        exact hK.out _ _ ⟨hI.bl, hI.v0, hI.v1, hI.v2, hI.v3, hI.v4, hI.v5, hI.v6, hI.v7, hI.v8, hI.v9, hI.v10, hI.v11, hI.v12, hI.v13, hI.v14, hI.v15, hI.v16, hI.v17, hI.v18, hI.v19, hI.v20, hI.v21, hI.v22, hI.v23, fun _ => rfl, hI.v25, hI.v26, hI.v27, hI.v28, hI.v29, hI.v30, hI.v31, hI.v32, hI.v33, hI.v34, hI.v35, hI.v36, hI.v37, hI.v38, hI.v39, hI.v40, hI.v41, hI.v42, hI.v43, hI.v44, hI.v45, hI.v46, hI.v47⟩
      case sx25 =>
        intro xs done y hI hd0 hup hdn K hK
        have e24 := hI.v24 (hdn 24 (by kernel_rfl))
        have e16 := hI.v16 (hdn 16 (by kernel_rfl))
        simp only [putsF, List.foldl_cons, List.foldl_nil, Act.put, List.setIfInBounds_toArray, List.set_cons_zero, List.set_cons_succ] at hK ⊢
        refine wpOp_run (o := ⟨some 166, _, _, _, _, _⟩) rfl rfl rfl (congrArg some e16) ?_
        simp only [e24, e16] at hK ⊢
        go_wp2_with fail
        exact hK.out _ _ ⟨hI.bl, hI.v0, hI.v1, hI.v2, hI.v3, hI.v4, hI.v5, hI.v6, hI.v7, hI.v8, hI.v9, hI.v10, hI.v11, hI.v12, hI.v13, hI.v14, hI.v15, hI.v16, hI.v17, hI.v18, hI.v19, hI.v20, hI.v21, hI.v22, hI.v23, hI.v24, fun _ => rfl, hI.v26, hI.v27, hI.v28, hI.v29, hI.v30, hI.v31, hI.v32, hI.v33, hI.v34, hI.v35, hI.v36, hI.v37, hI.v38, hI.v39, hI.v40, hI.v41, hI.v42, hI.v43, hI.v44, hI.v45, hI.v46, hI.v47⟩
      case sx26 =>
        intro xs done y hI hd0 hup hdn K hK
        have e22 := hI.v22 (hdn 22 (by kernel_rfl))
        have e25 := hI.v25 (hdn 25 (by kernel_rfl))
        have e16 := hI.v16 (hdn 16 (by kernel_rfl))
        simp only [putsF, List.foldl_cons, List.foldl_nil, Act.put, List.setIfInBounds_toArray, List.set_cons_zero, List.set_cons_succ] at hK ⊢
        refine wpOp_run (o := ⟨some 167, _, _, _, _, _⟩) rfl rfl rfl (congrArg some e16) ?_
        simp only [e22, e25, e16] at hK ⊢
        go_wp2_with fail
        exact hK.out _ _ ⟨hI.bl, hI.v0, hI.v1, hI.v2, hI.v3, hI.v4, hI.v5, hI.v6, hI.v7, hI.v8, hI.v9, hI.v10, hI.v11, hI.v12, hI.v13, hI.v14, hI.v15, hI.v16, hI.v17, hI.v18, hI.v19, hI.v20, hI.v21, hI.v22, hI.v23, hI.v24, hI.v25, fun _ => rfl, hI.v27, hI.v28, hI.v29, hI.v30, hI.v31, hI.v32, hI.v33, hI.v34, hI.v35, hI.v36, hI.v37, hI.v38, hI.v39, hI.v40, hI.v41, hI.v42, hI.v43, hI.v44, hI.v45, hI.v46, hI.v47⟩
      case sx27 =>
        intro xs done y hI hd0 hup hdn K hK
        have e21 := hI.v21 (hdn 21 (by kernel_rfl))
        have e26 := hI.v26 (hdn 26 (by kernel_rfl))
        have e16 := hI.v16 (hdn 16 (by kernel_rfl))
        simp only [putsF, List.foldl_cons, List.foldl_nil, Act.put, List.setIfInBounds_toArray, List.set_cons_zero, List.set_cons_succ] at hK ⊢
        refine wpOp_run (o := ⟨some 168, _, _, _, _, _⟩) rfl rfl rfl (congrArg some e16) ?_
        simp only [e21, e26, e16] at hK ⊢
        have hq := HSq.out y hI.bl
        go_wp2_with (go_at_call 22; with_reducible refine hq.mono ?_; rintro e z ⟨rfl, hb4⟩)
        exact hK.out _ _ ⟨(hI.bl.trans (hb4.mono hI.bl.size)), hI.v0, hI.v1, hI.v2, hI.v3, hI.v4, hI.v5, hI.v6, hI.v7, hI.v8, hI.v9, hI.v10, hI.v11, hI.v12, hI.v13, hI.v14, hI.v15, hI.v16, hI.v17, hI.v18, hI.v19, hI.v20, hI.v21, hI.v22, hI.v23, hI.v24, hI.v25, hI.v26, fun _ => rfl, hI.v28, hI.v29, hI.v30, hI.v31, hI.v32, hI.v33, hI.v34, hI.v35, hI.v36, hI.v37, hI.v38, hI.v39, hI.v40, hI.v41, hI.v42, hI.v43, hI.v44, hI.v45, hI.v46, hI.v47⟩
      case sx28 =>
        intro xs done y hI hd0 hup hdn K hK
        refine wpOp_go (o := ⟨some 169, _, _, _, _, _⟩) rfl rfl ?_
        have e16 := hI.v16 (hdn 16 (by kernel_rfl))
        have e27 := hI.v27 (hdn 27 (by kernel_rfl))
        simp only [putsF, List.foldl_cons, List.foldl_nil, Act.put, List.setIfInBounds_toArray, List.set_cons_zero, List.set_cons_succ] at hK ⊢
        simp only [e16, e27] at hK ⊢
        go_wp2_with fail
        exact hK.out _ _ ⟨hI.bl, hI.v0, hI.v1, hI.v2, hI.v3, hI.v4, hI.v5, hI.v6, hI.v7, hI.v8, hI.v9, hI.v10, hI.v11, hI.v12, hI.v13, hI.v14, hI.v15, hI.v16, hI.v17, hI.v18, hI.v19, hI.v20, hI.v21, hI.v22, hI.v23, hI.v24, hI.v25, hI.v26, hI.v27, fun _ => rfl, hI.v29, hI.v30, hI.v31, hI.v32, hI.v33, hI.v34, hI.v35, hI.v36, hI.v37, hI.v38, hI.v39, hI.v40, hI.v41, hI.v42, hI.v43, hI.v44, hI.v45, hI.v46, hI.v47⟩
      case sx29 =>
        intro xs done y hI hd0 hup hdn K hK
        refine wpOp_go (o := ⟨some 170, _, _, _, _, _⟩) rfl rfl ?_
        have e28 := hI.v28 (hdn 28 (by kernel_rfl))
        simp only [putsF, List.foldl_cons, List.foldl_nil, Act.put, List.setIfInBounds_toArray, List.set_cons_zero, List.set_cons_succ] at hK ⊢
        simp only [e28] at hK ⊢
        go_wp2_with fail
        exact hK.out _ _ ⟨hI.bl, hI.v0, hI.v1, hI.v2, hI.v3, hI.v4, hI.v5, hI.v6, hI.v7, hI.v8, hI.v9, hI.v10, hI.v11, hI.v12, hI.v13, hI.v14, hI.v15, hI.v16, hI.v17, hI.v18, hI.v19, hI.v20, hI.v21, hI.v22, hI.v23, hI.v24, hI.v25, hI.v26, hI.v27, hI.v28, fun _ => rfl, hI.v30, hI.v31, hI.v32, hI.v33, hI.v34, hI.v35, hI.v36, hI.v37, hI.v38, hI.v39, hI.v40, hI.v41, hI.v42, hI.v43, hI.v44, hI.v45, hI.v46, hI.v47⟩
      case sx30 =>
        intro xs done y hI hd0 hup hdn K hK
        have e29 := hI.v29 (hdn 29 (by kernel_rfl))
        simp only [putsF, List.foldl_cons, List.foldl_nil, Act.put, List.setIfInBounds_toArray, List.set_cons_zero, List.set_cons_succ] at hK ⊢
        refine wpOp_run (o := ⟨some 171, _, _, _, _, _⟩) rfl rfl rfl (congrArg some e29) ?_
        simp only [e29] at hK ⊢
        go_wp2_with fail
        exact hK.out _ _ ⟨hI.bl, hI.v0, hI.v1, hI.v2, hI.v3, hI.v4, hI.v5, hI.v6, hI.v7, hI.v8, hI.v9, hI.v10, hI.v11, hI.v12, hI.v13, hI.v14, hI.v15, hI.v16, hI.v17, hI.v18, hI.v19, hI.v20, hI.v21, hI.v22, hI.v23, hI.v24, hI.v25, hI.v26, hI.v27, hI.v28, hI.v29, fun _ => rfl, hI.v31, hI.v32, hI.v33, hI.v34, hI.v35, hI.v36, hI.v37, hI.v38, hI.v39, hI.v40, hI.v41, hI.v42, hI.v43, hI.v44, hI.v45, hI.v46, hI.v47⟩
      case sx31 =>
        intro xs done y hI hd0 hup hdn K hK
        have e29 := hI.v29 (hdn 29 (by kernel_rfl))
        simp only [putsF, List.foldl_cons, List.foldl_nil, Act.put, List.setIfInBounds_toArray, List.set_cons_zero, List.set_cons_succ] at hK ⊢
        refine wpOp_run (o := ⟨some 172, _, _, _, _, _⟩) rfl rfl rfl (congrArg some e29) ?_
        simp only [e29] at hK ⊢
        go_wp2_with fail
        exact hK.out _ _ ⟨hI.bl, hI.v0, hI.v1, hI.v2, hI.v3, hI.v4, hI.v5, hI.v6, hI.v7, hI.v8, hI.v9, hI.v10, hI.v11, hI.v12, hI.v13, hI.v14, hI.v15, hI.v16, hI.v17, hI.v18, hI.v19, hI.v20, hI.v21, hI.v22, hI.v23, hI.v24, hI.v25, hI.v26, hI.v27, hI.v28, hI.v29, hI.v30, fun _ => rfl, hI.v32, hI.v33, hI.v34, hI.v35, hI.v36, hI.v37, hI.v38, hI.v39, hI.v40, hI.v41, hI.v42, hI.v43, hI.v44, hI.v45, hI.v46, hI.v47⟩
      case sx32 =>
        intro xs done y hI hd0 hup hdn K hK
        have e31 := hI.v31 (hdn 31 (by kernel_rfl))
        have e29 := hI.v29 (hdn 29 (by kernel_rfl))
        simp only [putsF, List.foldl_cons, List.foldl_nil, Act.put, List.setIfInBounds_toArray, List.set_cons_zero, List.set_cons_succ] at hK ⊢
        refine wpOp_run (o := ⟨some 173, _, _, _, _, _⟩) rfl rfl rfl (congrArg some e29) ?_
        simp only [e31, e29] at hK ⊢
        go_wp2_with fail
        exact hK.out _ _ ⟨hI.bl, hI.v0, hI.v1, hI.v2, hI.v3, hI.v4, hI.v5, hI.v6, hI.v7, hI.v8, hI.v9, hI.v10, hI.v11, hI.v12, hI.v13, hI.v14, hI.v15, hI.v16, hI.v17, hI.v18, hI.v19, hI.v20, hI.v21, hI.v22, hI.v23, hI.v24, hI.v25, hI.v26, hI.v27, hI.v28, hI.v29, hI.v30, hI.v31, fun _ => rfl, hI.v33, hI.v34, hI.v35, hI.v36, hI.v37, hI.v38, hI.v39, hI.v40, hI.v41, hI.v42, hI.v43, hI.v44, hI.v45, hI.v46, hI.v47⟩
      case sx33 =>
        intro xs done y hI hd0 hup hdn K hK
        have e32 := hI.v32 (hdn 32 (by kernel_rfl))
        have e29 := hI.v29 (hdn 29 (by kernel_rfl))
        simp only [putsF, List.foldl_cons, List.foldl_nil, Act.put, List.setIfInBounds_toArray, List.set_cons_zero, List.set_cons_succ] at hK ⊢
        refine wpOp_run (o := ⟨some 174, _, _, _, _, _⟩) rfl rfl rfl (congrArg some e29) ?_
        simp only [e32, e29] at hK ⊢
        go_wp2_with fail
        exact hK.out _ _ ⟨hI.bl, hI.v0, hI.v1, hI.v2, hI.v3, hI.v4, hI.v5, hI.v6, hI.v7, hI.v8, hI.v9, hI.v10, hI.v11, hI.v12, hI.v13, hI.v14, hI.v15, hI.v16, hI.v17, hI.v18, hI.v19, hI.v20, hI.v21, hI.v22, hI.v23, hI.v24, hI.v25, hI.v26, hI.v27, hI.v28, hI.v29, hI.v30, hI.v31, hI.v32, fun _ => rfl, hI.v34, hI.v35, hI.v36, hI.v37, hI.v38, hI.v39, hI.v40, hI.v41, hI.v42, hI.v43, hI.v44, hI.v45, hI.v46, hI.v47⟩
      case sx34 =>
        intro xs done y hI hd0 hup hdn K hK
        have e30 := hI.v30 (hdn 30 (by kernel_rfl))
        have e33 := hI.v33 (hdn 33 (by kernel_rfl))
        have e29 := hI.v29 (hdn 29 (by kernel_rfl))
        simp only [putsF, List.foldl_cons, List.foldl_nil, Act.put, List.setIfInBounds_toArray, List.set_cons_zero, List.set_cons_succ] at hK ⊢
        refine wpOp_run (o := ⟨some 175, _, _, _, _, _⟩) rfl rfl rfl (congrArg some e29) ?_
        simp only [e30, e33, e29] at hK ⊢
        go_wp2_with fail
        exact hK.out _ _ ⟨hI.bl, hI.v0, hI.v1, hI.v2, hI.v3, hI.v4, hI.v5, hI.v6, hI.v7, hI.v8, hI.v9, hI.v10, hI.v11, hI.v12, hI.v13, hI.v14, hI.v15, hI.v16, hI.v17, hI.v18, hI.v19, hI.v20, hI.v21, hI.v22, hI.v23, hI.v24, hI.v25, hI.v26, hI.v27, hI.v28, hI.v29, hI.v30, hI.v31, hI.v32, hI.v33, fun _ => rfl, hI.v35, hI.v36, hI.v37, hI.v38, hI.v39, hI.v40, hI.v41, hI.v42, hI.v43, hI.v44, hI.v45, hI.v46, hI.v47⟩
      case sx35 =>
        intro xs done y hI hd0 hup hdn K hK
        have e34 := hI.v34 (hdn 34 (by kernel_rfl))
        have e29 := hI.v29 (hdn 29 (by kernel_rfl))
        simp only [putsF, List.foldl_cons, List.foldl_nil, Act.put, List.setIfInBounds_toArray, List.set_cons_zero, List.set_cons_succ] at hK ⊢
        refine wpOp_run (o := ⟨some 176, _, _, _, _, _⟩) rfl rfl rfl (congrArg some e29) ?_
        simp only [e34, e29] at hK ⊢
        have cc := HCz.out y hI.bl
        have ll := LT.out.1
        have ll2 := LT.out.2
        have hsz := hI.bl.size
        go_wp2_with fail
        exact hK.out _ _ ⟨hI.bl, hI.v0, hI.v1, hI.v2, hI.v3, hI.v4, hI.v5, hI.v6, hI.v7, hI.v8, hI.v9, hI.v10, hI.v11, hI.v12, hI.v13, hI.v14, hI.v15, hI.v16, hI.v17, hI.v18, hI.v19, hI.v20, hI.v21, hI.v22, hI.v23, hI.v24, hI.v25, hI.v26, hI.v27, hI.v28, hI.v29, hI.v30, hI.v31, hI.v32, hI.v33, hI.v34, fun _ => rfl, hI.v36, hI.v37, hI.v38, hI.v39, hI.v40, hI.v41, hI.v42, hI.v43, hI.v44, hI.v45, hI.v46, hI.v47⟩
      case sx36 =>
        intro xs done y hI hd0 hup hdn K hK
        have e29 := hI.v29 (hdn 29 (by kernel_rfl))
        simp only [putsF, List.foldl_cons, List.foldl_nil, Act.put, List.setIfInBounds_toArray, List.set_cons_zero, List.set_cons_succ] at hK ⊢
        refine wpOp_run (o := ⟨some 177, _, _, _, _, _⟩) rfl rfl rfl (congrArg some e29) ?_
        simp only [e29] at hK ⊢
        go_wp2_with fail
        exact hK.out _ _ ⟨hI.bl, hI.v0, hI.v1, hI.v2, hI.v3, hI.v4, hI.v5, hI.v6, hI.v7, hI.v8, hI.v9, hI.v10, hI.v11, hI.v12, hI.v13, hI.v14, hI.v15, hI.v16, hI.v17, hI.v18, hI.v19, hI.v20, hI.v21, hI.v22, hI.v23, hI.v24, hI.v25, hI.v26, hI.v27, hI.v28, hI.v29, hI.v30, hI.v31, hI.v32, hI.v33, hI.v34, hI.v35, fun _ => rfl, hI.v37, hI.v38, hI.v39, hI.v40, hI.v41, hI.v42, hI.v43, hI.v44, hI.v45, hI.v46, hI.v47⟩
      case sx37 =>
        intro xs done y hI hd0 hup hdn K hK
        have e29 := hI.v29 (hdn 29 (by kernel_rfl))
        simp only [putsF, List.foldl_cons, List.foldl_nil, Act.put, List.setIfInBounds_toArray, List.set_cons_zero, List.set_cons_succ] at hK ⊢
        refine wpOp_run (o := ⟨some 178, _, _, _, _, _⟩) rfl rfl rfl (congrArg some e29) ?_
        simp only [e29] at hK ⊢
        go_wp2_with fail
        exact hK.out _ _ ⟨hI.bl, hI.v0, hI.v1, hI.v2, hI.v3, hI.v4, hI.v5, hI.v6, hI.v7, hI.v8, hI.v9, hI.v10, hI.v11, hI.v12, hI.v13, hI.v14, hI.v15, hI.v16, hI.v17, hI.v18, hI.v19, hI.v20, hI.v21, hI.v22, hI.v23, hI.v24, hI.v25, hI.v26, hI.v27, hI.v28, hI.v29, hI.v30, hI.v31, hI.v32, hI.v33, hI.v34, hI.v35, hI.v36, fun _ => rfl, hI.v38, hI.v39, hI.v40, hI.v41, hI.v42, hI.v43, hI.v44, hI.v45, hI.v46, hI.v47⟩
      case sx38 =>
        intro xs done y hI hd0 hup hdn K hK
        have e37 := hI.v37 (hdn 37 (by kernel_rfl))
        have e29 := hI.v29 (hdn 29 (by kernel_rfl))
        simp only [putsF, List.foldl_cons, List.foldl_nil, Act.put, List.setIfInBounds_toArray, List.set_cons_zero, List.set_cons_succ] at hK ⊢
        refine wpOp_run (o := ⟨some 179, _, _, _, _, _⟩) rfl rfl rfl (congrArg some e29) ?_
        simp only [e37, e29] at hK ⊢
        go_wp2_with fail
        exact hK.out _ _ ⟨hI.bl, hI.v0, hI.v1, hI.v2, hI.v3, hI.v4, hI.v5, hI.v6, hI.v7, hI.v8, hI.v9, hI.v10, hI.v11, hI.v12, hI.v13, hI.v14, hI.v15, hI.v16, hI.v17, hI.v18, hI.v19, hI.v20, hI.v21, hI.v22, hI.v23, hI.v24, hI.v25, hI.v26, hI.v27, hI.v28, hI.v29, hI.v30, hI.v31, hI.v32, hI.v33, hI.v34, hI.v35, hI.v36, hI.v37, fun _ => rfl, hI.v39, hI.v40, hI.v41, hI.v42, hI.v43, hI.v44, hI.v45, hI.v46, hI.v47⟩
      case sx39 =>
        intro xs done y hI hd0 hup hdn K hK
        have e38 := hI.v38 (hdn 38 (by kernel_rfl))
        have e29 := hI.v29 (hdn 29 (by kernel_rfl))
        simp only [putsF, List.foldl_cons, List.foldl_nil, Act.put, List.setIfInBounds_toArray, List.set_cons_zero, List.set_cons_succ] at hK ⊢
        refine wpOp_run (o := ⟨some 180, _, _, _, _, _⟩) rfl rfl rfl (congrArg some e29) ?_
        simp only [e38, e29] at hK ⊢
        go_wp2_with fail
        exact hK.out _ _ ⟨hI.bl, hI.v0, hI.v1, hI.v2, hI.v3, hI.v4, hI.v5, hI.v6, hI.v7, hI.v8, hI.v9, hI.v10, hI.v11, hI.v12, hI.v13, hI.v14, hI.v15, hI.v16, hI.v17, hI.v18, hI.v19, hI.v20, hI.v21, hI.v22, hI.v23, hI.v24, hI.v25, hI.v26, hI.v27, hI.v28, hI.v29, hI.v30, hI.v31, hI.v32, hI.v33, hI.v34, hI.v35, hI.v36, hI.v37, hI.v38, fun _ => rfl, hI.v40, hI.v41, hI.v42, hI.v43, hI.v44, hI.v45, hI.v46, hI.v47⟩
      case sx40 =>
        intro xs done y hI hd0 hup hdn K hK
        have e36 := hI.v36 (hdn 36 (by kernel_rfl))
        have e39 := hI.v39 (hdn 39 (by kernel_rfl))
        have e29 := hI.v29 (hdn 29 (by kernel_rfl))
        simp only [putsF, List.foldl_cons, List.foldl_nil, Act.put, List.setIfInBounds_toArray, List.set_cons_zero, List.set_cons_succ] at hK ⊢
        refine wpOp_run (o := ⟨some 181, _, _, _, _, _⟩) rfl rfl rfl (congrArg some e29) ?_
        simp only [e36, e39, e29] at hK ⊢
        go_wp2_with fail
        exact hK.out _ _ ⟨hI.bl, hI.v0, hI.v1, hI.v2, hI.v3, hI.v4, hI.v5, hI.v6, hI.v7, hI.v8, hI.v9, hI.v10, hI.v11, hI.v12, hI.v13, hI.v14, hI.v15, hI.v16, hI.v17, hI.v18, hI.v19, hI.v20, hI.v21, hI.v22, hI.v23, hI.v24, hI.v25, hI.v26, hI.v27, hI.v28, hI.v29, hI.v30, hI.v31, hI.v32, hI.v33, hI.v34, hI.v35, hI.v36, hI.v37, hI.v38, hI.v39, fun _ => rfl, hI.v41, hI.v42, hI.v43, hI.v44, hI.v45, hI.v46, hI.v47⟩
      case sx41 =>
        intro xs done y hI hd0 hup hdn K hK
        have e40 := hI.v40 (hdn 40 (by kernel_rfl))
        have e29 := hI.v29 (hdn 29 (by kernel_rfl))
        simp only [putsF, List.foldl_cons, List.foldl_nil, Act.put, List.setIfInBounds_toArray, List.set_cons_zero, List.set_cons_succ] at hK ⊢
        refine wpOp_run (o := ⟨some 182, _, _, _, _, _⟩) rfl rfl rfl (congrArg some e29) ?_
        simp only [e40, e29] at hK ⊢
        have cc := HCs2.out y hI.bl
        have ll := LT.out.1
        have ll2 := LT.out.2
        have hsz := hI.bl.size
        go_wp2_with fail
        exact hK.out _ _ ⟨hI.bl, hI.v0, hI.v1, hI.v2, hI.v3, hI.v4, hI.v5, hI.v6, hI.v7, hI.v8, hI.v9, hI.v10, hI.v11, hI.v12, hI.v13, hI.v14, hI.v15, hI.v16, hI.v17, hI.v18, hI.v19, hI.v20, hI.v21, hI.v22, hI.v23, hI.v24, hI.v25, hI.v26, hI.v27, hI.v28, hI.v29, hI.v30, hI.v31, hI.v32, hI.v33, hI.v34, hI.v35, hI.v36, hI.v37, hI.v38, hI.v39, hI.v40, fun _ => rfl, hI.v42, hI.v43, hI.v44, hI.v45, hI.v46, hI.v47⟩
      case sx42 =>
        intro xs done y hI hd0 hup hdn K hK
        have e35 := hI.v35 (hdn 35 (by kernel_rfl))
        have e41 := hI.v41 (hdn 41 (by kernel_rfl))
        have e29 := hI.v29 (hdn 29 (by kernel_rfl))
        simp only [putsF, List.foldl_cons, List.foldl_nil, Act.put, List.setIfInBounds_toArray, List.set_cons_zero, List.set_cons_succ] at hK ⊢
        refine wpOp_run (o := ⟨some 183, _, _, _, _, _⟩) rfl rfl rfl (congrArg some e29) ?_
        simp only [e35, e41, e29] at hK ⊢
        go_wp2_with fail
        exact hK.out _ _ ⟨hI.bl, hI.v0, hI.v1, hI.v2, hI.v3, hI.v4, hI.v5, hI.v6, hI.v7, hI.v8, hI.v9, hI.v10, hI.v11, hI.v12, hI.v13, hI.v14, hI.v15, hI.v16, hI.v17, hI.v18, hI.v19, hI.v20, hI.v21, hI.v22, hI.v23, hI.v24, hI.v25, hI.v26, hI.v27, hI.v28, hI.v29, hI.v30, hI.v31, hI.v32, hI.v33, hI.v34, hI.v35, hI.v36, hI.v37, hI.v38, hI.v39, hI.v40, hI.v41, fun _ => rfl, hI.v43, hI.v44, hI.v45, hI.v46, hI.v47⟩
      case sx43 =>
        intro xs done y hI hd0 hup hdn K hK
        refine wpOp_go (o := ⟨some 184, _, _, _, _, _⟩) rfl rfl ?_
        have e29 := hI.v29 (hdn 29 (by kernel_rfl))
        have e42 := hI.v42 (hdn 42 (by kernel_rfl))
        simp only [putsF, List.foldl_cons, List.foldl_nil, Act.put, List.setIfInBounds_toArray, List.set_cons_zero, List.set_cons_succ] at hK ⊢
        simp only [e29, e42] at hK ⊢
        go_wp2_with fail
        exact hK.out _ _ ⟨hI.bl, hI.v0, hI.v1, hI.v2, hI.v3, hI.v4, hI.v5, hI.v6, hI.v7, hI.v8, hI.v9, hI.v10, hI.v11, hI.v12, hI.v13, hI.v14, hI.v15, hI.v16, hI.v17, hI.v18, hI.v19, hI.v20, hI.v21, hI.v22, hI.v23, hI.v24, hI.v25, hI.v26, hI.v27, hI.v28, hI.v29, hI.v30, hI.v31, hI.v32, hI.v33, hI.v34, hI.v35, hI.v36, hI.v37, hI.v38, hI.v39, hI.v40, hI.v41, hI.v42, fun _ => rfl, hI.v44, hI.v45, hI.v46, hI.v47⟩
      case sx44 =>
        intro xs done y hI hd0 hup hdn K hK
        refine wpOp_go (o := ⟨some 185, _, _, _, _, _⟩) rfl rfl ?_
        have e43 := hI.v43 (hdn 43 (by kernel_rfl))
        simp only [putsF, List.foldl_cons, List.foldl_nil, Act.put, List.setIfInBounds_toArray, List.set_cons_zero, List.set_cons_succ] at hK ⊢
        simp only [e43] at hK ⊢
        go_wp2_with fail
        exact hK.out _ _ ⟨hI.bl, hI.v0, hI.v1, hI.v2, hI.v3, hI.v4, hI.v5, hI.v6, hI.v7, hI.v8, hI.v9, hI.v10, hI.v11, hI.v12, hI.v13, hI.v14, hI.v15, hI.v16, hI.v17, hI.v18, hI.v19, hI.v20, hI.v21, hI.v22, hI.v23, hI.v24, hI.v25, hI.v26, hI.v27, hI.v28, hI.v29, hI.v30, hI.v31, hI.v32, hI.v33, hI.v34, hI.v35, hI.v36, hI.v37, hI.v38, hI.v39, hI.v40, hI.v41, hI.v42, hI.v43, fun _ => rfl, hI.v45, hI.v46, hI.v47⟩
      case sx45 =>
        intro xs done y hI hd0 hup hdn K hK
        have e44 := hI.v44 (hdn 44 (by kernel_rfl))
        simp only [putsF, List.foldl_cons, List.foldl_nil, Act.put, List.setIfInBounds_toArray, List.set_cons_zero, List.set_cons_succ] at hK ⊢
        refine wpOp_run (o := ⟨some 186, _, _, _, _, _⟩) rfl rfl rfl (congrArg some e44) ?_
        simp only [e44] at hK ⊢
        have hq := HWq.out y hI.bl
        go_wp2_with (go_at_call 17; with_reducible refine hq.mono ?_; rintro e z ⟨rfl, hb4⟩)
        exact hK.out _ _ ⟨hb4, hI.v0, hI.v1, hI.v2, hI.v3, hI.v4, hI.v5, hI.v6, hI.v7, hI.v8, hI.v9, hI.v10, hI.v11, hI.v12, hI.v13, hI.v14, hI.v15, hI.v16, hI.v17, hI.v18, hI.v19, hI.v20, hI.v21, hI.v22, hI.v23, hI.v24, hI.v25, hI.v26, hI.v27, hI.v28, hI.v29, hI.v30, hI.v31, hI.v32, hI.v33, hI.v34, hI.v35, hI.v36, hI.v37, hI.v38, hI.v39, hI.v40, hI.v41, hI.v42, hI.v43, hI.v44, fun _ => rfl, hI.v46, hI.v47⟩
      case sx46 =>
        intro xs done y hI hd0 hup hdn K hK
        refine wpOp_go (o := ⟨some 187, _, _, _, _, _⟩) rfl rfl ?_
        have e44 := hI.v44 (hdn 44 (by kernel_rfl))
        have e45 := hI.v45 (hdn 45 (by kernel_rfl))
        simp only [putsF, List.foldl_cons, List.foldl_nil, Act.put, List.setIfInBounds_toArray, List.set_cons_zero, List.set_cons_succ] at hK ⊢
        simp only [e44, e45] at hK ⊢
        go_wp2_with fail
        exact hK.out _ _ ⟨hI.bl, hI.v0, hI.v1, hI.v2, hI.v3, hI.v4, hI.v5, hI.v6, hI.v7, hI.v8, hI.v9, hI.v10, hI.v11, hI.v12, hI.v13, hI.v14, hI.v15, hI.v16, hI.v17, hI.v18, hI.v19, hI.v20, hI.v21, hI.v22, hI.v23, hI.v24, hI.v25, hI.v26, hI.v27, hI.v28, hI.v29, hI.v30, hI.v31, hI.v32, hI.v33, hI.v34, hI.v35, hI.v36, hI.v37, hI.v38, hI.v39, hI.v40, hI.v41, hI.v42, hI.v43, hI.v44, hI.v45, fun _ => rfl, hI.v47⟩
      case sx47 =>
        intro xs done y hI hd0 hup hdn K hK
        refine wpOp_go (o := ⟨some 6, _, _, _, _, _⟩) rfl rfl ?_
        have e46 := hI.v46 (hdn 46 (by kernel_rfl))
        simp only [putsF, List.foldl_cons, List.foldl_nil, Act.put, List.setIfInBounds_toArray, List.set_cons_zero, List.set_cons_succ] at hK ⊢
        simp only [e46] at hK ⊢
        go_wp2_with fail
        exact hK.out _ _ ⟨hI.bl, hI.v0, hI.v1, hI.v2, hI.v3, hI.v4, hI.v5, hI.v6, hI.v7, hI.v8, hI.v9, hI.v10, hI.v11, hI.v12, hI.v13, hI.v14, hI.v15, hI.v16, hI.v17, hI.v18, hI.v19, hI.v20, hI.v21, hI.v22, hI.v23, hI.v24, hI.v25, hI.v26, hI.v27, hI.v28, hI.v29, hI.v30, hI.v31, hI.v32, hI.v33, hI.v34, hI.v35, hI.v36, hI.v37, hI.v38, hI.v39, hI.v40, hI.v41, hI.v42, hI.v43, hI.v44, hI.v45, hI.v46, fun _ => rfl⟩
      case finx =>
        intro xs done y2 hI hdn
        have HBz := Lib.hid (HBY3.out.trans (hI.bl.mono HBY3.out.size))
        have e47 := hI.v47 (hdn 47 (by decide))
        clear hI hdn
        simp only [putsF, List.foldl_cons, List.foldl_nil, Act.put, List.setIfInBounds_toArray, List.set_cons_zero, List.set_cons_succ]
        simp only [e47]
        clear e47
        go_wp2_with fail
        go_ret
        exact ⟨rfl, HBz.out⟩
end Go.Proofs.Ytaocgkmobfocjaa
