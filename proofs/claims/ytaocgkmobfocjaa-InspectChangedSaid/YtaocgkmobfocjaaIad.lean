/- Contracts of inspect's mix, seals and changed. Conditions: a log that reads as data. -/
import Derived.Test.YtaocgkmobfocjaaIab
namespace Go.Proofs.Ytaocgkmobfocjaa
open Go.RowKit

theorem i64w (x : Int) : IntKind.i64.wrap x = wrap64 x := by rw [IntKind.wrap_i64]; unfold wrap64; rfl
def mixS (s n : Int) : Int := (wrap64 (wrap64 (s * 31) + n)).tmod 1000003
def mixL (s : Int) (ns : List Int) : Int := ns.foldl mixS s
theorem mixL_snoc (s : Int) (ns : List Int) {n : Nat} (h : n < ns.length) : mixL s (ns.take (n + 1)) = mixS (mixL s (ns.take n)) ns[n] := by
  unfold mixL
  rw [List.take_succ_eq_append_getElem h, List.foldl_append]; rfl
theorem mixS_bd (s n : Int) : -1000003 < mixS s n ∧ mixS s n < 1000003 := by
  unfold mixS
  have h1 := Int.tmod_lt_of_pos (wrap64 (wrap64 (s * 31) + n)) (show (0 : Int) < 1000003 by decide)
  have h2 := Int.lt_tmod_of_pos (wrap64 (wrap64 (s * 31) + n)) (show (0 : Int) < 1000003 by decide)
  omega
set_option maxRecDepth 100000 in
set_option maxHeartbeats 1000000 in
theorem mix_any (s : Int) (ns : List Int) (A : Option Addr) (c B : Nat) (w : World) (hB : B ≤ w.heap.size) (hl : ns.length ≤ maxLen) (hr : Reads w B 1 A ns.length (ns.map (Value.int .i64))) :
    Calls Try.prog 84 #[.int .i64 s, .slice A ns.length c] w fun e w' => e = .returned (.int .i64 (mixL s ns)) ∧ w' = w := by
  have HR := Lib.hid hr
  unfold maxLen at hl
  clear hr
  go_enter Try.func84, Try.ntmps84
  go_wp2_with fail
  go_loopw [0, 9] (fun v q wr => ∃ n : Nat, n ≤ ns.length ∧ q = .int .i64 n ∧ v = .int .i64 (mixL s (ns.take n)) ∧ wr = w) (fun _ q _ => ns.length - (intOf q).toNat)
  case atStart => exact ⟨0, Nat.zero_le _, rfl, rfl, rfl⟩
  case round =>
    obtain ⟨n, hn, rfl, rfl, rfl⟩ := hrel
    by_cases hlt : n < ns.length
    · have n1 : (n : Int) < (ns.length : Int) := by omega
      have n0 : ¬ (n : Int) < 0 := by omega
      have en : IntKind.i64.wrap ((n : Int) + 1) = (n : Int) + 1 := IntWalk.i64_in _ (by omega)
      obtain ⟨b, o, rfl, lb, hc⟩ := HR.out.2 (by omega)
      have x0 := hc n _ (show (ns.map (Value.int .i64))[n]? = some (.int .i64 ns[n]) by rw [List.getElem?_map, List.getElem?_eq_getElem hlt]; rfl)
      have lb2 : b < wr.heap.size := by omega
      have HM := Lib.hid (mixL_snoc s ns hlt)
      generalize ns[n] = x at x0 HM
      generalize mixL s (ns.take n) = t at HM ⊢
      have HS : Hid (mixS t x = (wrap64 (wrap64 (t * 31) + x)).tmod 1000003) := rfl
      have hbd := mixS_bd t x
      generalize mixS t x = d at HM HS hbd
      obtain ⟨p, hp⟩ : ∃ p, p = wrap64 (t * 31) := ⟨_, rfl⟩
      rw [← hp] at HS
      obtain ⟨q, hq⟩ : ∃ q, q = wrap64 (p + x) := ⟨_, rfl⟩
      rw [← hq] at HS
      have e1 : IntKind.i64.wrap (t * 31) = p := (i64w _).trans hp.symm
      have e2 : IntKind.i64.wrap (p + x) = q := (i64w _).trans hq.symm
      have e3 : q.tmod 1000003 = d := HS.out.symm
      have e4 : IntKind.i64.wrap d = d := IntWalk.i64_in _ (by omega)
      have e5 : IntKind.i64.wrap (q.tmod 1000003) = d := by rw [e3]; exact e4
      clear hc HS hbd hp hq hB
      go_wp2_with fail
      go_roundw
      case rel => exact ⟨n + 1, by omega, by go_num, by rw [HM.out], (by first | rfl | trivial)⟩
      case measure => simp [intOf]; omega
    · have en : n = ns.length := by omega
      have n1 : ¬ (n : Int) < (ns.length : Int) := by omega
      have HE : Hid (mixL s (ns.take n) = mixL s ns) := by show _ = _; rw [en, List.take_length]
      clear en
      go_wp2_with fail
      go_ret
      exact ⟨ret_intI HE.out, rfl⟩
def fldL (x : EntZ) : List Int := [x.day, x.kind, wrap64 (x.a + 1), wrap64 (x.b + 1), wrap64 (x.c + 1)]
/-- The seal behind so many entries. -/
def selN (l : List EntZ) : Nat → Int
  | 0 => 7
  | n + 1 => mixL (selN l n) (fldL (l.getD n default))
def selL (l : List EntZ) (n : Nat) : List Int := (List.range n).map fun i => selN l (i + 1)
theorem selL_succ (l : List EntZ) (n : Nat) : selL l (n + 1) = selL l n ++ [selN l (n + 1)] := by simp [selL, List.range_succ]
theorem selL_len (l : List EntZ) (n : Nat) : (selL l n).length = n := by simp [selL]
set_option maxRecDepth 100000 in
set_option maxHeartbeats 2000000 in
theorem seals_any (k : BookZ) (R : BkR) (l : List EntZ) (A : Option Addr) (c B : Nat) (w : World) (hB : B ≤ w.heap.size) (hl : l.length ≤ 1000) (hr : Reads w B 5 A l.length (entCells l)) :
    Calls Try.prog 67 #[logV k R l A c] w (NumsTo w (selL l l.length)) := by
  obtain ⟨W, hW⟩ : ∃ W, W = w.alloc (.cells #[.slice R.A1 k.rules.length R.c1, .slice R.A2 k.ranks.length R.c2, .slice R.A3 k.insured.length R.c3, .slice A l.length c] 66) := ⟨_, rfl⟩
  have bW : Below w.heap.size w W := by subst hW; exact (Below.refl _ _).alloc (Nat.le_refl _) _
  have gW : Row W w.heap.size 66 [.slice R.A1 k.rules.length R.c1, .slice R.A2 k.ranks.length R.c2, .slice R.A3 k.insured.length R.c3, .slice A l.length c] := by subst hW; exact Row.new w _ _
  obtain ⟨zg, hzg⟩ : ∃ z, z = w.heap.size := ⟨_, rfl⟩
  rw [← hzg] at gW
  have g3 : W.cell? ⟨zg, 3, none⟩ = some (.slice A l.length c) := gW.cell (j := 3) (by simp)
  have lW := gW.lt
  have HBW := Lib.hid bW
  have HEc := ent_cells hr
  have HBB : Hid (B ≤ w.heap.size) := hB
  have HMx : Hid (∀ (s : Int) (x : EntZ) (X : World) (c : Nat), Calls Try.prog 84 #[.int .i64 s, .slice (some ⟨X.heap.size, 0, none⟩) 5 c] (X.alloc (.cells #[.int .i64 x.day, .int .i64 x.kind, .int .i64 (wrap64 (x.a + 1)), .int .i64 (wrap64 (x.b + 1)), .int .i64 (wrap64 (x.c + 1))] 3)) fun e w' => e = .returned (.int .i64 (mixL s (fldL x))) ∧ w' = X.alloc (.cells #[.int .i64 x.day, .int .i64 x.kind, .int .i64 (wrap64 (x.a + 1)), .int .i64 (wrap64 (x.b + 1)), .int .i64 (wrap64 (x.c + 1))] 3)) := fun s x X c =>
    mix_any s (fldL x) (some ⟨X.heap.size, 0, none⟩) c _ _ (Nat.le_refl _) (by show 5 ≤ maxLen; decide) ((Row.new X 3 #[.int .i64 x.day, .int .i64 x.kind, .int .i64 (wrap64 (x.a + 1)), .int .i64 (wrap64 (x.b + 1)), .int .i64 (wrap64 (x.c + 1))]).reads (n := 5) (size := 1) rfl (by simp))
  obtain ⟨i0, hi, hz0, hz1, hz2⟩ := info_parts Try.info_intI
  unfold logV at *
  clear bW gW hr hB
  go_enter Try.func67, Try.ntmps67
  go_upto_region 1 with fail
  rw [← hW, ← hzg]
  clear hW hzg
  go_wp2_with fail
  go_loopw [3, 4, 10] (fun v s q wr => ∃ n : Nat, n ≤ l.length ∧ q = .int .i64 n ∧ s = .int .i64 (selN l n) ∧ wr.ownsRow W.heap.size 3 1 v (selL l n).length ((selL l n).map (Value.int .i64)) ∧ Below W.heap.size W wr) (fun _ _ q _ => l.length - (intOf q).toNat)
  case atStart => exact ⟨0, Nat.zero_le _, rfl, rfl, owns_nil _ _ _ _, Below.refl _ _⟩
  case round =>
    obtain ⟨n, hn, rfl, rfl, hown, hbel⟩ := hrel
    have HBr := Lib.hid (HBW.out.trans (hbel.mono HBW.out.size))
    have HBL := Lib.hid hbel
    have HOw := Lib.hid hown
    by_cases hlt : n < l.length
    · have n1 : (n : Int) < (l.length : Int) := by omega
      have n0 : ¬ (n : Int) < 0 := by omega
      have en : IntKind.i64.wrap ((n : Int) + 1) = (n : Int) + 1 := IntWalk.i64_in _ (by omega)
      obtain ⟨b, o, hA, lb, x0, x1, x2, x3, x4⟩ := HEc.out n hlt wr (HBr.out.mono HBB.out) (Nat.le_trans HBB.out HBr.out.size)
      have HSn : Hid (selN l (n + 1) = mixL (selN l n) (fldL (l.getD n default))) := rfl
      rw [ent_getD hlt] at HSn
      have HLn := Lib.hid (selL_succ l n)
      have hln := selL_len l n
      have hl9 : (selL l n).length ≤ 1000 := by omega
      clear hln
      generalize l[n] = x at x0 x1 x2 x3 x4 HSn
      have HM1 := Lib.hid (HMx.out (selN l n) x)
      generalize mixL (selN l n) (fldL x) = d at HM1 HSn
      rw [HSn.out] at HLn
      generalize selN l n = s at HM1 ⊢
      generalize selL l n = L at hl9 HOw HLn
      have ea : IntKind.i64.wrap (x.a + 1) = wrap64 (x.a + 1) := i64w _
      have eb : IntKind.i64.wrap (x.b + 1) = wrap64 (x.b + 1) := i64w _
      have ec : IntKind.i64.wrap (x.c + 1) = wrap64 (x.c + 1) := i64w _
      generalize wrap64 (x.a + 1) = ya at HM1 ea
      generalize wrap64 (x.b + 1) = yb at HM1 eb
      generalize wrap64 (x.c + 1) = yc at HM1 ec
      subst hA
      have bY := HBL.out.alloc HBL.out.size (.cells #[.int .i64 x.day, .int .i64 x.kind, .int .i64 x.a, .int .i64 x.b, .int .i64 x.c] 54)
      have rY := Row.new wr 54 #[.int .i64 x.day, .int .i64 x.kind, .int .i64 x.a, .int .i64 x.b, .int .i64 x.c]
      have oY := owns_alloc HOw.out (.cells #[.int .i64 x.day, .int .i64 x.kind, .int .i64 x.a, .int .i64 x.b, .int .i64 x.c] 54)
      clear hown hbel
      go_upto_region 6 with fail
      generalize wr.alloc (.cells #[.int .i64 x.day, .int .i64 x.kind, .int .i64 x.a, .int .i64 x.b, .int .i64 x.c] 54) = Y at bY rY oY ⊢
      generalize wr.heap.size = ze at rY ⊢
      have y0 : Y.cell? ⟨ze, 0, none⟩ = some (.int .i64 x.day) := rY.cell (j := 0) (by simp)
      have y1 : Y.cell? ⟨ze, 1, none⟩ = some (.int .i64 x.kind) := rY.cell (j := 1) (by simp)
      have y2 : Y.cell? ⟨ze, 2, none⟩ = some (.int .i64 x.a) := rY.cell (j := 2) (by simp)
      have y3 : Y.cell? ⟨ze, 3, none⟩ = some (.int .i64 x.b) := rY.cell (j := 3) (by simp)
      have y4 : Y.cell? ⟨ze, 4, none⟩ = some (.int .i64 x.c) := rY.cell (j := 4) (by simp)
      have lY := rY.lt
      have HBY := Lib.hid bY
      have HOY := Lib.hid oY
      have HM2 := Lib.hid (HM1.out Y)
      clear bY rY oY x0 x1 x2 x3 x4 HM1
      go_upto_region 7 with (go_at_call 84; refine (HM2.out _).mono ?_; rintro e w' ⟨rfl, hw⟩; rw [hw]; clear hw)
      have bZ := HBY.out.alloc HBY.out.size (.cells #[.int .i64 x.day, .int .i64 x.kind, .int .i64 ya, .int .i64 yb, .int .i64 yc] 3)
      have oZ := owns_alloc HOY.out (.cells #[.int .i64 x.day, .int .i64 x.kind, .int .i64 ya, .int .i64 yb, .int .i64 yc] 3)
      generalize Y.alloc (.cells #[.int .i64 x.day, .int .i64 x.kind, .int .i64 ya, .int .i64 yb, .int .i64 yc] 3) = Z at bZ oZ ⊢
      have HBZ := Lib.hid bZ
      have hws := bZ.size
      have m1 : L.length + 1 ≤ maxLen := by unfold maxLen; omega
      have m2 : (L.length + 1) * 8 ≤ 140737488355328 := by omega
      clear HM2 y0 y1 y2 y3 y4 lY bZ
      go_wp2_with (at_builtin; refine wpList_app _ rfl _ _ 23 rfl W.heap.size 3 i0 (.int .i64 0) 1 8 Try.underlying23 hi hz0 hz1 hz2 rfl (by decide) u3 L.length (L.map (Value.int .i64)) rfl ?qo (Z.heap.size + 1) (some ⟨Z.heap.size, 0, none⟩) 1 1 ([d].map (Value.int .i64)) rfl ?qr ?q1 m1 m2 ?qb ?_)
      case qo => first | exact owns_alloc oZ _ | exact owns_alloc (owns_drewN oZ _) _ | exact owns_drewN (owns_alloc oZ _) _
      case qr =>
        refine Row.reads (t := 3) ?_ rfl (by omega)
        show Row _ _ _ [.int .i64 d]
        first | exact row_oneI _ _ _ _ (by simp; done) | exact (row_oneI _ _ _ _ (by simp; done)).drewN _
      case q1 => first | rfl | (intro u hu; simp at hu; subst hu; rfl)
      case qb => first | exact hws | (have := hws; omega) | (have := hws; simp; omega)
      intro v' w1 hown' hbel'
      have HB1 : Hid (Below W.heap.size W w1) := by
        refine Below.trans ?_ hbel'
        repeat (first | (with_reducible exact HBZ.out) | (with_reducible exact hws) | (with_reducible refine below_drewN ?_ _) | (with_reducible refine Below.alloc ?_ ?_ _) | (simp; omega))
      go_wp2_with fail
      go_roundw
      case rel => exact ⟨n + 1, by omega, by go_num, by rw [HSn.out], by rw [HLn.out]; simpa using hown', HB1.out⟩
      case measure => simp [intOf]; omega
    · have en : n = l.length := by omega
      have n1 : ¬ (n : Int) < (l.length : Int) := by omega
      obtain ⟨A2, c2, rfl, hr2⟩ := own_readsI hown
      rw [en] at hr2
      have HEn := Lib.hid en
      have HR2 := Lib.hid hr2
      clear en hlt hr2 hown hbel
      go_wp2_with fail
      go_ret
      exact ⟨HBr.out, A2, c2, by rw [HEn.out]; rfl, HR2.out⟩
/-- Where two lists differ first; -1 if they are equal. -/
def ChgIs (a b : List Int) (r : Int) : Prop := (r = -1 ∧ a = b) ∨ ∃ i : Nat, r = (i : Int) ∧ (∀ j, j < i → a[j]? = b[j]?) ∧ a[i]? ≠ b[i]?
theorem chg_one {a b : List Int} {r s : Int} (h : ChgIs a b r) (k : ChgIs a b s) : r = s := by
  rcases h with ⟨rfl, h⟩ | ⟨i, rfl, h1, h2⟩ <;> rcases k with ⟨rfl, k⟩ | ⟨j, rfl, k1, k2⟩
  · rfl
  · exact absurd (by rw [h]) k2
  · exact absurd (by rw [k]) h2
  · rcases Nat.lt_trichotomy i j with q | q | q
    · exact absurd (k1 i q) h2
    · rw [q]
    · exact absurd (h1 j q) k2
theorem chg_same {a b : List Int} (hl : a.length = b.length) (h : ∀ j, j < a.length → a[j]? = b[j]?) : a = b := List.ext_getElem? fun j => by
  rcases Nat.lt_or_ge j a.length with q | q
  · exact h j q
  · rw [List.getElem?_eq_none q, List.getElem?_eq_none (by omega)]
theorem chg_len {a b : List Int} {n : Nat} (h1 : a.length ≠ b.length) (h2 : n = min a.length b.length) : a[n]? ≠ b[n]? := by
  rcases Nat.lt_or_ge a.length b.length with q | q
  · rw [List.getElem?_eq_none (by omega), List.getElem?_eq_getElem (show n < b.length by omega)]; simp
  · rw [List.getElem?_eq_getElem (show n < a.length by omega), List.getElem?_eq_none (show b.length ≤ n by omega)]; simp
set_option maxRecDepth 100000 in
set_option maxHeartbeats 2000000 in
theorem changed_any (k : BookZ) (R : BkR) (l : List EntZ) (A : Option Addr) (c B : Nat) (zs : List Int) (A2 : Option Addr) (c2 : Nat) (w : World) (hB : B ≤ w.heap.size) (hl : l.length ≤ 1000) (hr : Reads w B 5 A l.length (entCells l)) (hz : zs.length ≤ maxLen) (hrz : Reads w B 1 A2 zs.length (zs.map (Value.int .i64))) :
    Calls Try.prog 68 #[logV k R l A c, .slice A2 zs.length c2] w fun e w' => (∃ r, e = .returned (.int .i64 r) ∧ ChgIs (selL l l.length) zs r) ∧ Below w.heap.size w w' := by
  obtain ⟨W, hW⟩ : ∃ W, W = w.alloc (.cells #[.slice R.A1 k.rules.length R.c1, .slice R.A2 k.ranks.length R.c2, .slice R.A3 k.insured.length R.c3, .slice A l.length c] 66) := ⟨_, rfl⟩
  have bW : Below w.heap.size w W := by subst hW; exact (Below.refl _ _).alloc (Nat.le_refl _) _
  have gW : Row W w.heap.size 66 [.slice R.A1 k.rules.length R.c1, .slice R.A2 k.ranks.length R.c2, .slice R.A3 k.insured.length R.c3, .slice A l.length c] := by subst hW; exact Row.new w _ _
  obtain ⟨zg, hzg⟩ : ∃ z, z = w.heap.size := ⟨_, rfl⟩
  rw [← hzg] at gW
  have g0 : W.cell? ⟨zg, 0, none⟩ = some (.slice R.A1 k.rules.length R.c1) := gW.cell (j := 0) (by simp)
  have g1 : W.cell? ⟨zg, 1, none⟩ = some (.slice R.A2 k.ranks.length R.c2) := gW.cell (j := 1) (by simp)
  have g2 : W.cell? ⟨zg, 2, none⟩ = some (.slice R.A3 k.insured.length R.c3) := gW.cell (j := 2) (by simp)
  have g3 : W.cell? ⟨zg, 3, none⟩ = some (.slice A l.length c) := gW.cell (j := 3) (by simp)
  have lW := gW.lt
  have HBW := Lib.hid bW
  have HSe := Lib.hid (seals_any k R l A c B W (Nat.le_trans hB bW.size) hl (hr.below (bW.mono hB)))
  have HRz : Hid (∀ X, Below w.heap.size w X → Reads X B 1 A2 zs.length (zs.map (Value.int .i64))) := fun X hX => hrz.below (hX.mono hB)
  have hm := selL_len l l.length
  generalize selL l l.length = L at HSe hm ⊢
  rw [show l.length = L.length from hm.symm] at hl
  have HBB : Hid (B ≤ w.heap.size) := hB
  unfold maxLen at hz
  unfold logV at *
  clear bW gW hr hB hm hrz
  go_enter Try.func68, Try.ntmps68
  go_upto_region 1 with fail
  rw [← hW, ← hzg]
  clear hW hzg
  go_upto_region 2 with (go_at_call 67; refine HSe.out.mono ?_; rintro e X ⟨hX, A3, c3, rfl, hr3⟩)
  have HX := Lib.hid (HBW.out.trans (hX.mono HBW.out.size))
  have HR3 := Lib.hid hr3
  clear hX hr3 HSe g0 g1 g2 g3 lW
  obtain ⟨m, hmm⟩ : ∃ m : Nat, m = min L.length zs.length := ⟨_, rfl⟩
  have em : min (L.length : Int) (zs.length : Int) = (m : Int) := by omega
  have em2 : (if (zs.length : Int) < (L.length : Int) then (zs.length : Int) else (L.length : Int)) = (m : Int) := by split <;> omega
  have HMm := Lib.hid hmm
  clear hmm
  have HEm := Lib.hid em
  clear em em2
  go_cut [13, 14] (fun s s14 wx => s = .int .i64 (m : Int) ∧ s14 = .int .i64 0 ∧ wx = X)
  case first =>
    go_wp2_with fail
    all_goals go_meet
    all_goals exact ⟨int_eqI (by have := HMm.out; omega), by first | rfl | trivial, by first | rfl | trivial⟩
  case rest =>
    obtain ⟨rfl, rfl, hwz⟩ := hcut
    subst hwz
    first | (obtain ⟨X, rfl⟩ : ∃ x : World, x = wc := ⟨_, rfl⟩) | skip
    go_wp2_with fail
    go_loopw [14] (fun q wr => ∃ n : Nat, n ≤ m ∧ q = .int .i64 n ∧ Hid (∀ j, j < n → L[j]? = zs[j]?) ∧ Below X.heap.size X wr) (fun q _ => m - (intOf q).toNat)
    case atStart => exact ⟨0, Nat.zero_le _, rfl, fun j hj => absurd hj (Nat.not_lt_zero _), Below.refl _ _⟩
    case round =>
      obtain ⟨n, hn, rfl, Hall, hbel⟩ := hrel
      have HBr := Lib.hid (HX.out.trans (hbel.mono HX.out.size))
      have HBl := Lib.hid hbel
      have hmL : m ≤ L.length := by have := HMm.out; omega
      have hmZ : m ≤ zs.length := by have := HMm.out; omega
      by_cases hlt : n < m
      · have n1 : (n : Int) < (m : Int) := by omega
        have n0 : ¬ (n : Int) < 0 := by omega
        have nL : (n : Int) < (L.length : Int) := by omega
        have nZ : (n : Int) < (zs.length : Int) := by omega
        have en : IntKind.i64.wrap ((n : Int) + 1) = (n : Int) + 1 := IntWalk.i64_in _ (by omega)
        obtain ⟨b3, o3, rfl, lb3, hc3⟩ := (HR3.out.below hbel).2 (by omega)
        obtain ⟨b2, o2, rfl, lb2, hc2⟩ := (HRz.out wr HBr.out).2 (by omega)
        have x3 := hc3 n _ (show (L.map (Value.int .i64))[n]? = some (.int .i64 L[n]) by rw [List.getElem?_map, List.getElem?_eq_getElem (by omega)]; rfl)
        have x2 := hc2 n _ (show (zs.map (Value.int .i64))[n]? = some (.int .i64 zs[n]) by rw [List.getElem?_map, List.getElem?_eq_getElem (by omega)]; rfl)
        have l3 : b3 < wr.heap.size := Nat.lt_of_lt_of_le lb3 hbel.size
        have l2 : b2 < wr.heap.size := by have := HBr.out.size; have := HBB.out; omega
        have EL : Hid (L[n]? = some L[n]) := List.getElem?_eq_getElem _
        have EZ : Hid (zs[n]? = some zs[n]) := List.getElem?_eq_getElem _
        generalize L[n] = xl at x3 EL
        generalize zs[n] = xz at x2 EZ
        clear hc3 hc2 hbel hlt hmL hmZ lb3 lb2
        by_cases he : xl = xz
        · subst he
          have HA : Hid (∀ j, j < n + 1 → L[j]? = zs[j]?) := fun j hj => by
            rcases Nat.lt_or_ge j n with q | q
            · exact Hall.out j q
            · rw [show j = n by omega, EL.out, EZ.out]
          go_upto_region 5 with fail
          go_quiet (fail)
          go_wp2_with fail
          go_roundw
          case rel => exact ⟨n + 1, by omega, by go_num, HA, below_drewN HBl.out _⟩
          case measure => simp [intOf]; omega
        · have HC : Hid (ChgIs L zs (n : Int)) := .inr ⟨n, rfl, Hall.out, by rw [EL.out, EZ.out]; intro h; injection h with h; exact he h⟩
          have d1 : decide (xl = xz) = false := decide_eq_false he
          have d2 : (xl == xz) = false := by simpa using he
          clear EL EZ Hall
          go_upto_region 5 with fail
          go_quiet (fail)
          go_wp2_with fail
          go_ret
          exact ⟨⟨_, rfl, HC.out⟩, below_drewN HBr.out _⟩
      · have HN : Hid (n = m) := by show _ = _; omega
        have n1 : ¬ (n : Int) < (m : Int) := by omega
        by_cases hle : L.length = zs.length
        · have HC : Hid (ChgIs L zs (-1)) := .inl ⟨rfl, chg_same hle fun j hj => Hall.out j (by have := HN.out; have := HMm.out; omega)⟩
          have d1 : decide ((L.length : Int) = (zs.length : Int)) = true := decide_eq_true (by omega)
          have d2 : ((L.length : Int) == (zs.length : Int)) = true := by simp; omega
          have d3 : (L.length : Int) = (zs.length : Int) := by omega
          clear hlt hle hmL hmZ
          go_wp2_with fail
          go_ret
          exact ⟨⟨_, rfl, HC.out⟩, HBr.out⟩
        · have HC : Hid (ChgIs L zs (m : Int)) := .inr ⟨m, rfl, fun j hj => Hall.out j (by have := HN.out; omega), chg_len hle HMm.out⟩
          have d1 : decide ((L.length : Int) = (zs.length : Int)) = false := decide_eq_false (by omega)
          have d2 : ((L.length : Int) == (zs.length : Int)) = false := by simp; omega
          have HCm : Hid (∀ r : Int, r = (m : Int) → ChgIs L zs r) := fun r h => by rw [h]; exact HC.out
          clear hlt hle hmL hmZ
          go_wp2_with fail
          all_goals go_ret
          all_goals exact ⟨⟨_, rfl, HCm.out _ (by have := HMm.out; omega)⟩, HBr.out⟩
end Go.Proofs.Ytaocgkmobfocjaa
