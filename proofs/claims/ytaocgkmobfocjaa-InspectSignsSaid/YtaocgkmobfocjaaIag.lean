/- Contract of the specification's Until. Conditions: a book and entries that read as data. -/
import Derived.Test.YtaocgkmobfocjaaIaf
namespace Go.Proofs.Ytaocgkmobfocjaa
open Go.RowKit

theorem Try.info_entI : (Try.prog.info? 54).map (fun i => (i.zero, i.size, i.bytes)) = some (some (.agg #[.int .i64 0, .int .i64 0, .int .i64 0, .int .i64 0, .int .i64 0]), 5, 40) := by kernel_rfl
theorem ents_ones (l : List EntZ) : ∀ u ∈ entCells l, u.oneCell' = true := by
  intro u hu
  simp only [entCells, List.mem_flatMap] at hu
  obtain ⟨x, -, hx⟩ := hu
  simp [entL] at hx
  rcases hx with rfl | rfl | rfl | rfl | rfl <;> rfl
theorem own_base {w : World} {b b' : Nat} {e : TypeId} {size n : Nat} {v : Value} {xs : List Value} (h : w.ownsRow b e size v n xs) (hb : b' ≤ b) : w.ownsRow b' e size v n xs := by
  refine ⟨h.1, ?_⟩
  rcases h.2 with hn | ⟨g, cap, cur, hv, hg, rest⟩
  · exact .inl hn
  · exact .inr ⟨g, cap, cur, hv, by omega, rest⟩
theorem BkIn.more {w : World} {B B' : Nat} {k : BookZ} {R : BkR} (h : BkIn w B k R) (hB : B ≤ B') : BkIn w B' k R := ⟨h.rules.more hB, h.ranks.more hB, h.insured.more hB, h.l1, h.l2, h.l3⟩
theorem sev_test {k : BookZ} {l : List EntZ} (h : LogOk k l) (ride : Nat) (d : Int) : ∀ j, j < (l ++ [tstE ride d]).length → openS (l ++ [tstE ride d]) (j : Int) = true → 0 ≤ ((l ++ [tstE ride d]).getD j default).b ∧ ((l ++ [tstE ride d]).getD j default).b ≤ 3 := by
  intro j hj ho
  rw [openS_snoc4 (by simp [tstE])] at ho
  have hl := (openS_kind ho).1
  have hs := h.sev j hl ho
  have e : (l ++ [tstE ride d]).getD j default = l.getD j default := by
    simp only [List.getD_eq_getElem?_getD, List.getElem?_append_left hl]
  rw [e]; exact hs
theorem wp_appO {P : Program} {w : World} {o : Oper} {a : Act} {K : Act → World → Prop} {Q : Exit → Act → World → Prop} (s x : Operand) (t : TypeId)
    (ho : o.op = .call { callee := .builtin .append, args := #[s, x], argTypes := #[t, t] })
    (base : Nat) (e : TypeId) (i : TypeInfo) (z : Value) (size bytes : Nat) (ht : P.underlying t = some (.slice e)) (hi : P.info? e = some i) (hz : i.zero = some z)
    (hsize : i.size = size) (hby : i.bytes = bytes) (hzs : z.cells.size = size) (hsz : 0 < size)
    (v : Value) (n : Nat) (xs : List Value) (hs : a.eval s = v) (hown : w.ownsRow base e size v n xs)
    (B : Nat) (A : Option Addr) (m c : Nat) (news : List Value) (hx : a.eval x = .slice A m c) (hr : Reads w B size A m news) (h1 : ∀ u ∈ news, u.oneCell' = true)
    (h63 : n + m ≤ maxLen) (hbytes : (n + m) * bytes ≤ 140737488355328) (hbase : base ≤ w.heap.size)
    (h : ∀ v' w', w'.ownsRow base e size v' (n + m) (xs ++ news) → Below base w w' → K (a.put o.dst v') w') : o.wp P a w K Q := by
  obtain ⟨v', w', hrun, h2, h3⟩ := run_app (P := P) w base t o.type e i z size bytes ht hi hz hsize hby hzs hsz v n xs hown B A m c news hr h1 h63 hbytes hbase
  unfold Oper.wp execOp
  simp only [ho, resolve, invoke, builtin, Sem.run_bind, Sem.run_pure, Result.andThen_ok, List.map_toArray, List.map_cons, List.map_nil, hs, hx, hrun]
  exact h v' w' h2 h3
def NoR (k : BookZ) (l : List EntZ) (i : Nat) (day d : Int) : Prop := ∀ x, day ≤ x → x < d → reaT k l i x = []
structure UnR (U : World) (k : BookZ) (R : BkR) (lu le : List EntZ) (A : Option Addr) (c nl : Nat) (ride d : Int) (done : Nat → Bool) (xs : Nat → Value) (y : World) : Prop where
  bl : Below U.heap.size U y
  m2 : done 2 = true → done 7 = false → y.ownsRow U.heap.size 54 5 (xs 2) lu.length (entCells lu)
  m6 : done 6 = true → done 7 = false → ∃ b, xs 6 = .slice (some ⟨b, 0, none⟩) 1 1 ∧ Row y b 54 [.int .i64 d, .int .i64 4, .int .i64 ride, .int .i64 0, .int .i64 0]
  m7 : done 7 = true → ∃ A2 c2, xs 7 = .slice A2 le.length c2 ∧ Reads y y.heap.size 5 A2 le.length (entCells le)
  m10 : done 10 = true → ∃ A3 c3, xs 10 = .slice A3 nl c3
  v0 : done 0 = true → xs 0 = .agg #[.slice R.A1 k.rules.length R.c1, .slice R.A2 k.ranks.length R.c2, .slice R.A3 k.insured.length R.c3]
  v1 : done 1 = true → xs 1 = .slice A lu.length c
  v3 : done 3 = true → xs 3 = .int .i64 d
  v4 : done 4 = true → xs 4 = .int .i64 ride
  v5 : done 5 = true → xs 5 = .agg #[.int .i64 d, .int .i64 4, .int .i64 ride, .int .i64 0, .int .i64 0]
  v8 : done 8 = true → xs 8 = .int .i64 ride
  v9 : done 9 = true → xs 9 = .int .i64 d
  v11 : done 11 = true → xs 11 = .int .i64 (nl : Int)
  v12 : done 12 = true → xs 12 = .bool (decide (0 < nl))
set_option maxRecDepth 100000 in
set_option maxHeartbeats 4000000 in
theorem rUntil_any (k : BookZ) (R : BkR) (l : List EntZ) (A : Option Addr) (c B : Nat) (ride day : Int) (w : World) (hB : B ≤ w.heap.size) (hl : l.length ≤ maxLen) (hlc : l.length ≤ c) (hr : Reads w B 5 A l.length (entCells l)) (hk : BkIn w B k R) :
    Calls Try.prog 31 #[bookV k R, .slice A l.length c, .int .i64 ride, .int .i64 day] w (fun e w' => e = .returned (.tuple #[.int .i64 (untE (rideE k l ride day) (untS k (upL l day) ride.toNat day)).1, .int .i64 (untE (rideE k l ride day) (untS k (upL l day) ride.toNat day)).2]) ∧ Below w.heap.size w w') := by
  obtain ⟨W, hW⟩ : ∃ W, W = w.alloc (.cells #[.slice R.A1 k.rules.length R.c1, .slice R.A2 k.ranks.length R.c2, .slice R.A3 k.insured.length R.c3] 25) := ⟨_, rfl⟩
  have bW : Below w.heap.size w W := by subst hW; exact (Below.refl _ _).alloc (Nat.le_refl _) _
  have r0 : Row W w.heap.size 25 [.slice R.A1 k.rules.length R.c1, .slice R.A2 k.ranks.length R.c2, .slice R.A3 k.insured.length R.c3] := by subst hW; exact Row.new w _ _
  obtain ⟨zb, hzb⟩ : ∃ z, z = w.heap.size := ⟨_, rfl⟩
  rw [← hzb] at r0
  have q0 : W.cell? ⟨zb, 0, none⟩ = some (.slice R.A1 k.rules.length R.c1) := r0.cell (j := 0) (by simp)
  have q1 : W.cell? ⟨zb, 1, none⟩ = some (.slice R.A2 k.ranks.length R.c2) := r0.cell (j := 1) (by simp)
  have q2 : W.cell? ⟨zb, 2, none⟩ = some (.slice R.A3 k.insured.length R.c3) := r0.cell (j := 2) (by simp)
  have lW := r0.lt
  have HBW := Lib.hid bW
  have HR0 := Lib.hid r0
  have HCk := Lib.hid (rride_any k R l A c B ride day W (Nat.le_trans hB bW.size) hl hlc (hr.below (bW.mono hB)) (hk.below (bW.mono hB)))
  have HUp : Hid (∀ (X : World), Below w.heap.size w X → Calls Try.prog 40 #[.slice A l.length c, .int .i64 day] X fun e w' => e = .returned (.slice A (upL l day).length c) ∧ w' = X) := fun X hX => rUpto_any l A c B day X (Nat.le_trans hB hX.size) hl hlc (hr.below (hX.mono hB))
  have hul := upL_len (l := l) (day := day)
  have HRu : Hid (∀ (X : World), Below w.heap.size w X → Reads X B 5 A (upL l day).length (entCells (upL l day))) := fun X hX => ents_take (hr.below (hX.mono hB)) (upN_le l day)
  have HFo : Hid (LogOk k l → ∀ (i : Nat) (hi : i < k.insured.length) (d : Int) (hd : 0 ≤ d ∧ d ≤ 10000) (X : World) (A2 : Option Addr) (c2 : Nat), Below w.heap.size w X → Reads X X.heap.size 5 A2 (upL l day ++ [tstE i d]).length (entCells (upL l day ++ [tstE i d])) → Calls Try.prog 57 #[bookV k R, .slice A2 (upL l day ++ [tstE i d]).length c2, .int .i64 (i : Int), .int .i64 d] X fun e w' => Below X.heap.size X w' ∧ ∃ A3 c3, e = .returned (.slice A3 (reaT k (upL l day) i d).length c3)) := fun hok i hi d hd X A2 c2 hX h => (reasons_any k R (upL l day ++ [tstE i d]) A2 c2 X.heap.size i d X (Nat.le_refl _) (by have := hok.len; simp only [List.length_append, List.length_cons, List.length_nil]; omega) h ((hk.below (hX.mono hB)).more (Nat.le_trans hB hX.size)) hi (sev_test (hok.up day) i d)).mono fun e w' ⟨h1, A3, c3, h2, _⟩ => ⟨h1, A3, c3, by rw [h2, rea_test (hok.up day) hd]⟩
  have HEo := Lib.hid (fun h => rideE_ok (k := k) (l := l) (ride := ride) (day := day) h)
  obtain ⟨i0, hi, hz0, hz1, hz2⟩ := info_parts Try.info_entI
  generalize rideE k l ride day = E at HCk HEo ⊢
  unfold bookV at *
  clear bW r0 hk hr
  by_cases h0 : E = 0
  · have hok := HEo.out h0
    have HE0 : Hid (E = 0) := h0
    rw [h0] at HCk
    obtain ⟨i, hii⟩ : ∃ i, i = ride.toNat := ⟨_, rfl⟩
    have hrn : ride = (i : Int) := by omega
    have hil : i < k.insured.length := by omega
    rw [← hii]
    subst hrn
    have HF0 := Lib.hid (HFo.out hok.1 i hil)
    have HOu := Lib.hid (hok.1.up day)
    have hlu : (upL l day).length ≤ 100 := Nat.le_trans hul hok.1.len
    have hday := hok.2.1
    have h0d := hday.1
    generalize upL l day = lu at HUp HRu HF0 HOu hlu ⊢
    have m1 : 0 + lu.length ≤ maxLen := by unfold maxLen; omega
    have m2 : (0 + lu.length) * 40 ≤ 140737488355328 := by omega
    have m3 : lu.length + 1 ≤ maxLen := by unfold maxLen; omega
    have m4 : (lu.length + 1) * 40 ≤ 140737488355328 := by omega
    clear h0 hii hil HFo hok HEo hul hlu
    go_enter Try.func31, Try.ntmps31
    go_upto_region 1 with fail
    rw [← hW, ← hzb]
    clear hW hzb
    go_upto_region 4 with (go_at_call 59; refine HCk.out.mono ?_; rintro e X ⟨rfl, hX⟩)
    have HX := Lib.hid (HBW.out.trans (hX.mono HBW.out.size))
    have HSX := Lib.hid (HR0.out.below hX HR0.out.lt)
    have hru := HRu.out X HX.out
    clear hX HCk q0 q1 q2 lW
    go_wp2_with (first | (go_at_call 40; with_reducible refine (HUp.out X HX.out).mono ?_; rintro e w' ⟨rfl, hw⟩; rw [hw]; clear hw) | (at_builtin; refine wpList_app _ rfl _ _ 26 rfl X.heap.size 54 i0 (.agg #[.int .i64 0, .int .i64 0, .int .i64 0, .int .i64 0, .int .i64 0]) 5 40 Try.underlying26 hi hz0 hz1 hz2 rfl (by decide) (.slice none 0 0) 0 [] rfl (owns_nil _ _ _ _) B A lu.length c (entCells lu) rfl hru (ents_ones lu) m1 m2 (Nat.le_refl _) ?_))
    intro v' V hown' hbel'
    have hown2 : V.ownsRow X.heap.size 54 5 v' lu.length (entCells lu) := by simpa using hown'
    obtain ⟨A2, c2, hv, hrn⟩ := own_readsI hown2
    subst hv
    have HNow : Hid (∀ y, Below V.heap.size V y → Reads y V.heap.size 5 A2 lu.length (entCells lu)) := fun y hy => hrn.below hy
    have HBV := Lib.hid (HX.out.trans (hbel'.mono HX.out.size))
    have HSV := Lib.hid (HSX.out.below hbel' HSX.out.lt)
    clear hown' hown2 hbel' hrn hru HUp HRu HX HSX
    go_wp2_with fail
    go_loopw [12] (fun q wr => ∃ d : Int, q = .int .i64 d ∧ day ≤ d ∧ d ≤ 10001 ∧ Hid (NoR k lu i day d) ∧ Below V.heap.size V wr) (fun q _ => (10001 - intOf q).toNat)
    case atStart => exact ⟨day, rfl, by omega, by omega, fun x h1 h2 => by omega, Below.refl _ _⟩
    case round =>
      obtain ⟨d, rfl, hd1, hd2, hno, hbel⟩ := hrel
      have HBL := Lib.hid hbel
      have HBr := Lib.hid (HBV.out.trans (hbel.mono HBV.out.size))
      have HSB := Lib.hid (HSV.out.below hbel HSV.out.lt)
      clear hbel
      by_cases hle : d ≤ 10000
      · have en : IntKind.i64.wrap (d + 1) = d + 1 := IntWalk.i64_in _ (by omega)
        have HF := Lib.hid (HF0.out d ⟨by omega, hle⟩)
        have HT := Lib.hid (List.length_eq_zero_iff (l := reaT k lu i d))
        generalize (reaT k lu i d).length = nl at HF HT
        obtain ⟨le, hle2⟩ : ∃ le, le = lu ++ [tstE i d] := ⟨_, rfl⟩
        have HEl : Hid (le.length = lu.length + 1) := by show _ = _; rw [hle2]; simp
        have HEc : Hid (entCells le = entCells lu ++ [.int .i64 d, .int .i64 4, .int .i64 (i : Int), .int .i64 0, .int .i64 0]) := by show _ = _; rw [hle2]; simp [entCells, entL, tstE]
        rw [← hle2] at HF
        clear hle2
        go_upto_region 8 with fail
        refine wp_region_stepsY 13 (ord := [0, 1, 2, 3, 4, 5, 6, 7, 8, 9, 10, 11, 12]) (ds := [(0, 30), (1, 31), (2, 32), (3, 33), (4, 34), (5, 35), (6, 36), (7, 37), (8, 38), (9, 39), (10, 40), (11, 41), (12, 42)]) (I := UnR wr k R lu le A2 c2 nl (i : Int) d) (by kernel_rfl) (by kernel_rfl) rfl ?iz (StepsY.cons (k := 0) (k' := 1) (o := ⟨some 30, _, _, _, _, _⟩) rfl rfl ?sz0 (StepsY.cons (k := 1) (k' := 2) (o := ⟨some 31, _, _, _, _, _⟩) rfl rfl ?sz1 (StepsY.cons (k := 2) (k' := 3) (o := ⟨some 32, _, _, _, _, _⟩) rfl rfl ?sz2 (StepsY.cons (k := 3) (k' := 4) (o := ⟨some 33, _, _, _, _, _⟩) rfl rfl ?sz3 (StepsY.cons (k := 4) (k' := 5) (o := ⟨some 34, _, _, _, _, _⟩) rfl rfl ?sz4 (StepsY.cons (k := 5) (k' := 6) (o := ⟨some 35, _, _, _, _, _⟩) rfl rfl ?sz5 (StepsY.cons (k := 6) (k' := 7) (o := ⟨some 36, _, _, _, _, _⟩) rfl rfl ?sz6 (StepsY.cons (k := 7) (k' := 8) (o := ⟨some 37, _, _, _, _, _⟩) rfl rfl ?sz7 (StepsY.cons (k := 8) (k' := 9) (o := ⟨some 38, _, _, _, _, _⟩) rfl rfl ?sz8 (StepsY.cons (k := 9) (k' := 10) (o := ⟨some 39, _, _, _, _, _⟩) rfl rfl ?sz9 (StepsY.cons (k := 10) (k' := 11) (o := ⟨some 40, _, _, _, _, _⟩) rfl rfl ?sz10 (StepsY.cons (k := 11) (k' := 12) (o := ⟨some 41, _, _, _, _, _⟩) rfl rfl ?sz11 (StepsY.cons (k := 12) (k' := 13) (o := ⟨some 42, _, _, _, _, _⟩) rfl rfl ?sz12 StepsY.nil))))))))))))) ?finz
        case iz => exact fun xs => ⟨(Below.refl _ _).drew, fun h => Bool.noConfusion h, fun h => Bool.noConfusion h, fun h => Bool.noConfusion h, fun h => Bool.noConfusion h, fun h => Bool.noConfusion h, fun h => Bool.noConfusion h, fun h => Bool.noConfusion h, fun h => Bool.noConfusion h, fun h => Bool.noConfusion h, fun h => Bool.noConfusion h, fun h => Bool.noConfusion h, fun h => Bool.noConfusion h, fun h => Bool.noConfusion h⟩
        case sz0 =>
          intro xs done y hI hd0 hup hdn K hK
          refine wpOp_go (o := ⟨some 30, _, _, _, _, _⟩) rfl rfl ?_
          simp only [putsF, List.foldl_cons, List.foldl_nil, Act.put, List.setIfInBounds_toArray, List.set_cons_zero, List.set_cons_succ] at hK ⊢
          have rG := HSB.out.below hI.bl HSB.out.lt
          have lG := rG.lt
          have g0 : y.cell? ⟨zb, 0, none⟩ = some (.slice R.A1 k.rules.length R.c1) := rG.cell (j := 0) (by simp)
          have g1 : y.cell? ⟨zb, 1, none⟩ = some (.slice R.A2 k.ranks.length R.c2) := rG.cell (j := 1) (by simp)
          have g2 : y.cell? ⟨zb, 2, none⟩ = some (.slice R.A3 k.insured.length R.c3) := rG.cell (j := 2) (by simp)
          go_wp2_with fail
          exact hK.out _ _ ⟨hI.bl, hI.m2, hI.m6, hI.m7, hI.m10, fun _ => rfl, hI.v1, hI.v3, hI.v4, hI.v5, hI.v8, hI.v9, hI.v11, hI.v12⟩
        case sz1 =>
          intro xs done y hI hd0 hup hdn K hK
          refine wpOp_go (o := ⟨some 31, _, _, _, _, _⟩) rfl rfl ?_
          simp only [putsF, List.foldl_cons, List.foldl_nil, Act.put, List.setIfInBounds_toArray, List.set_cons_zero, List.set_cons_succ] at hK ⊢
          go_wp2_with fail
          exact hK.out _ _ ⟨hI.bl, hI.m2, hI.m6, hI.m7, hI.m10, hI.v0, fun _ => rfl, hI.v3, hI.v4, hI.v5, hI.v8, hI.v9, hI.v11, hI.v12⟩
        case sz2 =>
          intro xs done y hI hd0 hup hdn K hK
          refine wpOp_go (o := ⟨some 32, _, _, _, _, _⟩) rfl rfl ?_
          have e1 := hI.v1 (hdn 1 (by kernel_rfl))
          simp only [putsF, List.foldl_cons, List.foldl_nil, Act.put, List.setIfInBounds_toArray, List.set_cons_zero, List.set_cons_succ] at hK ⊢
          simp only [e1] at hK ⊢
          have hrn := HNow.out y (HBL.out.trans (hI.bl.mono HBL.out.size))
          refine wp_appO _ _ 26 rfl y.heap.size 54 i0 (.agg #[.int .i64 0, .int .i64 0, .int .i64 0, .int .i64 0, .int .i64 0]) 5 40 Try.underlying26 hi hz0 hz1 hz2 rfl (by decide) (.slice none 0 0) 0 [] rfl (owns_nil _ _ _ _) V.heap.size A2 lu.length c2 (entCells lu) rfl hrn (ents_ones lu) m1 m2 (Nat.le_refl _) ?_
          intro v' w1 hown' hbel'
          have ho2 : w1.ownsRow wr.heap.size 54 5 v' lu.length (entCells lu) := own_base (by simpa using hown') hI.bl.size
          simp only [Act.put, List.setIfInBounds_toArray, List.set_cons_zero, List.set_cons_succ]
          exact hK.out _ _ ⟨(hI.bl.trans (hbel'.mono hI.bl.size)), (fun _ _ => ho2), (fun h h7 => by obtain ⟨b, e, hr⟩ := hI.m6 h h7; exact ⟨b, e, hr.below hbel' hr.lt⟩), (fun h => Bool.noConfusion ((hup 7 (by kernel_rfl)).symm.trans h)), (fun h => Bool.noConfusion ((hup 10 (by kernel_rfl)).symm.trans h)), hI.v0, hI.v1, hI.v3, hI.v4, hI.v5, hI.v8, hI.v9, hI.v11, hI.v12⟩
        case sz3 =>
          intro xs done y hI hd0 hup hdn K hK
          refine wpOp_go (o := ⟨some 33, _, _, _, _, _⟩) rfl rfl ?_
          simp only [putsF, List.foldl_cons, List.foldl_nil, Act.put, List.setIfInBounds_toArray, List.set_cons_zero, List.set_cons_succ] at hK ⊢
          go_wp2_with fail
          exact hK.out _ _ ⟨hI.bl, hI.m2, hI.m6, hI.m7, hI.m10, hI.v0, hI.v1, fun _ => rfl, hI.v4, hI.v5, hI.v8, hI.v9, hI.v11, hI.v12⟩
        case sz4 =>
          intro xs done y hI hd0 hup hdn K hK
          refine wpOp_go (o := ⟨some 34, _, _, _, _, _⟩) rfl rfl ?_
          simp only [putsF, List.foldl_cons, List.foldl_nil, Act.put, List.setIfInBounds_toArray, List.set_cons_zero, List.set_cons_succ] at hK ⊢
          go_wp2_with fail
          exact hK.out _ _ ⟨hI.bl, hI.m2, hI.m6, hI.m7, hI.m10, hI.v0, hI.v1, hI.v3, fun _ => rfl, hI.v5, hI.v8, hI.v9, hI.v11, hI.v12⟩
        case sz5 =>
          intro xs done y hI hd0 hup hdn K hK
          refine wpOp_go (o := ⟨some 35, _, _, _, _, _⟩) rfl rfl ?_
          have e3 := hI.v3 (hdn 3 (by kernel_rfl))
          have e4 := hI.v4 (hdn 4 (by kernel_rfl))
          simp only [putsF, List.foldl_cons, List.foldl_nil, Act.put, List.setIfInBounds_toArray, List.set_cons_zero, List.set_cons_succ] at hK ⊢
          simp only [e3, e4] at hK ⊢
          go_wp2_with fail
          exact hK.out _ _ ⟨hI.bl, hI.m2, hI.m6, hI.m7, hI.m10, hI.v0, hI.v1, hI.v3, hI.v4, fun _ => rfl, hI.v8, hI.v9, hI.v11, hI.v12⟩
        case sz6 =>
          intro xs done y hI hd0 hup hdn K hK
          refine wpOp_go (o := ⟨some 36, _, _, _, _, _⟩) rfl rfl ?_
          have e5 := hI.v5 (hdn 5 (by kernel_rfl))
          simp only [putsF, List.foldl_cons, List.foldl_nil, Act.put, List.setIfInBounds_toArray, List.set_cons_zero, List.set_cons_succ] at hK ⊢
          simp only [e5] at hK ⊢
          go_wp2_with fail
          exact hK.out _ _ ⟨(hI.bl.alloc hI.bl.size _), (fun h h7 => owns_alloc (hI.m2 h h7) _), (fun _ _ => ⟨_, rfl, Row.new y _ _⟩), (fun h => Bool.noConfusion ((hup 7 (by kernel_rfl)).symm.trans h)), (fun h => Bool.noConfusion ((hup 10 (by kernel_rfl)).symm.trans h)), hI.v0, hI.v1, hI.v3, hI.v4, hI.v5, hI.v8, hI.v9, hI.v11, hI.v12⟩
        case sz7 =>
          intro xs done y hI hd0 hup hdn K hK
          refine wpOp_go (o := ⟨some 37, _, _, _, _, _⟩) rfl rfl ?_
          have hm2 := hI.m2 (hdn 2 (by kernel_rfl)) hd0
          have hm6 := hI.m6 (hdn 6 (by kernel_rfl)) hd0
          simp only [putsF, List.foldl_cons, List.foldl_nil, Act.put, List.setIfInBounds_toArray, List.set_cons_zero, List.set_cons_succ] at hK ⊢
          obtain ⟨b, e6, hr6⟩ := hm6
          simp only [e6] at hK ⊢
          have hrx := hr6.reads (B := y.heap.size) (size := 5) (n := 1) rfl hr6.lt
          refine wp_appO _ _ 26 rfl wr.heap.size 54 i0 (.agg #[.int .i64 0, .int .i64 0, .int .i64 0, .int .i64 0, .int .i64 0]) 5 40 Try.underlying26 hi hz0 hz1 hz2 rfl (by decide) (xs 2) lu.length (entCells lu) rfl hm2 y.heap.size (some ⟨b, 0, none⟩) 1 1 [.int .i64 d, .int .i64 4, .int .i64 (i : Int), .int .i64 0, .int .i64 0] rfl hrx ?q1 m3 m4 hI.bl.size ?_
          case q1 => intro u hu; simp at hu; rcases hu with rfl | rfl | rfl | rfl | rfl <;> rfl
          intro v' w1 hown' hbel'
          obtain ⟨A2, c2, hv2, hr2⟩ := own_readsI hown'
          rw [← HEl.out] at hv2 hr2
          rw [← HEc.out] at hr2
          subst hv2
          simp only [Act.put, List.setIfInBounds_toArray, List.set_cons_zero, List.set_cons_succ]
          exact hK.out _ _ ⟨(hI.bl.trans hbel'), (fun _ h => Bool.noConfusion h), (fun _ h => Bool.noConfusion h), (fun _ => ⟨_, _, rfl, hr2⟩), (fun h => Bool.noConfusion ((hup 10 (by kernel_rfl)).symm.trans h)), hI.v0, hI.v1, hI.v3, hI.v4, hI.v5, hI.v8, hI.v9, hI.v11, hI.v12⟩
        case sz8 =>
          intro xs done y hI hd0 hup hdn K hK
          refine wpOp_go (o := ⟨some 38, _, _, _, _, _⟩) rfl rfl ?_
          simp only [putsF, List.foldl_cons, List.foldl_nil, Act.put, List.setIfInBounds_toArray, List.set_cons_zero, List.set_cons_succ] at hK ⊢
          go_wp2_with fail
          exact hK.out _ _ ⟨hI.bl, hI.m2, hI.m6, hI.m7, hI.m10, hI.v0, hI.v1, hI.v3, hI.v4, hI.v5, fun _ => rfl, hI.v9, hI.v11, hI.v12⟩
        case sz9 =>
          intro xs done y hI hd0 hup hdn K hK
          refine wpOp_go (o := ⟨some 39, _, _, _, _, _⟩) rfl rfl ?_
          simp only [putsF, List.foldl_cons, List.foldl_nil, Act.put, List.setIfInBounds_toArray, List.set_cons_zero, List.set_cons_succ] at hK ⊢
          go_wp2_with fail
          exact hK.out _ _ ⟨hI.bl, hI.m2, hI.m6, hI.m7, hI.m10, hI.v0, hI.v1, hI.v3, hI.v4, hI.v5, hI.v8, fun _ => rfl, hI.v11, hI.v12⟩
        case sz10 =>
          intro xs done y hI hd0 hup hdn K hK
          refine wpOp_go (o := ⟨some 40, _, _, _, _, _⟩) rfl rfl ?_
          have e0 := hI.v0 (hdn 0 (by kernel_rfl))
          have e8 := hI.v8 (hdn 8 (by kernel_rfl))
          have e9 := hI.v9 (hdn 9 (by kernel_rfl))
          have hm7 := hI.m7 (hdn 7 (by kernel_rfl))
          simp only [putsF, List.foldl_cons, List.foldl_nil, Act.put, List.setIfInBounds_toArray, List.set_cons_zero, List.set_cons_succ] at hK ⊢
          obtain ⟨A2, c2, e7, hr7⟩ := hm7
          simp only [e0, e8, e9, e7] at hK ⊢
          have hq := HF.out y A2 c2 (HBr.out.trans (hI.bl.mono HBr.out.size)) hr7
          go_wp2_with (go_at_call 57; refine hq.mono ?_; rintro e z ⟨hb4, A3, c3, rfl⟩)
          exact hK.out _ _ ⟨(hI.bl.trans (hb4.mono hI.bl.size)), (fun _ h => Bool.noConfusion ((hdn 7 (by kernel_rfl)).symm.trans h)), (fun _ h => Bool.noConfusion ((hdn 7 (by kernel_rfl)).symm.trans h)), (fun h => by obtain ⟨A4, c4, e, hr⟩ := hI.m7 h; exact ⟨A4, c4, e, (hr.below hb4).more hb4.size⟩), (fun _ => ⟨_, _, rfl⟩), hI.v0, hI.v1, hI.v3, hI.v4, hI.v5, hI.v8, hI.v9, hI.v11, hI.v12⟩
        case sz11 =>
          intro xs done y hI hd0 hup hdn K hK
          refine wpOp_go (o := ⟨some 41, _, _, _, _, _⟩) rfl rfl ?_
          have hm10 := hI.m10 (hdn 10 (by kernel_rfl))
          simp only [putsF, List.foldl_cons, List.foldl_nil, Act.put, List.setIfInBounds_toArray, List.set_cons_zero, List.set_cons_succ] at hK ⊢
          obtain ⟨A3, c3, e10⟩ := hm10
          simp only [e10] at hK ⊢
          go_wp2_with fail
          exact hK.out _ _ ⟨hI.bl, hI.m2, hI.m6, hI.m7, hI.m10, hI.v0, hI.v1, hI.v3, hI.v4, hI.v5, hI.v8, hI.v9, fun _ => rfl, hI.v12⟩
        case sz12 =>
          intro xs done y hI hd0 hup hdn K hK
          refine wpOp_go (o := ⟨some 42, _, _, _, _, _⟩) rfl rfl ?_
          have e11 := hI.v11 (hdn 11 (by kernel_rfl))
          simp only [putsF, List.foldl_cons, List.foldl_nil, Act.put, List.setIfInBounds_toArray, List.set_cons_zero, List.set_cons_succ] at hK ⊢
          simp only [e11] at hK ⊢
          go_wp2_with fail
          exact hK.out _ _ ⟨hI.bl, hI.m2, hI.m6, hI.m7, hI.m10, hI.v0, hI.v1, hI.v3, hI.v4, hI.v5, hI.v8, hI.v9, hI.v11, fun _ => rfl⟩
        case finz =>
        intro xs done y hI hd
        have hby := hI.bl
        have e12 := hI.v12 (hd 12 (by decide))
        simp only [putsF, List.foldl_cons, List.foldl_nil, Act.put, List.setIfInBounds_toArray, List.set_cons_zero, List.set_cons_succ]
        simp only [e12]
        have HBr2 := Lib.hid (HBr.out.trans (hby.mono HBr.out.size))
        have HBL2 := Lib.hid (HBL.out.trans (hby.mono HBL.out.size))
        clear hI hby hd e12 HBr HBL HF
        have HBr := HBr2
        have HBL := HBL2
        clear HBr2 HBL2
        by_cases hz : nl = 0
        · have hn0 : ¬ 0 < nl := by omega
          have HN2 : Hid (NoR k lu i day (d + 1)) := fun x h1 h2 => by
            by_cases hx : x = d
            · rw [hx]; exact HT.out.1 hz
            · exact hno.out x h1 (by omega)
          clear hz
          go_wp2_with fail
          go_roundw
          case rel => exact ⟨d + 1, by go_num, by omega, by omega, HN2, HBL.out⟩
          case measure => simp [intOf]; omega
        · have hn0 : 0 < nl := by omega
          have HTn : Hid (reaT k lu i d ≠ []) := fun h => hz (HT.out.2 h)
          clear hz
          have HU := Lib.hid (unt_loop HOu.out (d := d) hd1 h0d hno.out (.inr HTn.out))
          have HZ := Lib.hid HBr.out
          by_cases he : d = day
          · have HV : Hid (untS k lu i day = (0, 3)) := HU.out.trans (if_pos he)
            have e1 : decide (d = day) = true := decide_eq_true he
            have e2 : (d == day) = true := by simpa using he
            clear he HU
            go_wp2_with fail
            refine bodyPost_ret (v := .tuple #[.int .i64 0, .int .i64 3]) (by simp [results, Try.results31, go_sem]) rfl ?_
            refine ⟨?_, HZ.out⟩
            unfold untE
            rw [if_pos HE0.out, HV.out]
          · have HV : Hid (untS k lu i day = (d - 1, 0)) := HU.out.trans (if_neg he)
            have e1 : decide (d = day) = false := decide_eq_false he
            have e2 : (d == day) = false := by simpa using he
            have e3 : IntKind.i64.wrap (d - 1) = d - 1 := IntWalk.i64_in _ (by omega)
            clear he HU
            go_wp2_with fail
            refine bodyPost_ret (v := .tuple #[.int .i64 (d - 1), .int .i64 0]) (by simp [results, Try.results31, go_sem]) rfl ?_
            refine ⟨?_, HZ.out⟩
            unfold untE
            rw [if_pos HE0.out, HV.out]
      · have n1 : d = 10001 := by omega
        have HD : Hid (d = 10001) := n1
        clear n1
        have HU := Lib.hid (unt_loop HOu.out (d := d) hd1 h0d hno.out (.inl HD.out))
        have HZ := Lib.hid HBr.out
        by_cases he : d = day
        · have HV : Hid (untS k lu i day = (0, 3)) := HU.out.trans (if_pos he)
          have e1 : decide (d = day) = true := decide_eq_true he
          have e2 : (d == day) = true := by simpa using he
          clear he HU
          go_wp2_with fail
          refine bodyPost_ret (v := .tuple #[.int .i64 0, .int .i64 3]) (by simp [results, Try.results31, go_sem]) rfl ?_
          refine ⟨?_, HZ.out⟩
          unfold untE
          rw [if_pos HE0.out, HV.out]
        · have HV : Hid (untS k lu i day = (d - 1, 0)) := HU.out.trans (if_neg he)
          have e1 : decide (d = day) = false := decide_eq_false he
          have e2 : (d == day) = false := by simpa using he
          have e3 : IntKind.i64.wrap (d - 1) = d - 1 := IntWalk.i64_in _ (by omega)
          clear he HU
          go_wp2_with fail
          refine bodyPost_ret (v := .tuple #[.int .i64 (d - 1), .int .i64 0]) (by simp [results, Try.results31, go_sem]) rfl ?_
          refine ⟨?_, HZ.out⟩
          unfold untE
          rw [if_pos HE0.out, HV.out]
  · have HN : Hid (E ≠ 0) := h0
    clear hB
    go_enter Try.func31, Try.ntmps31
    go_upto_region 1 with fail
    rw [← hW, ← hzb]
    clear hW hzb
    go_wp2_with (go_at_call 59; refine HCk.out.mono ?_; rintro e X ⟨rfl, hX⟩; have HX := Lib.hid (HBW.out.trans (hX.mono HBW.out.size)); clear hX)
    refine bodyPost_ret (v := .tuple #[.int .i64 0, .int .i64 E]) (by simp [results, Try.results31, go_sem]) rfl ?_
    refine ⟨?_, HX.out⟩
    unfold untE
    rw [if_neg HN.out]
end Go.Proofs.Ytaocgkmobfocjaa
