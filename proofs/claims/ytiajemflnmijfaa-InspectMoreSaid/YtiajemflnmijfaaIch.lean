/- The walk of InspectMore. Conditions: arguments that read as data. -/
import Derived.Test.YtiajemflnmijfaaIcg
import Derived.Test.YtiajemflnmijfaaIal
namespace Go.Proofs.Ytiajemflnmijfaa
open Go.RowKit

structure MoR (U : World) (l le : List EntZ) (A : Option Addr) (c : Nat) (ed ek ea eb ec : Int) (done : Nat → Bool) (xs : Nat → Value) (y : World) : Prop where
  bl : Below U.heap.size U y
  m1 : done 1 = true → done 4 = false → y.ownsRow U.heap.size 54 5 (xs 1) l.length (entCells l)
  m7 : done 3 = true → done 4 = false → ∃ b, xs 3 = .slice (some ⟨b, 0, none⟩) 1 1 ∧ Row y b 54 [.int .i64 ed, .int .i64 ek, .int .i64 ea, .int .i64 eb, .int .i64 ec]
  m8 : done 4 = true → ∃ A2 c2, xs 4 = .slice A2 le.length c2 ∧ Reads y y.heap.size 5 A2 le.length (entCells le) ∧ le.length ≤ c2
  m9 : done 5 = true → ∃ A2 c2, xs 5 = .slice A2 le.length c2 ∧ Reads y y.heap.size 5 A2 le.length (entCells le) ∧ le.length ≤ c2
  v0 : done 0 = true → xs 0 = .slice A l.length c
  v2 : done 2 = true → xs 2 = .agg #[.int .i64 ed, .int .i64 ek, .int .i64 ea, .int .i64 eb, .int .i64 ec]
structure MoC (U : World) (k : BookZ) (R : BkR) (l : List EntZ) (A : Option Addr) (c n : Nat) (at0 : Int) (done : Nat → Bool) (xs : Nat → Value) (y : World) : Prop where
  bl : Below U.heap.size U y
  v0 : done 0 = true → xs 0 = .agg #[.slice R.A1 k.rules.length R.c1, .slice R.A2 k.ranks.length R.c2, .slice R.A3 k.insured.length R.c3]
  v1 : done 1 = true → xs 1 = .slice A l.length c
  v2 : done 2 = true → xs 2 = .int .i64 (n : Int)
  v3 : done 3 = true → xs 3 = .slice A n c
  v4 : done 4 = true → xs 4 = .tuple #[.int .i64 at0, .int .i64 0]
  v5 : done 5 = true → xs 5 = .tuple #[.int .i64 at0, .int .i64 0]
  v6 : done 6 = true → xs 6 = .int .i64 at0
  v7 : done 7 = true → xs 7 = .int .i64 0
  v8 : done 8 = true → xs 8 = .int .i64 at0
  v9 : done 9 = true → xs 9 = .int .i64 0
set_option maxRecDepth 100000 in
set_option maxHeartbeats 4000000 in
theorem more_walk {w : World} (k : BookZ) (R : BkR) (hk : BkIn w w.heap.size k R) (l : List EntZ) (A : Option Addr) (c : Nat) (hr : Reads w w.heap.size 5 A l.length (entCells l)) (_ : l.length ≤ maxLen) (hlc : l.length ≤ c) (ed ek ea eb ec : Int) :
    Calls Try.prog 11 #[bookV k R, .slice A l.length c, .agg #[.int .i64 ed, .int .i64 ek, .int .i64 ea, .int .i64 eb, .int .i64 ec]] w (TrueI w) := by
  obtain ⟨W0, hW0⟩ : ∃ W, W = w.alloc (.cells #[.slice R.A1 k.rules.length R.c1, .slice R.A2 k.ranks.length R.c2, .slice R.A3 k.insured.length R.c3] 25) := ⟨_, rfl⟩
  have b0 : Below w.heap.size w W0 := by subst hW0; exact (Below.refl _ _).alloc (Nat.le_refl _) _
  have r0 : Row W0 w.heap.size 25 [.slice R.A1 k.rules.length R.c1, .slice R.A2 k.ranks.length R.c2, .slice R.A3 k.insured.length R.c3] := by subst hW0; exact Row.new w _ _
  obtain ⟨W, hW⟩ : ∃ W, W = W0.alloc (.cells #[.int .i64 ed, .int .i64 ek, .int .i64 ea, .int .i64 eb, .int .i64 ec] 54) := ⟨_, rfl⟩
  have bW : Below w.heap.size w W := by subst hW; exact b0.alloc b0.size _
  have q0 : Row W0 w.heap.size 25 [.slice R.A1 k.rules.length R.c1, .slice R.A2 k.ranks.length R.c2, .slice R.A3 k.insured.length R.c3] := r0
  have r0 : Row W w.heap.size 25 [.slice R.A1 k.rules.length R.c1, .slice R.A2 k.ranks.length R.c2, .slice R.A3 k.insured.length R.c3] := by subst hW; exact q0.alloc _
  clear q0
  have t0 : Row W W0.heap.size 54 [.int .i64 ed, .int .i64 ek, .int .i64 ea, .int .i64 eb, .int .i64 ec] := by subst hW; exact Row.new W0 _ _
  obtain ⟨zb, hzb⟩ : ∃ z, z = w.heap.size := ⟨_, rfl⟩
  rw [← hzb] at r0
  have e0 : W0.heap.size = w.heap.size + 1 := by rw [hW0]; simp
  rw [e0] at t0
  obtain ⟨zq, hzq⟩ : ∃ z, z = w.heap.size + 1 := ⟨_, rfl⟩
  rw [← hzq] at t0
  clear e0
  have gW0 : W.cell? ⟨zb, 0, none⟩ = some (.slice R.A1 k.rules.length R.c1) := r0.cell (j := 0) (by simp)
  have gW1 : W.cell? ⟨zb, 1, none⟩ = some (.slice R.A2 k.ranks.length R.c2) := r0.cell (j := 1) (by simp)
  have gW2 : W.cell? ⟨zb, 2, none⟩ = some (.slice R.A3 k.insured.length R.c3) := r0.cell (j := 2) (by simp)
  have fW0 : W.cell? ⟨zq, 0, none⟩ = some (.int .i64 ed) := t0.cell (j := 0) (by simp)
  have fW1 : W.cell? ⟨zq, 1, none⟩ = some (.int .i64 ek) := t0.cell (j := 1) (by simp)
  have fW2 : W.cell? ⟨zq, 2, none⟩ = some (.int .i64 ea) := t0.cell (j := 2) (by simp)
  have fW3 : W.cell? ⟨zq, 3, none⟩ = some (.int .i64 eb) := t0.cell (j := 3) (by simp)
  have fW4 : W.cell? ⟨zq, 4, none⟩ = some (.int .i64 ec) := t0.cell (j := 4) (by simp)
  have lW := r0.lt
  have mW := t0.lt
  have HBW := Lib.hid bW
  have HGW := Lib.hid r0
  have HFW := Lib.hid t0
  have HW : Hid (∀ X, Below w.heap.size w X → Calls Try.prog 17 #[] X fun e w' => e = .returned (.bool true) ∧ Below w.heap.size w w') := fun X hX => (works_any X).mono fun e w' h => ⟨h.1, hX.trans (h.2.mono hX.size)⟩
  have HL := Lib.hid (long_any A l.length c W)
  have HCk : Hid (∀ (l : List EntZ) (A : Option Addr) (c : Nat), l.length ≤ 1000 → l.length ≤ c → ∀ X, Below w.heap.size w X → Reads X X.heap.size 5 A l.length (entCells l) → Calls Try.prog 18 #[bookV k R, .slice A l.length c] X fun e w' => e = .returned (.tuple #[.int .i64 (chkR k l).1, .int .i64 (chkR k l).2]) ∧ Below X.heap.size X w') := fun l A c h1 h2 X hX h => Check_any k R l A c X.heap.size X (Nat.le_refl _) (by unfold maxLen; omega) h2 h ((hk.below hX).more hX.size)
  have HRe : Hid (∀ (l : List EntZ) (A : Option Addr) (c : Nat) (day : Int), l.length ≤ 1000 → l.length ≤ c → ∀ X, Below w.heap.size w X → Reads X X.heap.size 5 A l.length (entCells l) → Calls Try.prog 25 #[bookV k R, .slice A l.length c, .int .i64 day] X (LsTo X (onE k l day) (lsE (onE k l day) (relS k (upL l day) day)))) := fun l A c day h1 h2 X hX h => Released_any k R l A c X.heap.size day X (Nat.le_refl _) (by unfold maxLen; omega) h2 h ((hk.below hX).more hX.size)
  have HRl : Hid (∀ X, Below w.heap.size w X → Reads X w.heap.size 5 A l.length (entCells l)) := fun X hX => hr.below hX
  have HLc := Lib.hid hlc
  have hl1 := hk.l1
  have hl3 := hk.l3
  unfold maxLen at hl1 hl3
  obtain ⟨i0, hi, hz0, hz1, hz2⟩ := info_parts Try.info_entI
  generalize (decide (30 < l.length) && decide (l.length ≤ 100)) = lg at HL
  unfold bookV at *
  clear b0 bW r0 t0 hk hr hlc
  go_enter Try.func11, Try.ntmps11
  go_upto_region 1 with fail
  rw [← hW0, ← hW, ← hzq, ← hzb]
  clear hW hW0 hzb hzq
  cases lg with
  | true =>
    go_wp2_with (first | (go_at_call 16; refine HL.out.mono ?_; rintro e w' ⟨rfl, hw⟩; rw [hw]; clear hw) | (go_at_call 17; refine (HW.out _ HBW.out).mono ?_; rintro e w' ⟨rfl, hb⟩; have BW := Lib.hid hb; clear hb))
    go_ret
    exact ⟨rfl, BW.out⟩
  | false =>
  by_cases hlen : 100 ≤ l.length
  · have d1 : decide (100 ≤ l.length) = true := decide_eq_true hlen
    have d1' : decide ((100 : Int) ≤ (l.length : Int)) = true := decide_eq_true (by omega)
    go_wp2_with (first | (go_at_call 16; refine HL.out.mono ?_; rintro e w' ⟨rfl, hw⟩; rw [hw]; clear hw) | (go_at_call 17; refine (HW.out _ HBW.out).mono ?_; rintro e w' ⟨rfl, hb⟩; have BW := Lib.hid hb; clear hb))
    go_ret
    exact ⟨rfl, BW.out⟩
  have d1 : decide ((100 : Int) ≤ (l.length : Int)) = false := decide_eq_false (by omega)
  have d1' : ¬ 100 ≤ l.length := hlen
  go_upto_region 3 with (go_at_call 16; refine HL.out.mono ?_; rintro e w' ⟨rfl, hw⟩; rw [hw]; clear hw)
  obtain ⟨le, hle2⟩ : ∃ le, le = l ++ [(⟨ed, ek, ea, eb, ec⟩ : EntZ)] := ⟨_, rfl⟩
  have HLe := Lib.hid hle2
  have HEl : Hid (le.length = l.length + 1) := by show _ = _; rw [hle2]; simp
  have HEc : Hid (entCells le = entCells l ++ [.int .i64 ed, .int .i64 ek, .int .i64 ea, .int .i64 eb, .int .i64 ec]) := by show _ = _; rw [hle2]; simp [entCells, entL]
  have hll : l.length < 100 := by omega
  have HLl := Lib.hid hll
  have m1 : 0 + l.length ≤ maxLen := by unfold maxLen; omega
  have m2 : (0 + l.length) * 40 ≤ 140737488355328 := by omega
  have m3 : l.length + 1 ≤ maxLen := by unfold maxLen; omega
  have m4 : (l.length + 1) * 40 ≤ 140737488355328 := by omega
  clear hle2 d1 d1' hlen HL
  have hck := Lib.hid (HCk.out l A c (by omega) HLc.out W HBW.out ((HRl.out W HBW.out).more HBW.out.size))
  generalize hcr : chkR k l = cr at hck
  obtain ⟨cr1, cr2⟩ := cr
  dsimp only at hck
  go_upto_region 4 with (go_at_call 18; refine hck.out.mono ?_; rintro e X1 ⟨rfl, hX1⟩)
  have HBX1 := Lib.hid (HBW.out.trans (hX1.mono HBW.out.size))
  have sX1 := HGW.out.below hX1 HGW.out.lt
  have vX1 := HFW.out.below hX1 HFW.out.lt
  have gX10 : X1.cell? ⟨zb, 0, none⟩ = some (.slice R.A1 k.rules.length R.c1) := sX1.cell (j := 0) (by simp)
  have gX11 : X1.cell? ⟨zb, 1, none⟩ = some (.slice R.A2 k.ranks.length R.c2) := sX1.cell (j := 1) (by simp)
  have gX12 : X1.cell? ⟨zb, 2, none⟩ = some (.slice R.A3 k.insured.length R.c3) := sX1.cell (j := 2) (by simp)
  have fX10 : X1.cell? ⟨zq, 0, none⟩ = some (.int .i64 ed) := vX1.cell (j := 0) (by simp)
  have fX11 : X1.cell? ⟨zq, 1, none⟩ = some (.int .i64 ek) := vX1.cell (j := 1) (by simp)
  have fX12 : X1.cell? ⟨zq, 2, none⟩ = some (.int .i64 ea) := vX1.cell (j := 2) (by simp)
  have fX13 : X1.cell? ⟨zq, 3, none⟩ = some (.int .i64 eb) := vX1.cell (j := 3) (by simp)
  have fX14 : X1.cell? ⟨zq, 4, none⟩ = some (.int .i64 ec) := vX1.cell (j := 4) (by simp)
  have lX1 := sX1.lt
  have mX1 := vX1.lt
  have HGX1 := Lib.hid sX1
  have HFX1 := Lib.hid vX1
  clear hck
  clear hX1 sX1 vX1 gW0 gW1 gW2 fW0 fW1 fW2 fW3 fW4 lW mW
  by_cases h0 : cr2 = 0
  · have HOk : Hid (LogOk k l) := chkR_ok.1 (by rw [hcr]; exact h0)
    clear hcr
    subst h0
    go_upto_region 7 with fail
    clear gX10 gX11 gX12 fX10 fX11 fX12 fX13 fX14 lX1 mX1
    go_loopw [9] (fun q wr => ∃ n : Nat, n ≤ l.length ∧ q = .int .i64 n ∧ Below X1.heap.size X1 wr) (fun q _ => l.length - (intOf q).toNat)
    case atStart => exact ⟨0, Nat.zero_le _, rfl, Below.refl _ _⟩
    case round =>
      obtain ⟨n, hn, rfl, hbel⟩ := hrel
      have HBL := Lib.hid hbel
      have HBr := Lib.hid (HBX1.out.trans (hbel.mono HBX1.out.size))
      have HSB := Lib.hid (HGX1.out.below hbel HGX1.out.lt)
      have HFM := Lib.hid (HFX1.out.below hbel HFX1.out.lt)
      clear hbel
      by_cases hlt : n < l.length
      · have n1 : (n : Int) < (l.length : Int) := by omega
        have n0 : ¬ (n : Int) < 0 := by omega
        have nc : ¬ (c : Int) < (n : Int) := by have := HLc.out; omega
        have nc2 : ¬ c < n := by have := HLc.out; omega
        have en : IntKind.i64.wrap ((n : Int) + 1) = (n : Int) + 1 := IntWalk.i64_in _ (by omega)
        obtain ⟨b, o, hA, -, -⟩ := (HRl.out wr HBr.out).2 (by omega)
        subst hA
        have hle : (l.take n).length = n := by rw [List.length_take]; omega
        have h2 := (chkR_ok (k := k) (l := l.take n)).2 (HOk.out.take n)
        have HCn : Hid (∀ X, Below w.heap.size w X → Calls Try.prog 18 #[.agg #[.slice R.A1 k.rules.length R.c1, .slice R.A2 k.ranks.length R.c2, .slice R.A3 k.insured.length R.c3], .slice (some ⟨b, o, none⟩) n c] X fun e w' => e = .returned (.tuple #[.int .i64 (chkR k (l.take n)).1, .int .i64 0]) ∧ Below X.heap.size X w') := fun X hX => by
          have h := HCk.out (l.take n) (some ⟨b, o, none⟩) c (by rw [hle]; omega) (by rw [hle]; have := HLc.out; omega) X hX ((ents_take (HRl.out X hX) (by omega : n ≤ l.length)).more hX.size)
          rw [hle, h2] at h
          exact h
        generalize (chkR k (l.take n)).1 = at0 at HCn
        clear hle h2
        go_upto_region 9 with fail
        refine wp_region_stepsY 10 (ord := [0, 1, 2, 3, 4, 5, 6, 7, 8, 9]) (ds := [(0, 45), (1, 46), (2, 47), (3, 48), (4, 49), (5, 44), (6, 50), (7, 51), (8, 10), (9, 11)]) (I := MoC wr k R l (some ⟨b, o, none⟩) c n at0) (by kernel_rfl) (by kernel_rfl) rfl ?iy (StepsY.cons (k := 0) (k' := 1) (o := ⟨some 45, _, _, _, _, _⟩) rfl rfl ?sy0 (StepsY.cons (k := 1) (k' := 2) (o := ⟨some 46, _, _, _, _, _⟩) rfl rfl ?sy1 (StepsY.cons (k := 2) (k' := 3) (o := ⟨some 47, _, _, _, _, _⟩) rfl rfl ?sy2 (StepsY.cons (k := 3) (k' := 4) (o := ⟨some 48, _, _, _, _, _⟩) rfl rfl ?sy3 (StepsY.cons (k := 4) (k' := 5) (o := ⟨some 49, _, _, _, _, _⟩) rfl rfl ?sy4 (StepsY.cons (k := 5) (k' := 6) (o := ⟨some 44, _, _, _, _, _⟩) rfl rfl ?sy5 (StepsY.cons (k := 6) (k' := 7) (o := ⟨some 50, _, _, _, _, _⟩) rfl rfl ?sy6 (StepsY.cons (k := 7) (k' := 8) (o := ⟨some 51, _, _, _, _, _⟩) rfl rfl ?sy7 (StepsY.cons (k := 8) (k' := 9) (o := ⟨some 10, _, _, _, _, _⟩) rfl rfl ?sy8 (StepsY.cons (k := 9) (k' := 10) (o := ⟨some 11, _, _, _, _, _⟩) rfl rfl ?sy9 StepsY.nil)))))))))) ?finy
        case iy => exact fun xs => ⟨(Below.refl _ _).drew, fun h => Bool.noConfusion h, fun h => Bool.noConfusion h, fun h => Bool.noConfusion h, fun h => Bool.noConfusion h, fun h => Bool.noConfusion h, fun h => Bool.noConfusion h, fun h => Bool.noConfusion h, fun h => Bool.noConfusion h, fun h => Bool.noConfusion h, fun h => Bool.noConfusion h⟩
        case sy0 =>
          intro xs done y hI hd0 hup hdn K hK
          refine wpOp_go (o := ⟨some 45, _, _, _, _, _⟩) rfl rfl ?_
          simp only [putsF, List.foldl_cons, List.foldl_nil, Act.put, List.setIfInBounds_toArray, List.set_cons_zero, List.set_cons_succ] at hK ⊢
          have rG := HSB.out.below hI.bl HSB.out.lt
          have lG := rG.lt
          have g0 : y.cell? ⟨zb, 0, none⟩ = some (.slice R.A1 k.rules.length R.c1) := rG.cell (j := 0) (by simp)
          have g1 : y.cell? ⟨zb, 1, none⟩ = some (.slice R.A2 k.ranks.length R.c2) := rG.cell (j := 1) (by simp)
          have g2 : y.cell? ⟨zb, 2, none⟩ = some (.slice R.A3 k.insured.length R.c3) := rG.cell (j := 2) (by simp)
          go_wp2_with fail
          exact hK.out _ _ ⟨hI.bl, fun _ => rfl, hI.v1, hI.v2, hI.v3, hI.v4, hI.v5, hI.v6, hI.v7, hI.v8, hI.v9⟩
        case sy1 =>
          intro xs done y hI hd0 hup hdn K hK
          refine wpOp_go (o := ⟨some 46, _, _, _, _, _⟩) rfl rfl ?_
          simp only [putsF, List.foldl_cons, List.foldl_nil, Act.put, List.setIfInBounds_toArray, List.set_cons_zero, List.set_cons_succ] at hK ⊢
          go_wp2_with fail
          exact hK.out _ _ ⟨hI.bl, hI.v0, fun _ => rfl, hI.v2, hI.v3, hI.v4, hI.v5, hI.v6, hI.v7, hI.v8, hI.v9⟩
        case sy2 =>
          intro xs done y hI hd0 hup hdn K hK
          refine wpOp_go (o := ⟨some 47, _, _, _, _, _⟩) rfl rfl ?_
          simp only [putsF, List.foldl_cons, List.foldl_nil, Act.put, List.setIfInBounds_toArray, List.set_cons_zero, List.set_cons_succ] at hK ⊢
          go_wp2_with fail
          exact hK.out _ _ ⟨hI.bl, hI.v0, hI.v1, fun _ => rfl, hI.v3, hI.v4, hI.v5, hI.v6, hI.v7, hI.v8, hI.v9⟩
        case sy3 =>
          intro xs done y hI hd0 hup hdn K hK
          refine wpOp_go (o := ⟨some 48, _, _, _, _, _⟩) rfl rfl ?_
          have e1 := hI.v1 (hdn 1 (by kernel_rfl))
          have e2 := hI.v2 (hdn 2 (by kernel_rfl))
          simp only [putsF, List.foldl_cons, List.foldl_nil, Act.put, List.setIfInBounds_toArray, List.set_cons_zero, List.set_cons_succ] at hK ⊢
          simp only [e1, e2] at hK ⊢
          go_wp2_with fail
          exact hK.out _ _ ⟨hI.bl, hI.v0, hI.v1, hI.v2, fun _ => rfl, hI.v4, hI.v5, hI.v6, hI.v7, hI.v8, hI.v9⟩
        case sy4 =>
          intro xs done y hI hd0 hup hdn K hK
          refine wpOp_go (o := ⟨some 49, _, _, _, _, _⟩) rfl rfl ?_
          have e0 := hI.v0 (hdn 0 (by kernel_rfl))
          have e3 := hI.v3 (hdn 3 (by kernel_rfl))
          simp only [putsF, List.foldl_cons, List.foldl_nil, Act.put, List.setIfInBounds_toArray, List.set_cons_zero, List.set_cons_succ] at hK ⊢
          simp only [e0, e3] at hK ⊢
          have hq := HCn.out y (HBr.out.trans (hI.bl.mono HBr.out.size))
          go_wp2_with (go_at_call 18; with_reducible refine hq.mono ?_; rintro e z ⟨rfl, hb4⟩)
          exact hK.out _ _ ⟨(hI.bl.trans (hb4.mono hI.bl.size)), hI.v0, hI.v1, hI.v2, hI.v3, fun _ => rfl, hI.v5, hI.v6, hI.v7, hI.v8, hI.v9⟩
        case sy5 =>
          intro xs done y hI hd0 hup hdn K hK
          refine wpOp_go (o := ⟨some 44, _, _, _, _, _⟩) rfl rfl ?_
          have e4 := hI.v4 (hdn 4 (by kernel_rfl))
          simp only [putsF, List.foldl_cons, List.foldl_nil, Act.put, List.setIfInBounds_toArray, List.set_cons_zero, List.set_cons_succ] at hK ⊢
          simp only [e4] at hK ⊢
          go_wp2_with fail
          exact hK.out _ _ ⟨hI.bl, hI.v0, hI.v1, hI.v2, hI.v3, hI.v4, fun _ => rfl, hI.v6, hI.v7, hI.v8, hI.v9⟩
        case sy6 =>
          intro xs done y hI hd0 hup hdn K hK
          refine wpOp_go (o := ⟨some 50, _, _, _, _, _⟩) rfl rfl ?_
          have e5 := hI.v5 (hdn 5 (by kernel_rfl))
          simp only [putsF, List.foldl_cons, List.foldl_nil, Act.put, List.setIfInBounds_toArray, List.set_cons_zero, List.set_cons_succ] at hK ⊢
          simp only [e5] at hK ⊢
          go_wp2_with fail
          exact hK.out _ _ ⟨hI.bl, hI.v0, hI.v1, hI.v2, hI.v3, hI.v4, hI.v5, fun _ => rfl, hI.v7, hI.v8, hI.v9⟩
        case sy7 =>
          intro xs done y hI hd0 hup hdn K hK
          refine wpOp_go (o := ⟨some 51, _, _, _, _, _⟩) rfl rfl ?_
          have e5 := hI.v5 (hdn 5 (by kernel_rfl))
          simp only [putsF, List.foldl_cons, List.foldl_nil, Act.put, List.setIfInBounds_toArray, List.set_cons_zero, List.set_cons_succ] at hK ⊢
          simp only [e5] at hK ⊢
          go_wp2_with fail
          exact hK.out _ _ ⟨hI.bl, hI.v0, hI.v1, hI.v2, hI.v3, hI.v4, hI.v5, hI.v6, fun _ => rfl, hI.v8, hI.v9⟩
        case sy8 =>
          intro xs done y hI hd0 hup hdn K hK
          refine wpOp_go (o := ⟨some 10, _, _, _, _, _⟩) rfl rfl ?_
          have e6 := hI.v6 (hdn 6 (by kernel_rfl))
          simp only [putsF, List.foldl_cons, List.foldl_nil, Act.put, List.setIfInBounds_toArray, List.set_cons_zero, List.set_cons_succ] at hK ⊢
          simp only [e6] at hK ⊢
          go_wp2_with fail
          exact hK.out _ _ ⟨hI.bl, hI.v0, hI.v1, hI.v2, hI.v3, hI.v4, hI.v5, hI.v6, hI.v7, fun _ => rfl, hI.v9⟩
        case sy9 =>
          intro xs done y hI hd0 hup hdn K hK
          refine wpOp_go (o := ⟨some 11, _, _, _, _, _⟩) rfl rfl ?_
          have e7 := hI.v7 (hdn 7 (by kernel_rfl))
          simp only [putsF, List.foldl_cons, List.foldl_nil, Act.put, List.setIfInBounds_toArray, List.set_cons_zero, List.set_cons_succ] at hK ⊢
          simp only [e7] at hK ⊢
          go_wp2_with fail
          exact hK.out _ _ ⟨hI.bl, hI.v0, hI.v1, hI.v2, hI.v3, hI.v4, hI.v5, hI.v6, hI.v7, hI.v8, fun _ => rfl⟩
        case finy =>
          intro xs done y hI hd
          have hby := hI.bl
          have e8 := hI.v8 (hd 8 (by decide))
          have e9 := hI.v9 (hd 9 (by decide))
          simp only [putsF, List.foldl_cons, List.foldl_nil, Act.put, List.setIfInBounds_toArray, List.set_cons_zero, List.set_cons_succ]
          simp only [e8, e9]
          have HBy := Lib.hid hby
          clear hI hby hd e8 e9
          go_wp2_with fail
          go_roundw
          case rel => exact ⟨n + 1, by omega, by go_num, HBL.out.trans (HBy.out.mono HBL.out.size)⟩
          case measure => simp [intOf]; omega
      · have n1 : ¬ (n : Int) < (l.length : Int) := by omega
        clear hlt hn
        go_upto_region 12 with fail
        clear n1
        have HRm : Hid (∀ X, Below wr.heap.size wr X → Reads X w.heap.size 5 A l.length (entCells l)) := fun X hX => HRl.out X (HBr.out.trans (hX.mono HBr.out.size))
        refine wp_region_stepsY 6 (ord := [0, 1, 2, 3, 4, 5]) (ds := [(0, 54), (1, 55), (2, 56), (3, 57), (4, 58), (5, 12)]) (I := MoR wr l le A c ed ek ea eb ec) (by kernel_rfl) (by kernel_rfl) rfl ?iz (StepsY.cons (k := 0) (k' := 1) (o := ⟨some 54, _, _, _, _, _⟩) rfl rfl ?sz0 (StepsY.cons (k := 1) (k' := 2) (o := ⟨some 55, _, _, _, _, _⟩) rfl rfl ?sz1 (StepsY.cons (k := 2) (k' := 3) (o := ⟨some 56, _, _, _, _, _⟩) rfl rfl ?sz2 (StepsY.cons (k := 3) (k' := 4) (o := ⟨some 57, _, _, _, _, _⟩) rfl rfl ?sz3 (StepsY.cons (k := 4) (k' := 5) (o := ⟨some 58, _, _, _, _, _⟩) rfl rfl ?sz4 (StepsY.cons (k := 5) (k' := 6) (o := ⟨some 12, _, _, _, _, _⟩) rfl rfl ?sz5 StepsY.nil)))))) ?finz
        case iz => exact fun xs => ⟨(Below.refl _ _).drew, fun h => Bool.noConfusion h, fun h => Bool.noConfusion h, fun h => Bool.noConfusion h, fun h => Bool.noConfusion h, fun h => Bool.noConfusion h, fun h => Bool.noConfusion h⟩
        case sz0 =>
          intro xs done y hI hd0 hup hdn K hK
          refine wpOp_go (o := ⟨some 54, _, _, _, _, _⟩) rfl rfl ?_
          simp only [putsF, List.foldl_cons, List.foldl_nil, Act.put, List.setIfInBounds_toArray, List.set_cons_zero, List.set_cons_succ] at hK ⊢
          go_wp2_with fail
          exact hK.out _ _ ⟨hI.bl, hI.m1, hI.m7, hI.m8, hI.m9, fun _ => rfl, hI.v2⟩
        case sz1 =>
          intro xs done y hI hd0 hup hdn K hK
          refine wpOp_go (o := ⟨some 55, _, _, _, _, _⟩) rfl rfl ?_
          have e0 := hI.v0 (hdn 0 (by kernel_rfl))
          simp only [putsF, List.foldl_cons, List.foldl_nil, Act.put, List.setIfInBounds_toArray, List.set_cons_zero, List.set_cons_succ] at hK ⊢
          simp only [e0] at hK ⊢
          have hrn := HRm.out y hI.bl
          refine wp_appO _ _ 26 rfl y.heap.size 54 i0 (.agg #[.int .i64 0, .int .i64 0, .int .i64 0, .int .i64 0, .int .i64 0]) 5 40 Try.underlying26 hi hz0 hz1 hz2 rfl (by decide) (.slice none 0 0) 0 [] rfl (owns_nil _ _ _ _) w.heap.size A l.length c (entCells l) rfl hrn (ents_ones l) m1 m2 (Nat.le_refl _) ?_
          intro v' w1 hown' hbel'
          have ho2 : w1.ownsRow wr.heap.size 54 5 v' l.length (entCells l) := own_base (by simpa using hown') hI.bl.size
          simp only [Act.put, List.setIfInBounds_toArray, List.set_cons_zero, List.set_cons_succ]
          exact hK.out _ _ ⟨(hI.bl.trans (hbel'.mono hI.bl.size)), (fun _ _ => ho2), (fun h h7 => by obtain ⟨b, e, hr⟩ := hI.m7 h h7; exact ⟨b, e, hr.below hbel' hr.lt⟩), (fun h => Bool.noConfusion ((hup 4 (by kernel_rfl)).symm.trans h)), (fun h => Bool.noConfusion ((hup 5 (by kernel_rfl)).symm.trans h)), hI.v0, hI.v2⟩
        case sz2 =>
          intro xs done y hI hd0 hup hdn K hK
          refine wpOp_go (o := ⟨some 56, _, _, _, _, _⟩) rfl rfl ?_
          simp only [putsF, List.foldl_cons, List.foldl_nil, Act.put, List.setIfInBounds_toArray, List.set_cons_zero, List.set_cons_succ] at hK ⊢
          have rG := HFM.out.below hI.bl HFM.out.lt
          have lG := rG.lt
          have f0 : y.cell? ⟨zq, 0, none⟩ = some (.int .i64 ed) := rG.cell (j := 0) (by simp)
          have f1 : y.cell? ⟨zq, 1, none⟩ = some (.int .i64 ek) := rG.cell (j := 1) (by simp)
          have f2 : y.cell? ⟨zq, 2, none⟩ = some (.int .i64 ea) := rG.cell (j := 2) (by simp)
          have f3 : y.cell? ⟨zq, 3, none⟩ = some (.int .i64 eb) := rG.cell (j := 3) (by simp)
          have f4 : y.cell? ⟨zq, 4, none⟩ = some (.int .i64 ec) := rG.cell (j := 4) (by simp)
          go_wp2_with fail
          exact hK.out _ _ ⟨hI.bl, hI.m1, hI.m7, hI.m8, hI.m9, hI.v0, fun _ => rfl⟩
        case sz3 =>
          intro xs done y hI hd0 hup hdn K hK
          refine wpOp_go (o := ⟨some 57, _, _, _, _, _⟩) rfl rfl ?_
          have e2 := hI.v2 (hdn 2 (by kernel_rfl))
          simp only [putsF, List.foldl_cons, List.foldl_nil, Act.put, List.setIfInBounds_toArray, List.set_cons_zero, List.set_cons_succ] at hK ⊢
          simp only [e2] at hK ⊢
          go_wp2_with fail
          exact hK.out _ _ ⟨(hI.bl.alloc hI.bl.size _), (fun h h7 => owns_alloc (hI.m1 h h7) _), (fun _ _ => ⟨_, rfl, Row.new y _ _⟩), (fun h => Bool.noConfusion ((hup 4 (by kernel_rfl)).symm.trans h)), (fun h => Bool.noConfusion ((hup 5 (by kernel_rfl)).symm.trans h)), hI.v0, hI.v2⟩
        case sz4 =>
          intro xs done y hI hd0 hup hdn K hK
          refine wpOp_go (o := ⟨some 58, _, _, _, _, _⟩) rfl rfl ?_
          have hm2 := hI.m1 (hdn 1 (by kernel_rfl)) hd0
          have hm6 := hI.m7 (hdn 3 (by kernel_rfl)) hd0
          simp only [putsF, List.foldl_cons, List.foldl_nil, Act.put, List.setIfInBounds_toArray, List.set_cons_zero, List.set_cons_succ] at hK ⊢
          obtain ⟨b, e6, hr6⟩ := hm6
          simp only [e6] at hK ⊢
          have hrx := hr6.reads (B := y.heap.size) (size := 5) (n := 1) rfl hr6.lt
          refine wp_appO _ _ 26 rfl wr.heap.size 54 i0 (.agg #[.int .i64 0, .int .i64 0, .int .i64 0, .int .i64 0, .int .i64 0]) 5 40 Try.underlying26 hi hz0 hz1 hz2 rfl (by decide) (xs 1) l.length (entCells l) rfl hm2 y.heap.size (some ⟨b, 0, none⟩) 1 1 [.int .i64 ed, .int .i64 ek, .int .i64 ea, .int .i64 eb, .int .i64 ec] rfl hrx ?q1 m3 m4 hI.bl.size ?_
          case q1 => intro u hu; simp at hu; rcases hu with rfl | rfl | rfl | rfl | rfl <;> rfl
          intro v' w1 hown' hbel'
          obtain ⟨A2, c2, hv2, hr2, hcc⟩ := own_readsC hown' (Nat.succ_pos _)
          rw [← HEl.out] at hv2 hr2 hcc
          rw [← HEc.out] at hr2
          subst hv2
          simp only [Act.put, List.setIfInBounds_toArray, List.set_cons_zero, List.set_cons_succ]
          exact hK.out _ _ ⟨(hI.bl.trans hbel'), (fun _ h => Bool.noConfusion h), (fun _ h => Bool.noConfusion h), (fun _ => ⟨_, _, rfl, hr2, hcc⟩), (fun h => Bool.noConfusion ((hup 5 (by kernel_rfl)).symm.trans h)), hI.v0, hI.v2⟩
        case sz5 =>
          intro xs done y hI hd0 hup hdn K hK
          refine wpOp_go (o := ⟨some 12, _, _, _, _, _⟩) rfl rfl ?_
          have hm8 := hI.m8 (hdn 4 (by kernel_rfl))
          simp only [putsF, List.foldl_cons, List.foldl_nil, Act.put, List.setIfInBounds_toArray, List.set_cons_zero, List.set_cons_succ] at hK ⊢
          obtain ⟨A2, c2, e8, hr8, hc8⟩ := hm8
          simp only [e8] at hK ⊢
          go_wp2_with fail
          exact hK.out _ _ ⟨hI.bl, hI.m1, hI.m7, hI.m8, (fun _ => ⟨_, _, rfl, hr8, hc8⟩), hI.v0, hI.v2⟩
        case finz =>
          intro xs done Y hI hd
          have hm9 := hI.m9 (hd 5 (by decide))
          have hbY := hI.bl
          obtain ⟨A2, c2, e9, hr9, hc9⟩ := hm9
          simp only [putsF, List.foldl_cons, List.foldl_nil, Act.put, List.setIfInBounds_toArray, List.set_cons_zero, List.set_cons_succ]
          simp only [e9]
          have HR9 := Lib.hid hr9
          have HC9 := Lib.hid hc9
          have HBY := Lib.hid (HBr.out.trans (hbY.mono HBr.out.size))
          have HGY := Lib.hid (HSB.out.below hbY HSB.out.lt)
          have HFY := Lib.hid (HFM.out.below hbY HFM.out.lt)
          clear hI hd e9 hr9 hc9 m1 m2 m3 m4 hi hz0 hz1 hz2 hbY HRm HBL HBr HSB HFM
          have sG := HGY.out
          have vG := HFY.out
          have g0 : Y.cell? ⟨zb, 0, none⟩ = some (.slice R.A1 k.rules.length R.c1) := sG.cell (j := 0) (by simp)
          have g1 : Y.cell? ⟨zb, 1, none⟩ = some (.slice R.A2 k.ranks.length R.c2) := sG.cell (j := 1) (by simp)
          have g2 : Y.cell? ⟨zb, 2, none⟩ = some (.slice R.A3 k.insured.length R.c3) := sG.cell (j := 2) (by simp)
          have f0 : Y.cell? ⟨zq, 0, none⟩ = some (.int .i64 ed) := vG.cell (j := 0) (by simp)
          have f1 : Y.cell? ⟨zq, 1, none⟩ = some (.int .i64 ek) := vG.cell (j := 1) (by simp)
          have f2 : Y.cell? ⟨zq, 2, none⟩ = some (.int .i64 ea) := vG.cell (j := 2) (by simp)
          have f3 : Y.cell? ⟨zq, 3, none⟩ = some (.int .i64 eb) := vG.cell (j := 3) (by simp)
          have f4 : Y.cell? ⟨zq, 4, none⟩ = some (.int .i64 ec) := vG.cell (j := 4) (by simp)
          have lG := sG.lt
          have mG := vG.lt
          clear sG vG
          have hck := Lib.hid (HCk.out le A2 c2 (by have := HEl.out; have := HLl.out; omega) HC9.out Y HBY.out HR9.out)
          generalize hcr : chkR k le = cr at hck
          obtain ⟨cr1', cr2'⟩ := cr
          dsimp only at hck
          go_upto_region 14 with (go_at_call 18; refine hck.out.mono ?_; rintro e X2 ⟨rfl, hX2⟩)
          have HBX2 := Lib.hid (HBY.out.trans (hX2.mono HBY.out.size))
          have HGX2 := Lib.hid (HGY.out.below hX2 HGY.out.lt)
          have HFX2 := Lib.hid (HFY.out.below hX2 HFY.out.lt)
          have HR10 : Hid (∀ X, Below X2.heap.size X2 X → Reads X X.heap.size 5 A2 le.length (entCells le)) := fun X hX => (((HR9.out.below hX2).more hX2.size).below hX).more hX.size
          clear hX2 hck HR9
          clear g0 g1 g2 f0 f1 f2 f3 f4 lG mG
          have sG := HGX2.out
          have vG := HFX2.out
          have g0 : X2.cell? ⟨zb, 0, none⟩ = some (.slice R.A1 k.rules.length R.c1) := sG.cell (j := 0) (by simp)
          have g1 : X2.cell? ⟨zb, 1, none⟩ = some (.slice R.A2 k.ranks.length R.c2) := sG.cell (j := 1) (by simp)
          have g2 : X2.cell? ⟨zb, 2, none⟩ = some (.slice R.A3 k.insured.length R.c3) := sG.cell (j := 2) (by simp)
          have f0 : X2.cell? ⟨zq, 0, none⟩ = some (.int .i64 ed) := vG.cell (j := 0) (by simp)
          have f1 : X2.cell? ⟨zq, 1, none⟩ = some (.int .i64 ek) := vG.cell (j := 1) (by simp)
          have f2 : X2.cell? ⟨zq, 2, none⟩ = some (.int .i64 ea) := vG.cell (j := 2) (by simp)
          have f3 : X2.cell? ⟨zq, 3, none⟩ = some (.int .i64 eb) := vG.cell (j := 3) (by simp)
          have f4 : X2.cell? ⟨zq, 4, none⟩ = some (.int .i64 ec) := vG.cell (j := 4) (by simp)
          have lG := sG.lt
          have mG := vG.lt
          clear sG vG
          by_cases h0 : cr2' = 0
          · have HOm : Hid (LogOk k le) := chkR_ok.1 (by rw [hcr]; exact h0)
            clear hcr
            subst h0
            have hmd := more_days (by rw [← HLe.out]; exact HOm.out)
            have HMd : Hid (∀ d, ed ≤ d → upL l d = l ∧ upL le d = le) := fun d hd => by rw [HLe.out]; exact hmd.2.2 d hd
            have hd1 : 0 ≤ ed ∧ ed ≤ 10000 := hmd.2.1
            clear hmd
            have e2 : IntKind.i64.wrap (ed + 2) = ed + 2 := IntWalk.i64_in _ (by omega)
            have z0 : Hid (∀ L : List Int, lsE 0 L = L) := fun L => if_pos rfl
            by_cases h2 : ek = 2
            · have hx : True := trivial
              clear hx
              have HIm : Hid (∀ (d : Int) (r : Nat), (r : Int) ∈ relS k le d → (r : Int) ∈ relS k l d) := fun d r h => by
                rw [HLe.out] at *
                exact found_rel (by exact h2) h
              subst h2
              go_upto_region 17 with fail
              clear g0 g1 g2 f0 f1 f2 f3 f4 lG mG
              go_loopw [15] (fun q wr => ∃ d : Int, q = .int .i64 d ∧ ed ≤ d ∧ d ≤ 10001 ∧ Below X2.heap.size X2 wr) (fun q _ => (10001 - intOf q).toNat)
              case atStart => exact ⟨ed, rfl, by omega, by omega, Below.refl _ _⟩
              case round =>
                obtain ⟨d, rfl, hda, hdb, hbel⟩ := hrel
                have HBL := Lib.hid hbel
                have HBr := Lib.hid (HBX2.out.trans (hbel.mono HBX2.out.size))
                have HGr := Lib.hid (HGX2.out.below hbel HGX2.out.lt)
                have HFr := Lib.hid (HFX2.out.below hbel HFX2.out.lt)
                clear hbel
                have sG := HGr.out
                have vG := HFr.out
                have g0 : wr.cell? ⟨zb, 0, none⟩ = some (.slice R.A1 k.rules.length R.c1) := sG.cell (j := 0) (by simp)
                have g1 : wr.cell? ⟨zb, 1, none⟩ = some (.slice R.A2 k.ranks.length R.c2) := sG.cell (j := 1) (by simp)
                have g2 : wr.cell? ⟨zb, 2, none⟩ = some (.slice R.A3 k.insured.length R.c3) := sG.cell (j := 2) (by simp)
                have f0 : wr.cell? ⟨zq, 0, none⟩ = some (.int .i64 ed) := vG.cell (j := 0) (by simp)
                have f1 : wr.cell? ⟨zq, 1, none⟩ = some (.int .i64 2) := vG.cell (j := 1) (by simp)
                have f2 : wr.cell? ⟨zq, 2, none⟩ = some (.int .i64 ea) := vG.cell (j := 2) (by simp)
                have f3 : wr.cell? ⟨zq, 3, none⟩ = some (.int .i64 eb) := vG.cell (j := 3) (by simp)
                have f4 : wr.cell? ⟨zq, 4, none⟩ = some (.int .i64 ec) := vG.cell (j := 4) (by simp)
                have lG := sG.lt
                have mG := vG.lt
                clear sG vG
                by_cases hc1 : d ≤ ed + 2
                · have c1 : decide (d ≤ ed + 2) = true := decide_eq_true hc1
                  by_cases hc2 : d ≤ 10000
                  · have c2' : decide (d ≤ 10000) = true := decide_eq_true hc2
                    have ed1 : IntKind.i64.wrap (d + 1) = d + 1 := IntWalk.i64_in _ (by omega)
                    have E1 : onE k l d = 0 := onE_in HOk.out ⟨by omega, hc2⟩
                    have E2 : onE k le d = 0 := onE_in HOm.out ⟨by omega, hc2⟩
                    have U := HMd.out d hda
                    have b1 := HRe.out l A c d (by have := HLl.out; omega) HLc.out
                    have b2 := HRe.out le A2 c2 d (by have := HEl.out; have := HLl.out; omega) HC9.out
                    rw [E1, U.1, z0.out] at b1
                    rw [E2, U.2, z0.out] at b2
                    have hf := HIm.out d
                    have n1 : (relS k l d).length ≤ maxLen := Nat.le_trans (numsL_len _ _) (by unfold maxLen; omega)
                    have n2 : (relS k le d).length ≤ maxLen := Nat.le_trans (numsL_len _ _) (by unfold maxLen; omega)
                    generalize relS k l d = L1 at b1 hf n1
                    generalize relS k le d = L2 at b2 hf n2
                    have B1 := Lib.hid (b1 wr HBr.out ((HRl.out wr HBr.out).more HBr.out.size))
                    have B2 := Lib.hid b2
                    have HF2 := Lib.hid hf
                    have N1 := Lib.hid n1
                    have N2 := Lib.hid n2
                    clear b1 b2 hf n1 n2 U E1 E2
                    go_upto_region 20 with (go_at_call 25; refine B1.out.mono ?_; rintro e X5 ⟨hX5, Aa, ca, rfl, hra⟩)
                    have HB5 := Lib.hid (HBL.out.trans (hX5.mono HBL.out.size))
                    have HBX5 := Lib.hid (HBr.out.trans (hX5.mono HBr.out.size))
                    have HG5 := Lib.hid (HGr.out.below hX5 HGr.out.lt)
                    have HF5 := Lib.hid (HFr.out.below hX5 HFr.out.lt)
                    have HRa := Lib.hid hra
                    clear hX5 hra c1 c2' hc1
                    clear g0 g1 g2 f0 f1 f2 f3 f4 lG mG
                    have sG := HG5.out
                    have vG := HF5.out
                    have g0 : X5.cell? ⟨zb, 0, none⟩ = some (.slice R.A1 k.rules.length R.c1) := sG.cell (j := 0) (by simp)
                    have g1 : X5.cell? ⟨zb, 1, none⟩ = some (.slice R.A2 k.ranks.length R.c2) := sG.cell (j := 1) (by simp)
                    have g2 : X5.cell? ⟨zb, 2, none⟩ = some (.slice R.A3 k.insured.length R.c3) := sG.cell (j := 2) (by simp)
                    have f0 : X5.cell? ⟨zq, 0, none⟩ = some (.int .i64 ed) := vG.cell (j := 0) (by simp)
                    have f1 : X5.cell? ⟨zq, 1, none⟩ = some (.int .i64 2) := vG.cell (j := 1) (by simp)
                    have f2 : X5.cell? ⟨zq, 2, none⟩ = some (.int .i64 ea) := vG.cell (j := 2) (by simp)
                    have f3 : X5.cell? ⟨zq, 3, none⟩ = some (.int .i64 eb) := vG.cell (j := 3) (by simp)
                    have f4 : X5.cell? ⟨zq, 4, none⟩ = some (.int .i64 ec) := vG.cell (j := 4) (by simp)
                    have lG := sG.lt
                    have mG := vG.lt
                    clear sG vG
                    have B2b := Lib.hid (B2.out X5 HBX5.out (HR10.out X5 HB5.out))
                    clear B2
                    go_upto_region 21 with (go_at_call 25; refine B2b.out.mono ?_; rintro e X6 ⟨hX6, Ab, cb, rfl, hrb⟩)
                    have HB6 := Lib.hid (HB5.out.trans (hX6.mono HB5.out.size))
                    have HBX6 := Lib.hid (HBX5.out.trans (hX6.mono HBX5.out.size))
                    have HG6 := Lib.hid (HG5.out.below hX6 HG5.out.lt)
                    have HF6 := Lib.hid (HF5.out.below hX6 HF5.out.lt)
                    have HRb := Lib.hid hrb
                    have HRa2 := Lib.hid ((HRa.out.below hX6).more hX6.size)
                    clear hX6 hrb HRa B1 B2b
                    clear g0 g1 g2 f0 f1 f2 f3 f4 lG mG
                    have sG := HG6.out
                    have vG := HF6.out
                    have g0 : X6.cell? ⟨zb, 0, none⟩ = some (.slice R.A1 k.rules.length R.c1) := sG.cell (j := 0) (by simp)
                    have g1 : X6.cell? ⟨zb, 1, none⟩ = some (.slice R.A2 k.ranks.length R.c2) := sG.cell (j := 1) (by simp)
                    have g2 : X6.cell? ⟨zb, 2, none⟩ = some (.slice R.A3 k.insured.length R.c3) := sG.cell (j := 2) (by simp)
                    have f0 : X6.cell? ⟨zq, 0, none⟩ = some (.int .i64 ed) := vG.cell (j := 0) (by simp)
                    have f1 : X6.cell? ⟨zq, 1, none⟩ = some (.int .i64 2) := vG.cell (j := 1) (by simp)
                    have f2 : X6.cell? ⟨zq, 2, none⟩ = some (.int .i64 ea) := vG.cell (j := 2) (by simp)
                    have f3 : X6.cell? ⟨zq, 3, none⟩ = some (.int .i64 eb) := vG.cell (j := 3) (by simp)
                    have f4 : X6.cell? ⟨zq, 4, none⟩ = some (.int .i64 ec) := vG.cell (j := 4) (by simp)
                    have lG := sG.lt
                    have mG := vG.lt
                    clear sG vG
                    go_upto_region 24 with fail
                    clear g0 g1 g2 f0 f1 f2 f3 f4 lG mG
                    go_loopw [20] (fun q wz => ∃ n : Nat, n ≤ k.insured.length ∧ q = .int .i64 n ∧ Below X6.heap.size X6 wz) (fun q _ => k.insured.length - (intOf q).toNat)
                    case atStart => exact ⟨0, Nat.zero_le _, rfl, Below.refl _ _⟩
                    case round =>
                      clear HBL HBr
                      obtain ⟨n, hn, rfl, hbel⟩ := hrel
                      have HBL := Lib.hid hbel
                      have HGr := Lib.hid (HG6.out.below hbel HG6.out.lt)
                      have HFr := Lib.hid (HF6.out.below hbel HF6.out.lt)
                      have H1 := Lib.hid (has_any L1 Aa ca (n : Int) wr N1.out ((HRa2.out.below hbel).more hbel.size))
                      have H2 := Lib.hid (has_any L2 Ab cb (n : Int) wr N2.out ((HRb.out.below hbel).more hbel.size))
                      clear hbel
                      have sG := HGr.out
                      have vG := HFr.out
                      have g0 : wr.cell? ⟨zb, 0, none⟩ = some (.slice R.A1 k.rules.length R.c1) := sG.cell (j := 0) (by simp)
                      have g1 : wr.cell? ⟨zb, 1, none⟩ = some (.slice R.A2 k.ranks.length R.c2) := sG.cell (j := 1) (by simp)
                      have g2 : wr.cell? ⟨zb, 2, none⟩ = some (.slice R.A3 k.insured.length R.c3) := sG.cell (j := 2) (by simp)
                      have f0 : wr.cell? ⟨zq, 0, none⟩ = some (.int .i64 ed) := vG.cell (j := 0) (by simp)
                      have f1 : wr.cell? ⟨zq, 1, none⟩ = some (.int .i64 2) := vG.cell (j := 1) (by simp)
                      have f2 : wr.cell? ⟨zq, 2, none⟩ = some (.int .i64 ea) := vG.cell (j := 2) (by simp)
                      have f3 : wr.cell? ⟨zq, 3, none⟩ = some (.int .i64 eb) := vG.cell (j := 3) (by simp)
                      have f4 : wr.cell? ⟨zq, 4, none⟩ = some (.int .i64 ec) := vG.cell (j := 4) (by simp)
                      have lG := sG.lt
                      have mG := vG.lt
                      clear sG vG
                      by_cases hlt : n < k.insured.length
                      · have n1 : (n : Int) < (k.insured.length : Int) := by omega
                        have en : IntKind.i64.wrap ((n : Int) + 1) = (n : Int) + 1 := IntWalk.i64_in _ (by omega)
                        by_cases hm : (n : Int) ∈ L2
                        · have hm2 := HF2.out n hm
                          have hx1 := H2.out
                          have hx2 := H1.out
                          rw [decide_eq_true hm] at hx1
                          rw [decide_eq_true hm2] at hx2
                          have H2 := Lib.hid hx1
                          have H1 := Lib.hid hx2
                          clear hx1 hx2 hm hm2
                          go_wp2_with (first | (go_at_call 41; with_reducible refine H1.out.mono ?_; rintro e w' ⟨rfl, hw⟩; rw [hw]; clear hw) | (go_at_call 41; with_reducible refine H2.out.mono ?_; rintro e w' ⟨rfl, hw⟩; rw [hw]; clear hw))
                          go_roundw
                          case rel => exact ⟨n + 1, by omega, by go_num, HBL.out⟩
                          case measure => simp [intOf]; omega
                        · have hx1 := H2.out
                          rw [decide_eq_false hm] at hx1
                          have H2 := Lib.hid hx1
                          clear hx1 hm
                          go_wp2_with (first | (go_at_call 41; with_reducible refine H1.out.mono ?_; rintro e w' ⟨rfl, hw⟩; rw [hw]; clear hw) | (go_at_call 41; with_reducible refine H2.out.mono ?_; rintro e w' ⟨rfl, hw⟩; rw [hw]; clear hw))
                          go_roundw
                          case rel => exact ⟨n + 1, by omega, by go_num, HBL.out⟩
                          case measure => simp [intOf]; omega
                      · have n1 : ¬ (n : Int) < (k.insured.length : Int) := by omega
                        have HBt := Lib.hid (HB6.out.trans (HBL.out.mono HB6.out.size))
                        clear hlt hn H1 H2
                        go_wp2_with fail
                        go_roundw
                        case rel => exact ⟨d + 1, by go_num, by omega, by omega, HBt.out⟩
                        case measure => simp [intOf]; omega
                  · have c2' : decide (d ≤ 10000) = false := decide_eq_false hc2
                    go_wp2_with (go_at_call 17; refine (HW.out _ HBr.out).mono ?_; rintro e w' ⟨rfl, hb⟩; have BW := Lib.hid hb; clear hb)
                    go_ret
                    exact ⟨ret_boolI (by simp), BW.out⟩
                · have c1 : decide (d ≤ ed + 2) = false := decide_eq_false hc1
                  go_wp2_with (go_at_call 17; refine (HW.out _ HBr.out).mono ?_; rintro e w' ⟨rfl, hb⟩; have BW := Lib.hid hb; clear hb)
                  go_ret
                  exact ⟨ret_boolI (by simp), BW.out⟩
            by_cases h3 : ek = 3
            · have hx : True := trivial
              clear hx
              have HIm : Hid (∀ (d : Int) (r : Nat), (r : Int) ∈ relS k l d → (r : Int) ∈ relS k le d) := fun d r h => by
                rw [HLe.out] at *
                exact mended_rel (by exact h3) h
              subst h3
              go_upto_region 17 with fail
              clear g0 g1 g2 f0 f1 f2 f3 f4 lG mG
              go_loopw [15] (fun q wr => ∃ d : Int, q = .int .i64 d ∧ ed ≤ d ∧ d ≤ 10001 ∧ Below X2.heap.size X2 wr) (fun q _ => (10001 - intOf q).toNat)
              case atStart => exact ⟨ed, rfl, by omega, by omega, Below.refl _ _⟩
              case round =>
                obtain ⟨d, rfl, hda, hdb, hbel⟩ := hrel
                have HBL := Lib.hid hbel
                have HBr := Lib.hid (HBX2.out.trans (hbel.mono HBX2.out.size))
                have HGr := Lib.hid (HGX2.out.below hbel HGX2.out.lt)
                have HFr := Lib.hid (HFX2.out.below hbel HFX2.out.lt)
                clear hbel
                have sG := HGr.out
                have vG := HFr.out
                have g0 : wr.cell? ⟨zb, 0, none⟩ = some (.slice R.A1 k.rules.length R.c1) := sG.cell (j := 0) (by simp)
                have g1 : wr.cell? ⟨zb, 1, none⟩ = some (.slice R.A2 k.ranks.length R.c2) := sG.cell (j := 1) (by simp)
                have g2 : wr.cell? ⟨zb, 2, none⟩ = some (.slice R.A3 k.insured.length R.c3) := sG.cell (j := 2) (by simp)
                have f0 : wr.cell? ⟨zq, 0, none⟩ = some (.int .i64 ed) := vG.cell (j := 0) (by simp)
                have f1 : wr.cell? ⟨zq, 1, none⟩ = some (.int .i64 3) := vG.cell (j := 1) (by simp)
                have f2 : wr.cell? ⟨zq, 2, none⟩ = some (.int .i64 ea) := vG.cell (j := 2) (by simp)
                have f3 : wr.cell? ⟨zq, 3, none⟩ = some (.int .i64 eb) := vG.cell (j := 3) (by simp)
                have f4 : wr.cell? ⟨zq, 4, none⟩ = some (.int .i64 ec) := vG.cell (j := 4) (by simp)
                have lG := sG.lt
                have mG := vG.lt
                clear sG vG
                by_cases hc1 : d ≤ ed + 2
                · have c1 : decide (d ≤ ed + 2) = true := decide_eq_true hc1
                  by_cases hc2 : d ≤ 10000
                  · have c2' : decide (d ≤ 10000) = true := decide_eq_true hc2
                    have ed1 : IntKind.i64.wrap (d + 1) = d + 1 := IntWalk.i64_in _ (by omega)
                    have E1 : onE k l d = 0 := onE_in HOk.out ⟨by omega, hc2⟩
                    have E2 : onE k le d = 0 := onE_in HOm.out ⟨by omega, hc2⟩
                    have U := HMd.out d hda
                    have b1 := HRe.out l A c d (by have := HLl.out; omega) HLc.out
                    have b2 := HRe.out le A2 c2 d (by have := HEl.out; have := HLl.out; omega) HC9.out
                    rw [E1, U.1, z0.out] at b1
                    rw [E2, U.2, z0.out] at b2
                    have hf := HIm.out d
                    have n1 : (relS k l d).length ≤ maxLen := Nat.le_trans (numsL_len _ _) (by unfold maxLen; omega)
                    have n2 : (relS k le d).length ≤ maxLen := Nat.le_trans (numsL_len _ _) (by unfold maxLen; omega)
                    generalize relS k l d = L1 at b1 hf n1
                    generalize relS k le d = L2 at b2 hf n2
                    have B1 := Lib.hid (b1 wr HBr.out ((HRl.out wr HBr.out).more HBr.out.size))
                    have B2 := Lib.hid b2
                    have HF2 := Lib.hid hf
                    have N1 := Lib.hid n1
                    have N2 := Lib.hid n2
                    clear b1 b2 hf n1 n2 U E1 E2
                    go_upto_region 20 with (go_at_call 25; refine B1.out.mono ?_; rintro e X5 ⟨hX5, Aa, ca, rfl, hra⟩)
                    have HB5 := Lib.hid (HBL.out.trans (hX5.mono HBL.out.size))
                    have HBX5 := Lib.hid (HBr.out.trans (hX5.mono HBr.out.size))
                    have HG5 := Lib.hid (HGr.out.below hX5 HGr.out.lt)
                    have HF5 := Lib.hid (HFr.out.below hX5 HFr.out.lt)
                    have HRa := Lib.hid hra
                    clear hX5 hra c1 c2' hc1
                    clear g0 g1 g2 f0 f1 f2 f3 f4 lG mG
                    have sG := HG5.out
                    have vG := HF5.out
                    have g0 : X5.cell? ⟨zb, 0, none⟩ = some (.slice R.A1 k.rules.length R.c1) := sG.cell (j := 0) (by simp)
                    have g1 : X5.cell? ⟨zb, 1, none⟩ = some (.slice R.A2 k.ranks.length R.c2) := sG.cell (j := 1) (by simp)
                    have g2 : X5.cell? ⟨zb, 2, none⟩ = some (.slice R.A3 k.insured.length R.c3) := sG.cell (j := 2) (by simp)
                    have f0 : X5.cell? ⟨zq, 0, none⟩ = some (.int .i64 ed) := vG.cell (j := 0) (by simp)
                    have f1 : X5.cell? ⟨zq, 1, none⟩ = some (.int .i64 3) := vG.cell (j := 1) (by simp)
                    have f2 : X5.cell? ⟨zq, 2, none⟩ = some (.int .i64 ea) := vG.cell (j := 2) (by simp)
                    have f3 : X5.cell? ⟨zq, 3, none⟩ = some (.int .i64 eb) := vG.cell (j := 3) (by simp)
                    have f4 : X5.cell? ⟨zq, 4, none⟩ = some (.int .i64 ec) := vG.cell (j := 4) (by simp)
                    have lG := sG.lt
                    have mG := vG.lt
                    clear sG vG
                    have B2b := Lib.hid (B2.out X5 HBX5.out (HR10.out X5 HB5.out))
                    clear B2
                    go_upto_region 21 with (go_at_call 25; refine B2b.out.mono ?_; rintro e X6 ⟨hX6, Ab, cb, rfl, hrb⟩)
                    have HB6 := Lib.hid (HB5.out.trans (hX6.mono HB5.out.size))
                    have HBX6 := Lib.hid (HBX5.out.trans (hX6.mono HBX5.out.size))
                    have HG6 := Lib.hid (HG5.out.below hX6 HG5.out.lt)
                    have HF6 := Lib.hid (HF5.out.below hX6 HF5.out.lt)
                    have HRb := Lib.hid hrb
                    have HRa2 := Lib.hid ((HRa.out.below hX6).more hX6.size)
                    clear hX6 hrb HRa B1 B2b
                    clear g0 g1 g2 f0 f1 f2 f3 f4 lG mG
                    have sG := HG6.out
                    have vG := HF6.out
                    have g0 : X6.cell? ⟨zb, 0, none⟩ = some (.slice R.A1 k.rules.length R.c1) := sG.cell (j := 0) (by simp)
                    have g1 : X6.cell? ⟨zb, 1, none⟩ = some (.slice R.A2 k.ranks.length R.c2) := sG.cell (j := 1) (by simp)
                    have g2 : X6.cell? ⟨zb, 2, none⟩ = some (.slice R.A3 k.insured.length R.c3) := sG.cell (j := 2) (by simp)
                    have f0 : X6.cell? ⟨zq, 0, none⟩ = some (.int .i64 ed) := vG.cell (j := 0) (by simp)
                    have f1 : X6.cell? ⟨zq, 1, none⟩ = some (.int .i64 3) := vG.cell (j := 1) (by simp)
                    have f2 : X6.cell? ⟨zq, 2, none⟩ = some (.int .i64 ea) := vG.cell (j := 2) (by simp)
                    have f3 : X6.cell? ⟨zq, 3, none⟩ = some (.int .i64 eb) := vG.cell (j := 3) (by simp)
                    have f4 : X6.cell? ⟨zq, 4, none⟩ = some (.int .i64 ec) := vG.cell (j := 4) (by simp)
                    have lG := sG.lt
                    have mG := vG.lt
                    clear sG vG
                    go_upto_region 24 with fail
                    clear g0 g1 g2 f0 f1 f2 f3 f4 lG mG
                    go_loopw [20] (fun q wz => ∃ n : Nat, n ≤ k.insured.length ∧ q = .int .i64 n ∧ Below X6.heap.size X6 wz) (fun q _ => k.insured.length - (intOf q).toNat)
                    case atStart => exact ⟨0, Nat.zero_le _, rfl, Below.refl _ _⟩
                    case round =>
                      clear HBL HBr
                      obtain ⟨n, hn, rfl, hbel⟩ := hrel
                      have HBL := Lib.hid hbel
                      have HGr := Lib.hid (HG6.out.below hbel HG6.out.lt)
                      have HFr := Lib.hid (HF6.out.below hbel HF6.out.lt)
                      have H1 := Lib.hid (has_any L1 Aa ca (n : Int) wr N1.out ((HRa2.out.below hbel).more hbel.size))
                      have H2 := Lib.hid (has_any L2 Ab cb (n : Int) wr N2.out ((HRb.out.below hbel).more hbel.size))
                      clear hbel
                      have sG := HGr.out
                      have vG := HFr.out
                      have g0 : wr.cell? ⟨zb, 0, none⟩ = some (.slice R.A1 k.rules.length R.c1) := sG.cell (j := 0) (by simp)
                      have g1 : wr.cell? ⟨zb, 1, none⟩ = some (.slice R.A2 k.ranks.length R.c2) := sG.cell (j := 1) (by simp)
                      have g2 : wr.cell? ⟨zb, 2, none⟩ = some (.slice R.A3 k.insured.length R.c3) := sG.cell (j := 2) (by simp)
                      have f0 : wr.cell? ⟨zq, 0, none⟩ = some (.int .i64 ed) := vG.cell (j := 0) (by simp)
                      have f1 : wr.cell? ⟨zq, 1, none⟩ = some (.int .i64 3) := vG.cell (j := 1) (by simp)
                      have f2 : wr.cell? ⟨zq, 2, none⟩ = some (.int .i64 ea) := vG.cell (j := 2) (by simp)
                      have f3 : wr.cell? ⟨zq, 3, none⟩ = some (.int .i64 eb) := vG.cell (j := 3) (by simp)
                      have f4 : wr.cell? ⟨zq, 4, none⟩ = some (.int .i64 ec) := vG.cell (j := 4) (by simp)
                      have lG := sG.lt
                      have mG := vG.lt
                      clear sG vG
                      by_cases hlt : n < k.insured.length
                      · have n1 : (n : Int) < (k.insured.length : Int) := by omega
                        have en : IntKind.i64.wrap ((n : Int) + 1) = (n : Int) + 1 := IntWalk.i64_in _ (by omega)
                        by_cases hm : (n : Int) ∈ L1
                        · have hm2 := HF2.out n hm
                          have hx1 := H1.out
                          have hx2 := H2.out
                          rw [decide_eq_true hm] at hx1
                          rw [decide_eq_true hm2] at hx2
                          have H1 := Lib.hid hx1
                          have H2 := Lib.hid hx2
                          clear hx1 hx2 hm hm2
                          go_wp2_with (first | (go_at_call 41; with_reducible refine H1.out.mono ?_; rintro e w' ⟨rfl, hw⟩; rw [hw]; clear hw) | (go_at_call 41; with_reducible refine H2.out.mono ?_; rintro e w' ⟨rfl, hw⟩; rw [hw]; clear hw))
                          go_roundw
                          case rel => exact ⟨n + 1, by omega, by go_num, HBL.out⟩
                          case measure => simp [intOf]; omega
                        · have hx1 := H1.out
                          rw [decide_eq_false hm] at hx1
                          have H1 := Lib.hid hx1
                          clear hx1 hm
                          go_wp2_with (first | (go_at_call 41; with_reducible refine H1.out.mono ?_; rintro e w' ⟨rfl, hw⟩; rw [hw]; clear hw) | (go_at_call 41; with_reducible refine H2.out.mono ?_; rintro e w' ⟨rfl, hw⟩; rw [hw]; clear hw))
                          go_roundw
                          case rel => exact ⟨n + 1, by omega, by go_num, HBL.out⟩
                          case measure => simp [intOf]; omega
                      · have n1 : ¬ (n : Int) < (k.insured.length : Int) := by omega
                        have HBt := Lib.hid (HB6.out.trans (HBL.out.mono HB6.out.size))
                        clear hlt hn H1 H2
                        go_wp2_with fail
                        go_roundw
                        case rel => exact ⟨d + 1, by go_num, by omega, by omega, HBt.out⟩
                        case measure => simp [intOf]; omega
                  · have c2' : decide (d ≤ 10000) = false := decide_eq_false hc2
                    go_wp2_with (go_at_call 17; refine (HW.out _ HBr.out).mono ?_; rintro e w' ⟨rfl, hb⟩; have BW := Lib.hid hb; clear hb)
                    go_ret
                    exact ⟨ret_boolI (by simp), BW.out⟩
                · have c1 : decide (d ≤ ed + 2) = false := decide_eq_false hc1
                  go_wp2_with (go_at_call 17; refine (HW.out _ HBr.out).mono ?_; rintro e w' ⟨rfl, hb⟩; have BW := Lib.hid hb; clear hb)
                  go_ret
                  exact ⟨ret_boolI (by simp), BW.out⟩
            have c2' : decide (ek = 2) = false := decide_eq_false h2
            have c2b : (ek == 2) = false := by simpa using h2
            have c3' : decide (ek = 3) = false := decide_eq_false h3
            have c3b : (ek == 3) = false := by simpa using h3
            have c2n : (ek != 2) = true := by simpa using h2
            have c3n : (ek != 3) = true := by simpa using h3
            go_wp2_with (go_at_call 17; refine (HW.out _ HBX2.out).mono ?_; rintro e w' ⟨rfl, hb⟩; have BW := Lib.hid hb; clear hb)
            go_ret
            exact ⟨ret_boolI (by simp), BW.out⟩
          · have d1 : decide (cr2' = 0) = false := decide_eq_false h0
            have d2 : (cr2' == 0) = false := by simpa using h0
            go_wp2_with (go_at_call 17; refine (HW.out _ HBX2.out).mono ?_; rintro e w' ⟨rfl, hb⟩; have BW := Lib.hid hb; clear hb)
            go_ret
            exact ⟨ret_boolI (by simp), BW.out⟩
  · have d1 : decide (cr2 = 0) = false := decide_eq_false h0
    have d2 : (cr2 == 0) = false := by simpa using h0
    go_wp2_with (go_at_call 17; refine (HW.out _ HBX1.out).mono ?_; rintro e w' ⟨rfl, hb⟩; have BW := Lib.hid hb; clear hb)
    go_ret
    exact ⟨ret_boolI (by simp), BW.out⟩
end Go.Proofs.Ytiajemflnmijfaa
