/- The contracts of Signs, of inspect and of the specification. Conditions: a book that reads as data. -/
import Derived.Test.YtaocgkmobfocjaaIar
namespace Go.Proofs.Ytaocgkmobfocjaa
open Go.RowKit

/-- The error of a book and a rule; the pairs that may sign. -/
def sgE (k : BookZ) (rule : Int) : Int := if bookB k = true then if inB rule 0 ((k.rules.length : Int) - 1) = true then 0 else 1 else 100
def sgL (k : BookZ) (rule : Int) : List Nat := if sgE k rule = 0 then sgN k (k.rules.getD rule.toNat default) (k.ranks.length * (k.ranks.length + 1)) else []
/-- A slice of pairs, and an error. -/
def PsTo (w : World) (M : Nat) (E : Int) (L : List Nat) (e : Ending) (w' : World) : Prop :=
  Below w.heap.size w w' ∧ ∃ A c, e = .returned (.tuple #[.slice A L.length c, .int .i64 E]) ∧ Reads w' w'.heap.size 2 A L.length (prCells M L)
theorem PsTo.bad {w w' : World} {M : Nat} {E : Int} {L : List Nat} (h : L = []) (hb : Below w.heap.size w w') : PsTo w M E L (.returned (.tuple #[.slice none 0 0, .int .i64 E])) w' := by
  subst h
  exact ⟨hb, none, 0, rfl, ⟨rfl, fun h => absurd h (by simp)⟩⟩
structure SgR (U : World) (R : BkR) (k : BookZ) (u : RuZ) (L : List Nat) (zb b o i : Nat) (done : Nat → Bool) (xs : Nat → Value) (y : World) : Prop where
  bl : Below U.heap.size U y
  m6 : done 6 = true → ∃ A2 c2, xs 6 = .slice A2 L.length c2 ∧ Reads y y.heap.size 2 A2 L.length (prCells (k.ranks.length + 1) L)
  m7 : done 7 = true → ∃ A2 c2, xs 7 = .slice A2 L.length c2 ∧ Reads y y.heap.size 2 A2 L.length (prCells (k.ranks.length + 1) L)
  v0 : done 0 = true → xs 0 = .agg #[.slice (some ⟨b, o, none⟩) k.rules.length R.c1, .slice R.A2 k.ranks.length R.c2, .slice R.A3 k.insured.length R.c3]
  v1 : done 1 = true → xs 1 = .pointer (some ⟨zb, 0, none⟩)
  v2 : done 2 = true → xs 2 = .slice (some ⟨b, o, none⟩) k.rules.length R.c1
  v3 : done 3 = true → xs 3 = .int .i64 (i : Int)
  v4 : done 4 = true → xs 4 = .pointer (some ⟨b, o + i * 4, none⟩)
  v5 : done 5 = true → xs 5 = .agg #[.int .i64 u.ride, .int .i64 u.every, .int .i64 u.rank, .bool u.two]
  v8 : done 8 = true → xs 8 = .int .i64 0
set_option maxRecDepth 100000 in
set_option maxHeartbeats 2000000 in
theorem Signs_any (k : BookZ) (R : BkR) (rule : Int) (B : Nat) (w : World) (hB : B ≤ w.heap.size) (hk : BkIn w B k R) :
    Calls Try.prog 38 #[bookV k R, .int .i64 rule] w (PsTo w (k.ranks.length + 1) (sgE k rule) (sgL k rule)) := by
  obtain ⟨W, hW⟩ : ∃ W, W = w.alloc (.cells #[.slice R.A1 k.rules.length R.c1, .slice R.A2 k.ranks.length R.c2, .slice R.A3 k.insured.length R.c3] 25) := ⟨_, rfl⟩
  have bW : Below w.heap.size w W := by subst hW; exact (Below.refl _ _).alloc (Nat.le_refl _) _
  have r0 : Row W w.heap.size 25 [.slice R.A1 k.rules.length R.c1, .slice R.A2 k.ranks.length R.c2, .slice R.A3 k.insured.length R.c3] := by subst hW; exact Row.new w _ _
  obtain ⟨zb, hzb⟩ : ∃ z, z = w.heap.size := ⟨_, rfl⟩
  rw [← hzb] at r0
  have q0 : W.cell? ⟨zb, 0, none⟩ = some (.slice R.A1 k.rules.length R.c1) := r0.cell (j := 0) (by simp)
  have q1 : W.cell? ⟨zb, 1, none⟩ = some (.slice R.A2 k.ranks.length R.c2) := r0.cell (j := 1) (by simp)
  have q2 : W.cell? ⟨zb, 2, none⟩ = some (.slice R.A3 k.insured.length R.c3) := r0.cell (j := 2) (by simp)
  have lW := r0.lt
  have HBW := Lib.hid bW
  have HR0 := Lib.hid r0
  have hl1 := hk.l1
  unfold maxLen at hl1
  have HV := Lib.hid (valid_any k R B W (Nat.le_trans hB bW.size) (hk.below (bW.mono hB)))
  have HI : Hid (∀ X, Calls Try.prog 69 #[bookV k R, .int .i64 rule] X fun e w' => e = .returned (.bool (inB rule 0 ((k.rules.length : Int) - 1))) ∧ Below X.heap.size X w') := fun X => isRule_any k R rule hk.l1 X
  have HSg0 : Hid (∀ (u : RuZ) (X : World), k.ranks.length ≤ 8 → Below w.heap.size w X → Calls Try.prog 70 #[bookV k R, ruV u] X (PrTo X (k.ranks.length + 1) (sgN k u (k.ranks.length * (k.ranks.length + 1))))) := fun u X h8 hX => signers_any k R u B X (Nat.le_trans hB hX.size) (hk.below (hX.mono hB)) h8
  have HRd : Hid (∀ (i : Nat) (hi : i < k.rules.length) (X : World), Below w.heap.size w X → ∃ b o, R.A1 = some ⟨b, o, none⟩ ∧ b < X.heap.size ∧ X.cell? ⟨b, o + i * 4, none⟩ = some (.int .i64 k.rules[i].ride) ∧ X.cell? ⟨b, o + i * 4 + 1, none⟩ = some (.int .i64 k.rules[i].every) ∧ X.cell? ⟨b, o + i * 4 + 2, none⟩ = some (.int .i64 k.rules[i].rank) ∧ X.cell? ⟨b, o + i * 4 + 3, none⟩ = some (.bool k.rules[i].two)) := fun i hi X hX => by
    obtain ⟨b, o, h1, h2, h3, h4, h5, h6⟩ := ru_at (hk.rules.below (hX.mono hB)) hi
    exact ⟨b, o, h1, by have := hX.size; omega, h3, h4, h5, h6⟩
  have HE : Hid (sgE k rule = if bookB k = true then if inB rule 0 ((k.rules.length : Int) - 1) = true then 0 else 1 else 100) := rfl
  have HL : Hid (sgL k rule = if sgE k rule = 0 then sgN k (k.rules.getD rule.toNat default) (k.ranks.length * (k.ranks.length + 1)) else []) := rfl
  have HBl := Lib.hid (fun h => book_lens (k := k) h)
  generalize sgL k rule = LL at HL ⊢
  generalize sgE k rule = EE at HE HL ⊢
  unfold bookV ruV at *
  clear bW r0 hk hB
  cases hb : bookB k with
  | false =>
    rw [hb] at HV HE
    have he : EE = 100 := HE.out
    subst he
    have HLn : Hid (LL = []) := HL.out
    clear hb
    go_enter Try.func38, Try.ntmps38
    go_upto_region 1 with fail
    rw [← hW, ← hzb]
    clear hW hzb
    go_wp2_with (go_at_call 61; refine HV.out.mono ?_; rintro e X ⟨rfl, hX⟩; have HX := Lib.hid (HBW.out.trans (hX.mono HBW.out.size)); clear hX)
    go_ret2
    exact PsTo.bad HLn.out HX.out
  | true =>
    have hn8 := (HBl.out hb).2.1
    rw [hb] at HV HE
    clear hb
    cases hi : inB rule 0 ((k.rules.length : Int) - 1) with
    | false =>
      rw [hi] at HI HE
      have he : EE = 1 := HE.out
      subst he
      have HLn : Hid (LL = []) := HL.out
      clear hi
      go_enter Try.func38, Try.ntmps38
      go_upto_region 1 with fail
      rw [← hW, ← hzb]
      clear hW hzb
      go_upto_region 3 with (go_at_call 61; refine HV.out.mono ?_; rintro e X ⟨rfl, hX⟩)
      have HBX := Lib.hid (HBW.out.trans (hX.mono HBW.out.size))
      have HGX := Lib.hid (HR0.out.below hX HR0.out.lt)
      have g0 : X.cell? ⟨zb, 0, none⟩ = some (.slice R.A1 k.rules.length R.c1) := HGX.out.cell (j := 0) (by simp)
      have g1 : X.cell? ⟨zb, 1, none⟩ = some (.slice R.A2 k.ranks.length R.c2) := HGX.out.cell (j := 1) (by simp)
      have g2 : X.cell? ⟨zb, 2, none⟩ = some (.slice R.A3 k.insured.length R.c3) := HGX.out.cell (j := 2) (by simp)
      have lX := HGX.out.lt
      clear hX q0 q1 q2 lW
      go_wp2_with (go_at_call 69; refine (HI.out X).mono ?_; rintro e Y ⟨rfl, hY⟩; have HY := Lib.hid (HBX.out.trans (hY.mono HBX.out.size)); clear hY)
      go_ret2
      exact PsTo.bad HLn.out HY.out
    | true =>
      have hin := inI_le hi
      rw [hi] at HI HE
      have he : EE = 0 := HE.out
      subst he
      obtain ⟨i, hii⟩ : ∃ i, i = rule.toNat := ⟨_, rfl⟩
      have hir : rule = (i : Int) := by omega
      have hil : i < k.rules.length := by omega
      have HLn : Hid (LL = sgN k k.rules[i] (k.ranks.length * (k.ranks.length + 1))) := by
        show _ = _
        rw [HL.out, if_pos rfl, ← hii, rules_at hil]
      subst hir
      have HRi := Lib.hid (HRd.out i hil)
      have HSg1 := Lib.hid (fun X hX => HSg0.out k.rules[i] X hn8 hX)
      generalize k.rules[i] = u at HRi HSg1 HLn
      have hi1 : ¬ (i : Int) < 0 := by omega
      have hi2 : (i : Int) < (k.rules.length : Int) := by omega
      clear hi hii hin hil HRd HSg0 HL HE HBl
      go_enter Try.func38, Try.ntmps38
      go_upto_region 1 with fail
      rw [← hW, ← hzb]
      clear hW hzb
      go_upto_region 3 with (go_at_call 61; refine HV.out.mono ?_; rintro e X0 ⟨rfl, hX⟩)
      have HBX0 := Lib.hid (HBW.out.trans (hX.mono HBW.out.size))
      have HGX0 := Lib.hid (HR0.out.below hX HR0.out.lt)
      have g0 : X0.cell? ⟨zb, 0, none⟩ = some (.slice R.A1 k.rules.length R.c1) := HGX0.out.cell (j := 0) (by simp)
      have g1 : X0.cell? ⟨zb, 1, none⟩ = some (.slice R.A2 k.ranks.length R.c2) := HGX0.out.cell (j := 1) (by simp)
      have g2 : X0.cell? ⟨zb, 2, none⟩ = some (.slice R.A3 k.insured.length R.c3) := HGX0.out.cell (j := 2) (by simp)
      have lX0 := HGX0.out.lt
      clear hX q0 q1 q2 lW HV
      go_upto_region 5 with (go_at_call 69; refine (HI.out X0).mono ?_; rintro e X ⟨rfl, hX⟩)
      have HBX := Lib.hid (HBX0.out.trans (hX.mono HBX0.out.size))
      have HGX := Lib.hid (HGX0.out.below hX HGX0.out.lt)
      clear hX g0 g1 g2 lX0 HI
      obtain ⟨b, o, hA, -, -⟩ := HRi.out X HBX.out
      have HRc : Hid (R.A1 = some ⟨b, o, none⟩) := hA
      have HGX2 : Row X zb 25 [.slice (some ⟨b, o, none⟩) k.rules.length R.c1, .slice R.A2 k.ranks.length R.c2, .slice R.A3 k.insured.length R.c3] := by rw [← hA]; exact HGX.out
      clear HGX
      have HGX := Lib.hid HGX2
      clear HGX2
      have HRu : Hid (∀ y, Below X.heap.size X y → b < y.heap.size ∧ y.cell? ⟨b, o + i * 4, none⟩ = some (.int .i64 u.ride) ∧ y.cell? ⟨b, o + i * 4 + 1, none⟩ = some (.int .i64 u.every) ∧ y.cell? ⟨b, o + i * 4 + 2, none⟩ = some (.int .i64 u.rank) ∧ y.cell? ⟨b, o + i * 4 + 3, none⟩ = some (.bool u.two)) := fun y hy => by
        obtain ⟨b2, o2, h1, h2⟩ := HRi.out y (HBX.out.trans (hy.mono HBX.out.size))
        rw [hA] at h1
        injection h1 with h1
        injection h1 with h1a h1b
        subst h1a
        subst h1b
        exact h2
      obtain ⟨L, hL⟩ : ∃ L, L = sgN k u (k.ranks.length * (k.ranks.length + 1)) := ⟨_, rfl⟩
      rw [← hL] at HSg1 HLn
      have HSg : Hid (∀ y, Below X.heap.size X y → Calls Try.prog 70 #[.agg #[.slice (some ⟨b, o, none⟩) k.rules.length R.c1, .slice R.A2 k.ranks.length R.c2, .slice R.A3 k.insured.length R.c3], .agg #[.int .i64 u.ride, .int .i64 u.every, .int .i64 u.rank, .bool u.two]] y (PrTo y (k.ranks.length + 1) L)) := fun y hy => by
        have h := HSg1.out y (HBX.out.trans (hy.mono HBX.out.size))
        rw [hA] at h
        exact h
      rw [hA]
      clear hA hL HSg1 HRi
      refine wp_region_stepsY 9 (ord := [0, 1, 2, 3, 4, 5, 6, 7, 8]) (ds := [(0, 13), (1, 14), (2, 15), (3, 16), (4, 17), (5, 18), (6, 19), (7, 4), (8, 5)]) (I := SgR X R k u L zb b o i) (by kernel_rfl) (by kernel_rfl) rfl ?iy (StepsY.cons (k := 0) (k' := 1) (o := ⟨some 13, _, _, _, _, _⟩) rfl rfl ?sy0 (StepsY.cons (k := 1) (k' := 2) (o := ⟨some 14, _, _, _, _, _⟩) rfl rfl ?sy1 (StepsY.cons (k := 2) (k' := 3) (o := ⟨some 15, _, _, _, _, _⟩) rfl rfl ?sy2 (StepsY.cons (k := 3) (k' := 4) (o := ⟨some 16, _, _, _, _, _⟩) rfl rfl ?sy3 (StepsY.cons (k := 4) (k' := 5) (o := ⟨some 17, _, _, _, _, _⟩) rfl rfl ?sy4 (StepsY.cons (k := 5) (k' := 6) (o := ⟨some 18, _, _, _, _, _⟩) rfl rfl ?sy5 (StepsY.cons (k := 6) (k' := 7) (o := ⟨some 19, _, _, _, _, _⟩) rfl rfl ?sy6 (StepsY.cons (k := 7) (k' := 8) (o := ⟨some 4, _, _, _, _, _⟩) rfl rfl ?sy7 (StepsY.cons (k := 8) (k' := 9) (o := ⟨some 5, _, _, _, _, _⟩) rfl rfl ?sy8 StepsY.nil))))))))) ?finy
      case iy => exact fun xs => ⟨(Below.refl _ _).drew, fun h => Bool.noConfusion h, fun h => Bool.noConfusion h, fun h => Bool.noConfusion h, fun h => Bool.noConfusion h, fun h => Bool.noConfusion h, fun h => Bool.noConfusion h, fun h => Bool.noConfusion h, fun h => Bool.noConfusion h, fun h => Bool.noConfusion h⟩
      case sy0 =>
        intro xs done y hI hd0 hup hdn K hK
        refine wpOp_go (o := ⟨some 13, _, _, _, _, _⟩) rfl rfl ?_
        simp only [putsF, List.foldl_cons, List.foldl_nil, Act.put, List.setIfInBounds_toArray, List.set_cons_zero, List.set_cons_succ] at hK ⊢
        have rG := HGX.out.below hI.bl HGX.out.lt
        have lG := rG.lt
        have g0 : y.cell? ⟨zb, 0, none⟩ = some (.slice (some ⟨b, o, none⟩) k.rules.length R.c1) := rG.cell (j := 0) (by simp)
        have g1 : y.cell? ⟨zb, 1, none⟩ = some (.slice R.A2 k.ranks.length R.c2) := rG.cell (j := 1) (by simp)
        have g2 : y.cell? ⟨zb, 2, none⟩ = some (.slice R.A3 k.insured.length R.c3) := rG.cell (j := 2) (by simp)
        go_wp2_with fail
        exact hK.out _ _ ⟨hI.bl, hI.m6, hI.m7, fun _ => rfl, hI.v1, hI.v2, hI.v3, hI.v4, hI.v5, hI.v8⟩
      case sy1 =>
        intro xs done y hI hd0 hup hdn K hK
        refine wpOp_go (o := ⟨some 14, _, _, _, _, _⟩) rfl rfl ?_
        simp only [putsF, List.foldl_cons, List.foldl_nil, Act.put, List.setIfInBounds_toArray, List.set_cons_zero, List.set_cons_succ] at hK ⊢
        go_wp2_with fail
        exact hK.out _ _ ⟨hI.bl, hI.m6, hI.m7, hI.v0, fun _ => rfl, hI.v2, hI.v3, hI.v4, hI.v5, hI.v8⟩
      case sy2 =>
        intro xs done y hI hd0 hup hdn K hK
        refine wpOp_go (o := ⟨some 15, _, _, _, _, _⟩) rfl rfl ?_
        have e1 := hI.v1 (hdn 1 (by kernel_rfl))
        simp only [putsF, List.foldl_cons, List.foldl_nil, Act.put, List.setIfInBounds_toArray, List.set_cons_zero, List.set_cons_succ] at hK ⊢
        simp only [e1] at hK ⊢
        have rG := HGX.out.below hI.bl HGX.out.lt
        have lG := rG.lt
        have g0 : y.cell? ⟨zb, 0, none⟩ = some (.slice (some ⟨b, o, none⟩) k.rules.length R.c1) := rG.cell (j := 0) (by simp)
        have g1 : y.cell? ⟨zb, 1, none⟩ = some (.slice R.A2 k.ranks.length R.c2) := rG.cell (j := 1) (by simp)
        have g2 : y.cell? ⟨zb, 2, none⟩ = some (.slice R.A3 k.insured.length R.c3) := rG.cell (j := 2) (by simp)
        go_wp2_with fail
        exact hK.out _ _ ⟨hI.bl, hI.m6, hI.m7, hI.v0, hI.v1, fun _ => rfl, hI.v3, hI.v4, hI.v5, hI.v8⟩
      case sy3 =>
        intro xs done y hI hd0 hup hdn K hK
        refine wpOp_go (o := ⟨some 16, _, _, _, _, _⟩) rfl rfl ?_
        simp only [putsF, List.foldl_cons, List.foldl_nil, Act.put, List.setIfInBounds_toArray, List.set_cons_zero, List.set_cons_succ] at hK ⊢
        go_wp2_with fail
        exact hK.out _ _ ⟨hI.bl, hI.m6, hI.m7, hI.v0, hI.v1, hI.v2, fun _ => rfl, hI.v4, hI.v5, hI.v8⟩
      case sy4 =>
        intro xs done y hI hd0 hup hdn K hK
        refine wpOp_go (o := ⟨some 17, _, _, _, _, _⟩) rfl rfl ?_
        have e2 := hI.v2 (hdn 2 (by kernel_rfl))
        have e3 := hI.v3 (hdn 3 (by kernel_rfl))
        simp only [putsF, List.foldl_cons, List.foldl_nil, Act.put, List.setIfInBounds_toArray, List.set_cons_zero, List.set_cons_succ] at hK ⊢
        simp only [e2, e3] at hK ⊢
        go_wp2_with fail
        exact hK.out _ _ ⟨hI.bl, hI.m6, hI.m7, hI.v0, hI.v1, hI.v2, hI.v3, fun _ => rfl, hI.v5, hI.v8⟩
      case sy5 =>
        intro xs done y hI hd0 hup hdn K hK
        refine wpOp_go (o := ⟨some 18, _, _, _, _, _⟩) rfl rfl ?_
        have e4 := hI.v4 (hdn 4 (by kernel_rfl))
        simp only [putsF, List.foldl_cons, List.foldl_nil, Act.put, List.setIfInBounds_toArray, List.set_cons_zero, List.set_cons_succ] at hK ⊢
        simp only [e4] at hK ⊢
        obtain ⟨lb, x0, x1, x2, x3⟩ := HRu.out y hI.bl
        go_wp2_with fail
        exact hK.out _ _ ⟨hI.bl, hI.m6, hI.m7, hI.v0, hI.v1, hI.v2, hI.v3, hI.v4, fun _ => rfl, hI.v8⟩
      case sy6 =>
        intro xs done y hI hd0 hup hdn K hK
        refine wpOp_go (o := ⟨some 19, _, _, _, _, _⟩) rfl rfl ?_
        have e0 := hI.v0 (hdn 0 (by kernel_rfl))
        have e5 := hI.v5 (hdn 5 (by kernel_rfl))
        simp only [putsF, List.foldl_cons, List.foldl_nil, Act.put, List.setIfInBounds_toArray, List.set_cons_zero, List.set_cons_succ] at hK ⊢
        simp only [e0, e5] at hK ⊢
        have hq := HSg.out y hI.bl
        go_wp2_with (go_at_call 70; (with_reducible refine hq.mono ?_); rintro e z ⟨hb4, A2, c2, rfl, hrz⟩)
        exact hK.out _ _ ⟨(hI.bl.trans (hb4.mono hI.bl.size)), (fun _ => ⟨_, _, rfl, hrz⟩), (fun h => Bool.noConfusion ((hup 7 (by kernel_rfl)).symm.trans h)), hI.v0, hI.v1, hI.v2, hI.v3, hI.v4, hI.v5, hI.v8⟩
      case sy7 =>
        intro xs done y hI hd0 hup hdn K hK
        refine wpOp_go (o := ⟨some 4, _, _, _, _, _⟩) rfl rfl ?_
        have hm6 := hI.m6 (hdn 6 (by kernel_rfl))
        simp only [putsF, List.foldl_cons, List.foldl_nil, Act.put, List.setIfInBounds_toArray, List.set_cons_zero, List.set_cons_succ] at hK ⊢
        obtain ⟨A2, c2, e8, hr8⟩ := hm6
        simp only [e8] at hK ⊢
        go_wp2_with fail
        exact hK.out _ _ ⟨hI.bl, hI.m6, (fun _ => ⟨_, _, rfl, hr8⟩), hI.v0, hI.v1, hI.v2, hI.v3, hI.v4, hI.v5, hI.v8⟩
      case sy8 =>
        intro xs done y hI hd0 hup hdn K hK
        refine wpOp_go (o := ⟨some 5, _, _, _, _, _⟩) rfl rfl ?_
        simp only [putsF, List.foldl_cons, List.foldl_nil, Act.put, List.setIfInBounds_toArray, List.set_cons_zero, List.set_cons_succ] at hK ⊢
        go_wp2_with fail
        exact hK.out _ _ ⟨hI.bl, hI.m6, hI.m7, hI.v0, hI.v1, hI.v2, hI.v3, hI.v4, hI.v5, fun _ => rfl⟩
      case finy =>
        intro xs done y hI hdn
        have HBy := Lib.hid (HBX.out.trans (hI.bl.mono HBX.out.size))
        have e8 := hI.v8 (hdn 8 (by decide))
        obtain ⟨A2, c2, e7, hr7⟩ := hI.m7 (hdn 7 (by decide))
        have HR7 := Lib.hid hr7
        simp only [putsF, List.foldl_cons, List.foldl_nil, Act.put, List.setIfInBounds_toArray, List.set_cons_zero, List.set_cons_succ]
        simp only [e7, e8]
        clear e7 e8 hI hdn hr7
        go_wp2_with fail
        rw [HLn.out]
        go_ret2
        exact ⟨HBy.out, A2, c2, rfl, HR7.out⟩
set_option maxRecDepth 100000 in
set_option maxHeartbeats 2000000 in
theorem rSigns_any (k : BookZ) (R : BkR) (rule : Int) (B : Nat) (w : World) (hB : B ≤ w.heap.size) (hk : BkIn w B k R) :
    Calls Try.prog 39 #[bookV k R, .int .i64 rule] w (PsTo w (k.ranks.length + 1) (sgE k rule) (sgL k rule)) := by
  obtain ⟨W, hW⟩ : ∃ W, W = w.alloc (.cells #[.slice R.A1 k.rules.length R.c1, .slice R.A2 k.ranks.length R.c2, .slice R.A3 k.insured.length R.c3] 25) := ⟨_, rfl⟩
  have bW : Below w.heap.size w W := by subst hW; exact (Below.refl _ _).alloc (Nat.le_refl _) _
  have r0 : Row W w.heap.size 25 [.slice R.A1 k.rules.length R.c1, .slice R.A2 k.ranks.length R.c2, .slice R.A3 k.insured.length R.c3] := by subst hW; exact Row.new w _ _
  obtain ⟨zb, hzb⟩ : ∃ z, z = w.heap.size := ⟨_, rfl⟩
  rw [← hzb] at r0
  have q0 : W.cell? ⟨zb, 0, none⟩ = some (.slice R.A1 k.rules.length R.c1) := r0.cell (j := 0) (by simp)
  have q1 : W.cell? ⟨zb, 1, none⟩ = some (.slice R.A2 k.ranks.length R.c2) := r0.cell (j := 1) (by simp)
  have q2 : W.cell? ⟨zb, 2, none⟩ = some (.slice R.A3 k.insured.length R.c3) := r0.cell (j := 2) (by simp)
  have lW := r0.lt
  have HBW := Lib.hid bW
  have HR0 := Lib.hid r0
  have hl1 := hk.l1
  unfold maxLen at hl1
  have HV := Lib.hid (rbook_any k R B W (Nat.le_trans hB bW.size) (hk.below (bW.mono hB)))
  have HI : Hid (∀ X, Calls Try.prog 66 #[.int .i64 rule, .int .i64 0, .int .i64 ((k.rules.length : Int) - 1)] X fun e w' => e = .returned (.bool (inB rule 0 ((k.rules.length : Int) - 1))) ∧ w' = X) := fun X => within_any rule 0 _ X
  have HM0 : Hid (∀ (i : Nat) (hi : i < k.rules.length) (a b : Int) (X : World), Below w.heap.size w X → Calls Try.prog 71 #[bookV k R, .int .i64 (i : Int), .int .i64 a, .int .i64 b] X fun e w' => e = .returned (.bool (signB k k.rules[i] a b)) ∧ Below X.heap.size X w') := fun i hi a b X hX => rsigns_any k R B i a b X (Nat.le_trans hB hX.size) (hk.below (hX.mono hB)) hi
  have ew : IntKind.i64.wrap ((k.rules.length : Int) - 1) = (k.rules.length : Int) - 1 := IntWalk.i64_in _ (by omega)
  have HE : Hid (sgE k rule = if bookB k = true then if inB rule 0 ((k.rules.length : Int) - 1) = true then 0 else 1 else 100) := rfl
  have HL : Hid (sgL k rule = if sgE k rule = 0 then sgN k (k.rules.getD rule.toNat default) (k.ranks.length * (k.ranks.length + 1)) else []) := rfl
  have HBl := Lib.hid (fun h => book_lens (k := k) h)
  generalize sgL k rule = LL at HL ⊢
  generalize sgE k rule = EE at HE HL ⊢
  obtain ⟨i0, hi, hz0, hz1, hz2⟩ := info_parts Try.info_pairI
  unfold bookV bkE at *
  clear bW r0 hk hB
  cases hb : bookB k with
  | false =>
    rw [hb] at HV HE
    rw [if_neg (by decide)] at HV
    have he : EE = 100 := HE.out
    subst he
    have HLn : Hid (LL = []) := HL.out
    clear hb
    go_enter Try.func39, Try.ntmps39
    go_upto_region 1 with fail
    rw [← hW, ← hzb]
    clear hW hzb
    go_wp2_with (go_at_call 45; refine HV.out.mono ?_; rintro e X ⟨rfl, hX⟩; have HX := Lib.hid (HBW.out.trans (hX.mono HBW.out.size)); clear hX)
    go_ret2
    exact PsTo.bad HLn.out HX.out
  | true =>
    have hn8 := (HBl.out hb).2.1
    rw [hb] at HV HE
    rw [if_pos rfl] at HV
    clear hb
    cases hj : inB rule 0 ((k.rules.length : Int) - 1) with
    | false =>
      rw [hj] at HI HE
      have he : EE = 1 := HE.out
      subst he
      have HLn : Hid (LL = []) := HL.out
      clear hj
      go_enter Try.func39, Try.ntmps39
      go_upto_region 1 with fail
      rw [← hW, ← hzb]
      clear hW hzb
      go_upto_region 4 with (go_at_call 45; refine HV.out.mono ?_; rintro e X ⟨rfl, hX⟩)
      have HBX := Lib.hid (HBW.out.trans (hX.mono HBW.out.size))
      have HGX := Lib.hid (HR0.out.below hX HR0.out.lt)
      have g0 : X.cell? ⟨zb, 0, none⟩ = some (.slice R.A1 k.rules.length R.c1) := HGX.out.cell (j := 0) (by simp)
      have g1 : X.cell? ⟨zb, 1, none⟩ = some (.slice R.A2 k.ranks.length R.c2) := HGX.out.cell (j := 1) (by simp)
      have g2 : X.cell? ⟨zb, 2, none⟩ = some (.slice R.A3 k.insured.length R.c3) := HGX.out.cell (j := 2) (by simp)
      have lX := HGX.out.lt
      clear hX q0 q1 q2 lW
      go_wp2_with (go_at_call 66; refine (HI.out X).mono ?_; rintro e Y ⟨rfl, hY⟩; rw [hY]; clear hY)
      go_ret2
      exact PsTo.bad HLn.out HBX.out
    | true =>
      have hin := inI_le hj
      rw [hj] at HI HE
      have he : EE = 0 := HE.out
      subst he
      obtain ⟨i, hii⟩ : ∃ i, i = rule.toNat := ⟨_, rfl⟩
      have hir : rule = (i : Int) := by omega
      have hil : i < k.rules.length := by omega
      have HLn : Hid (LL = sgN k k.rules[i] (k.ranks.length * (k.ranks.length + 1))) := by
        show _ = _
        rw [HL.out, if_pos rfl, ← hii, rules_at hil]
      subst hir
      have HM := Lib.hid (fun a b X hX => HM0.out i hil a b X hX)
      generalize k.rules[i] = u at HM HLn
      clear hj hii hin hil HM0 HL HE HBl
      go_enter Try.func39, Try.ntmps39
      go_upto_region 1 with fail
      rw [← hW, ← hzb]
      clear hW hzb
      go_upto_region 4 with (go_at_call 45; refine HV.out.mono ?_; rintro e X ⟨rfl, hX⟩)
      have HBX := Lib.hid (HBW.out.trans (hX.mono HBW.out.size))
      have HGX := Lib.hid (HR0.out.below hX HR0.out.lt)
      have g0 : X.cell? ⟨zb, 0, none⟩ = some (.slice R.A1 k.rules.length R.c1) := HGX.out.cell (j := 0) (by simp)
      have g1 : X.cell? ⟨zb, 1, none⟩ = some (.slice R.A2 k.ranks.length R.c2) := HGX.out.cell (j := 1) (by simp)
      have g2 : X.cell? ⟨zb, 2, none⟩ = some (.slice R.A3 k.insured.length R.c3) := HGX.out.cell (j := 2) (by simp)
      have lX := HGX.out.lt
      clear hX q0 q1 q2 lW HV
      go_upto_region 8 with (go_at_call 66; refine (HI.out X).mono ?_; rintro e Y ⟨rfl, hY⟩; rw [hY]; clear hY)
      clear g0 g1 g2 lX HI ew
      go_loopw [7, 8] (fun v q wr => ∃ n : Nat, n ≤ k.ranks.length ∧ q = .int .i64 (n : Int) ∧ Hid (SgIn X wr k u v (n * (k.ranks.length + 1)))) (fun _ q _ => k.ranks.length - (intOf q).toNat)
      case atStart => exact ⟨0, Nat.zero_le _, rfl, ⟨by rw [Nat.zero_mul]; exact owns_nil _ _ _ _, Below.refl _ _⟩⟩
      case round =>
        obtain ⟨n, hn, rfl, hsg⟩ := hrel
        by_cases hlt : n < k.ranks.length
        · have n1 : (n : Int) < (k.ranks.length : Int) := by omega
          have h1c := HGX.out.below hsg.out.bel HGX.out.lt
          have g1 : wr.cell? ⟨zb, 1, none⟩ = some (.slice R.A2 k.ranks.length R.c2) := h1c.cell (j := 1) (by simp)
          have lG := h1c.lt
          clear h1c
          have en : IntKind.i64.wrap ((n : Int) + 1) = (n : Int) + 1 := IntWalk.i64_in _ (by omega)
          go_upto_region 11 with fail
          go_loopw [7, 9] (fun v q wz => ∃ (c : Nat) (s : Int), c ≤ k.ranks.length + 1 ∧ q = .int .i64 s ∧ Hid (s = (c : Int) - 1) ∧ -1 ≤ s ∧ s ≤ (k.ranks.length : Int) ∧ Hid (SgIn X wz k u v (n * (k.ranks.length + 1) + c))) (fun _ q _ => ((k.ranks.length : Int) - intOf q).toNat)
          case atStart => exact ⟨0, -1, Nat.zero_le _, rfl, rfl, by omega, by omega, by rw [Nat.add_zero]; exact hsg.out⟩
          case round =>
            clear hsg g1 lG
            obtain ⟨c, s, hc, rfl, hs, hs1, hs2, hsg⟩ := hrel
            have HBr := Lib.hid (HBX.out.trans (hsg.out.bel.mono HBX.out.size))
            have s0 := HGX.out.below hsg.out.bel HGX.out.lt
            have g0 : wr.cell? ⟨zb, 0, none⟩ = some (.slice R.A1 k.rules.length R.c1) := s0.cell (j := 0) (by simp)
            have g1 : wr.cell? ⟨zb, 1, none⟩ = some (.slice R.A2 k.ranks.length R.c2) := s0.cell (j := 1) (by simp)
            have g2 : wr.cell? ⟨zb, 2, none⟩ = some (.slice R.A3 k.insured.length R.c3) := s0.cell (j := 2) (by simp)
            have lG := s0.lt
            clear s0
            by_cases hcl : s < (k.ranks.length : Int)
            · have es : IntKind.i64.wrap (s + 1) = s + 1 := IntWalk.i64_in _ (by omega)
              have hcM : c < k.ranks.length + 1 := by have := hs.out; omega
              have HCM := Lib.hid hcM
              have HA := Lib.hid (HM.out (n : Int) s wr HBr.out)
              obtain ⟨sv, hsv⟩ : ∃ v, v = signB k u (n : Int) s := ⟨_, rfl⟩
              rw [← hsv] at HA
              have HSV : Hid (signB k u (n : Int) ((c : Int) - 1) = sv) := by show _ = _; rw [← hs.out, hsv]
              clear hsv hcM
              go_upto_if 40 with (go_at_call 71; refine HA.out.mono ?_; rintro e Xz ⟨rfl, hX⟩)
              have HSX := Lib.hid (hsg.out.below hX)
              clear hX HA hsg g0 g1 g2 lG
              cases sv with
              | false =>
                go_wp2_with fail
                go_roundw
                case rel => exact ⟨c + 1, s + 1, HCM.out, rfl, (show s + 1 = ((c + 1 : Nat) : Int) - 1 by have := hs.out; omega), by omega, by omega, HSX.out.no HCM.out HSV.out⟩
                case measure => simp [intOf]; omega
              | true =>
                have hL : (sgN k u (n * (k.ranks.length + 1) + c)).length ≤ n * (k.ranks.length + 1) + c := sg_len _ _ _
                have hmul : n * (k.ranks.length + 1) ≤ 72 := Nat.mul_le_mul (show n ≤ 8 by omega) (show k.ranks.length + 1 ≤ 9 by omega)
                have hL2 : (sgN k u (n * (k.ranks.length + 1) + c)).length ≤ 100 := by have := HCM.out; omega
                clear hL hmul
                have hsy : sgN k u (n * (k.ranks.length + 1) + (c + 1)) = sgN k u (n * (k.ranks.length + 1) + c) ++ [n * (k.ranks.length + 1) + c] := by
                  rw [← Nat.add_assoc]
                  exact sg_yes (by rw [okT_at HCM.out]; exact HSV.out)
                have hpc : prCells (k.ranks.length + 1) (sgN k u (n * (k.ranks.length + 1) + (c + 1))) = prCells (k.ranks.length + 1) (sgN k u (n * (k.ranks.length + 1) + c)) ++ [.int .i64 (n : Int), .int .i64 s] := by
                  rw [hsy, prCells_snoc, prC_at HCM.out, hs.out]
                have HPc := Lib.hid hpc
                have HPl : Hid ((sgN k u (n * (k.ranks.length + 1) + (c + 1))).length = (sgN k u (n * (k.ranks.length + 1) + c)).length + 1) := by show _ = _; rw [hsy]; simp
                clear hsy hpc
                have hown := HSX.out.own
                generalize hLn : (sgN k u (n * (k.ranks.length + 1) + c)).length = Ln at hown hL2 HPl
                generalize prCells (k.ranks.length + 1) (sgN k u (n * (k.ranks.length + 1) + c)) = Lc at hown HPc
                clear hLn
                have m3 : Ln + 1 ≤ maxLen := by unfold maxLen; omega
                have m4 : (Ln + 1) * 16 ≤ 140737488355328 := by omega
                obtain ⟨Y, hY⟩ : ∃ Y, Y = Xz.alloc (.cells #[.int .i64 (n : Int), .int .i64 s] 52) := ⟨_, rfl⟩
                have hownY : Y.ownsRow X.heap.size 52 2 u7 Ln Lc := by rw [hY]; exact owns_alloc hown _
                have rowY : Row Y Xz.heap.size 52 [.int .i64 (n : Int), .int .i64 s] := by rw [hY]; exact Row.new Xz _ _
                have bY : Below X.heap.size X Y := by rw [hY]; exact HSX.out.bel.alloc HSX.out.bel.size _
                have hrx := rowY.reads (B := Y.heap.size) (size := 2) (n := 1) rfl rowY.lt
                have szY : X.heap.size ≤ Y.heap.size := bY.size
                have HBY := Lib.hid bY
                clear hown bY HSX
                go_wp2_with (at_builtin; rw [← hY]; refine wpList_app _ rfl _ _ 49 rfl X.heap.size 52 i0 (.agg #[.int .i64 0, .int .i64 0]) 2 16 Try.underlying49 hi hz0 hz1 hz2 rfl (by decide) u7 Ln Lc rfl hownY Y.heap.size (some ⟨Xz.heap.size, 0, none⟩) 1 1 [.int .i64 (n : Int), .int .i64 s] rfl hrx ?q1 m3 m4 szY ?_; (case q1 => intro u hu; simp at hu; rcases hu with rfl | rfl <;> rfl); intro v' V hown' hbel')
                clear hY
                rw [← HPl.out, ← HPc.out] at hown'
                have HOw := Lib.hid hown'
                have HBV := Lib.hid (HBY.out.trans hbel')
                clear hown' hownY rowY hrx hbel' szY m3 m4
                go_wp2_with fail
                go_roundw
                case rel => exact ⟨c + 1, s + 1, HCM.out, rfl, (show s + 1 = ((c + 1 : Nat) : Int) - 1 by have := hs.out; omega), by omega, by omega, ⟨HOw.out, HBV.out⟩⟩
                case measure => simp [intOf]; omega
            · have hcl2 : ¬ s < (k.ranks.length : Int) := hcl
              have hcM : c = k.ranks.length + 1 := by have := hs.out; omega
              have HSn : Hid (SgIn X wr k u u7 ((n + 1) * (k.ranks.length + 1))) := by have h := hsg.out; rw [hcM] at h; exact h.row
              clear hcM
              go_wp2_with fail
              go_roundw
              case rel => exact ⟨n + 1, by omega, by go_num, HSn.out⟩
              case measure => simp [intOf]; omega
        · have n1 : ¬ (n : Int) < (k.ranks.length : Int) := by omega
          have h1c := HGX.out.below hsg.out.bel HGX.out.lt
          have g1 : wr.cell? ⟨zb, 1, none⟩ = some (.slice R.A2 k.ranks.length R.c2) := h1c.cell (j := 1) (by simp)
          have lG := h1c.lt
          clear h1c
          have en : n = k.ranks.length := by omega
          rw [en] at hsg
          obtain ⟨A2, c2, hv, hr2⟩ := own_readsI hsg.out.own
          subst hv
          have HR2 := Lib.hid hr2
          have HBr := Lib.hid (HBX.out.trans (hsg.out.bel.mono HBX.out.size))
          clear en hr2 hlt
          go_wp2_with fail
          rw [HLn.out]
          go_ret2
          exact ⟨HBr.out, A2, c2, rfl, HR2.out⟩
end Go.Proofs.Ytaocgkmobfocjaa
