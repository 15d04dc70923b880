/- Contract of the specification's Buy. Conditions: the fair reads as data. -/
import Derived.Test.YtonbaikdpcmbiaaPc
import Derived.Test.YtonbaikdpcmbiaaPd
import Derived.Test.YtonbaikdpcmbiaaAp
import Derived.Test.YtonbaikdpcmbiaaNw
namespace Go.Proofs.Ytonbaikdpcmbiaa
open Go.RowKit

theorem own_rd {w : World} {base : Nat} {e : TypeId} {size n : Nat} {v : Value} {xs : List Value} (h : w.ownsRow base e size v n xs) : ∃ A c, v = .slice A n c ∧ Reads w w.heap.size size A n xs := by
  rcases Nat.eq_zero_or_pos n with h0 | h0
  · subst h0
    have hx : xs = [] := List.eq_nil_of_length_eq_zero (by simpa using h.1)
    subst hx
    rcases h.2 with ⟨rfl, _⟩ | ⟨g, cap, cur, rfl, _⟩
    · exact ⟨none, 0, rfl, ⟨by simp, fun h => absurd h (by omega)⟩⟩
    · exact ⟨_, _, rfl, ⟨by simp, fun h => absurd h (by omega)⟩⟩
  · obtain ⟨g, cap, rfl, _, hlt⟩ := World.ownsRow.form h h0
    exact ⟨_, _, rfl, (Row.of_own h).1.reads h.1 hlt⟩
theorem row_1 (w : World) (t : TypeId) (cs : Array Value) (g : Nat) (hg : g = w.heap.size) : Row (w.alloc (.cells cs t)) g t cs.toList := by subst hg; exact Row.new w t cs
theorem stR_out_length (l : List Bundle) (b : Nat) (P : Int) (i : Nat) : (stR l b P i).out.length = i := by
  induction i with
  | zero => rfl
  | succ i ih => simp [stR, ih]
def RBuyPost (w : World) (F : Fair) (n : Int) (e : Ending) (w' : World) : Prop :=
  Below w.heap.size w w' ∧ ∃ A m c, e = .returned (.tuple #[.slice A m c, .int .i64 (rbuyS F n).2.1, .int .i64 (rbuyS F n).2.2]) ∧ Reads w' w'.heap.size 1 A m (intCells (rbuyS F n).1) ∧ m ≤ 6
/-- The bounds of all that the specification's Buy computes. -/
theorem cnt_step (rest : List Int) (left price : Int) (b : Bundle) (q : Nat) (hq : 0 < q) : cntS rest left price b q = if price < wrap64 ((q : Int) * b.price) then cntS rest left price b (q - 1) else
    if geti rest (wrap64 (left - wrap64 ((q : Int) * b.tokens))) = wrap64 (price - wrap64 ((q : Int) * b.price)) then q else cntS rest left price b (q - 1) := by
  cases q with
  | zero => omega
  | succ c => rfl
theorem owns_bel {w w' : World} {base : Nat} {e : TypeId} {size n : Nat} {v : Value} {xs : List Value} (h : w.ownsRow base e size v n xs) (hb : Below w.heap.size w w') : w'.ownsRow base e size v n xs := by
  refine ⟨h.1, ?_⟩
  rcases h.2 with h2 | ⟨g, cap, cur, hv, hb2, hg, hr⟩
  · exact .inl h2
  · refine .inr ⟨g, cap, cur, hv, hb2, ?_, hr⟩
    rcases Nat.lt_or_ge g w.heap.size with hlt | hge
    · rw [hb.block g hlt]; exact hg
    · rw [Array.getElem?_eq_none hge] at hg; cases hg
theorem row_x (w : World) (t : TypeId) (cs : Array Value) (g : Nat) (hg : g = w.heap.size) (d : Nat) : Row ((w.alloc (.cells cs t)).drewN d) g t cs.toList := by subst hg; exact (Row.new w t cs).drewN d
theorem wpList_appG {P : Program} {w : World} {ops : Array Oper} {rest : List Oper} {o : Oper} {a : Act} {Q : Exit → Act → World → Prop} (hgd : o.guard = none) (s x : Operand) (t : TypeId)
    (ho : o.op = .call { callee := .builtin .append, args := #[s, x], argTypes := #[t, t] })
    (base : Nat) (e : TypeId) (i : TypeInfo) (z : Value) (size bytes : Nat) (ht : P.underlying t = some (.slice e)) (hi : P.info? e = some i) (hz : i.zero = some z)
    (hsize : i.size = size) (hby : i.bytes = bytes) (hzs : z.cells.size = size) (hsz : 0 < size)
    (v : Value) (n : Nat) (xs : List Value) (hs : a.eval s = v) (hown : w.ownsRow base e size v n xs)
    (g m c : Nat) (news : List Value) (hx : a.eval x = .slice (some ⟨g, 0, none⟩) m c) (hr : Row w g e news) (hl : news.length = m * size) (h1 : ∀ u ∈ news, u.oneCell' = true)
    (h63 : n + m ≤ maxLen) (hbytes : (n + m) * bytes ≤ 140737488355328) (hbase : base ≤ w.heap.size)
    (h : ∀ v' w', w'.ownsRow base e size v' (n + m) (xs ++ news) → w.grownBy w' v.ownBlock → wpList P ops Q rest (a.put o.dst v') w') : wpList P ops Q (o :: rest) a w :=
  wpList_plain hgd fun _ hK => by
    obtain ⟨v', w', hrun, h2, h3, _, h5⟩ := run_append_own_at (P := P) w base t o.type e i z size bytes ht hi hz hsize hby hzs hsz v n xs hown ⟨g, 0, none⟩ m c news hl (fun j u hu => by
      have hj : j < news.length := (List.getElem?_eq_some_iff.1 hu).1
      rw [Addr.add_lit, Nat.zero_add, hr.cell hj, hu]) h1 h63 hbytes hbase
    unfold Oper.wp execOp
    simp only [ho, resolve, invoke, builtin, Sem.run_bind, Sem.run_pure, Result.andThen_ok, List.map_toArray, List.map_cons, List.map_nil, hs, hx, hrun]
    exact hK _ _ (h v' w' h2 h3)
def nextSt (so : List Int) (q LN tk sp bp : Int) : BSt := ⟨so ++ [q], wrap64 (LN - wrap64 (q * tk)), wrap64 (sp - wrap64 (q * bp))⟩
theorem wrap_zero (x y : Int) (h1 : 0 ≤ x) (h2 : x ≤ 2000000000) : wrap64 (x - wrap64 (((0 : Nat) : Int) * y)) = x := by
  rw [show ((0 : Nat) : Int) = 0 from rfl, Int.zero_mul, show wrap64 0 = 0 from wrap64_id (by omega) (by omega), Int.sub_zero, wrap64_id (by omega) (by omega)]
theorem down_eq {q : Nat} (h : 0 < q) : Value.int .i64 ((q : Int) - 1) = .int .i64 ((q - 1 : Nat) : Int) := by rw [show (q : Int) - 1 = ((q - 1 : Nat) : Int) from by omega]
theorem i64w (x : Int) : IntKind.i64.wrap x = wrap64 x := by rw [IntKind.wrap_i64]; unfold wrap64; rfl
theorem wrap_nat (d : Nat) (h : d ≤ 2000) : wrap64 (d : Int) = d := wrap64_id (by omega) (by omega)
structure StBd (F : Fair) (b : Nat) (P : Int) : Prop where
  all : ∀ i, i ≤ F.bundles.length → 0 ≤ (stR F.bundles b P i).left ∧ (stR F.bundles b P i).left ≤ 2000 ∧ 0 ≤ (stR F.bundles b P i).price ∧ (stR F.bundles b P i).price ≤ 2000000000
theorem st_bd {F : Fair} (hv : validB F = true) (k : Nat) (hk : k ≤ 1000) (h0 : k = 0 ∨ F.bundles.length ≠ 0) :
    StBd F (bestR (prL F.bundles (k + 1000)) k 1001) (geti (prL F.bundles (k + 1000)) (bestR (prL F.bundles (k + 1000)) k 1001 : Nat)) := by
  have hb := bounds_of hv
  have hc := best_can F.bundles (fun k hk => ⟨(hb.bu _ (getb_mem F.bundles k hk)).1, (hb.bu _ (getb_mem F.bundles k hk)).2.1⟩) k h0
  obtain ⟨q1, q2⟩ := bestK_bd (waysK F.bundles (k + 999) (k + 999)) k 1000
  rw [best_last hb k (by omega) h0, pr_ways hb (k + 999) (by omega) _ (k + 1000) (by omega) (by omega), if_pos hc]
  obtain ⟨r, hr, hrl, hst⟩ := st_inv hb (k + 999) (by omega) _ (by omega) hc
  exact ⟨fun i hi => by
    obtain ⟨_, h2, h3, h4, h5, h6, h7⟩ := hst i hi
    rw [h2, h3]
    exact ⟨h4, by omega, h6, h7⟩⟩

set_option maxHeartbeats 4000000 in
set_option maxRecDepth 100000 in
theorem rBuy_any (F : Fair) (R : Refs) (n : Int) (w : World) (B : Nat) (hB : B ≤ w.heap.size) (hF : FairIn w B F R) :
    Calls Try.prog 34 #[fairV F R, .int .i64 n] w (RBuyPost w F n) := by
  obtain ⟨A1, c1, A2, c2, A3, c3⟩ := R
  obtain ⟨i0, hi, hz0, hz1, hz2⟩ := info_parts Try.info_intP
  obtain ⟨W, hW⟩ : ∃ W, W = w.alloc (.cells (fairCells F ⟨A1, c1, A2, c2, A3, c3⟩) 25) := ⟨_, rfl⟩
  have sW : W.heap.size = w.heap.size + 1 := by subst hW; simp
  have bW : Below w.heap.size w W := by subst hW; exact (Below.refl _ _).alloc (Nat.le_refl _) _
  have rF : Row W w.heap.size 25 (fairCells F ⟨A1, c1, A2, c2, A3, c3⟩).toList := by subst hW; exact Row.new _ _ _
  unfold fairV
  dsimp only
  go_enter Try.func34, Try.ntmps34
  go_wp2_with fail
  rw [← hW]
  clear hW
  refine (rCheck_any F ⟨A1, c1, A2, c2, A3, c3⟩ W B (by omega) (hF.below (bW.mono hB))).mono ?_
  rintro e w1 ⟨rfl, hb1⟩
  have b1 := below_step bW hb1
  have s1 := hb1.size
  replace rF := rF.below hb1 rF.lt
  have F1 := hF.below (b1.mono hB)
  obtain ⟨_, q0, q1, q2, q3, q4, q5, q6, q7⟩ := Row.at_8 rF
  cases hv : validB F with
  | false =>
    have hq : Hid (rbuyS F n = ([], 0, 10)) := by show _ = _; simp [rbuyS, hv]
    have he : chkE F = 10 := by simp [chkE, hv]
    rw [he]
    go_wp2_with fail
    go_ret3
    exact ⟨b1, none, 0, 0, by rw [hq.out]; rfl, by rw [hq.out]; exact Reads.none_, by omega⟩
  | true =>
    have he : chkE F = 0 := by simp [chkE, hv]
    rw [he]
    have hbd := bounds_of hv
    cases hn : inB n 0 1000 with
    | false =>
      have hq : Hid (rbuyS F n = ([], 0, 1)) := by show _ = _; simp [rbuyS, hv, hn]
      go_wp2_with (go_at_call 44; refine (rwithin_any _ _ _ _).mono ?_; rintro e w' ⟨rfl, rfl⟩)
      go_ret3
      exact ⟨b1, none, 0, 0, by rw [hq.out]; rfl, by rw [hq.out]; exact Reads.none_, by omega⟩
    | true =>
      have hn' := inB_iff.1 hn
      obtain ⟨k, rfl⟩ := Int.eq_ofNat_of_zero_le hn'.1
      have hb6 := hbd.b
      by_cases hz : 0 < k ∧ F.bundles.length = 0
      · obtain ⟨hz1, hz2⟩ := hz
        have hq : Hid (rbuyS F k = ([], 0, 3)) := by show _ = _; simp [rbuyS, hv, hn, hz2]; omega
        have hz1' : (0 : Int) < (k : Int) := by omega
        have hz2' : ((F.bundles.length : Int) == 0) = true := by rw [hz2]; rfl
        clear hz2
        go_wp2_with (go_at_call 44; refine (rwithin_any _ _ _ _).mono ?_; rintro e w' ⟨rfl, rfl⟩)
        go_ret3
        exact ⟨b1, none, 0, 0, by rw [hq.out]; rfl, by rw [hq.out]; exact Reads.none_, by omega⟩
      · have hq : Hid (rbuyS F k = ((stR F.bundles (bestR (prL F.bundles (k + 1000)) k 1001) (geti (prL F.bundles (k + 1000)) (bestR (prL F.bundles (k + 1000)) k 1001 : Nat)) F.bundles.length).out, geti (prL F.bundles (k + 1000)) (bestR (prL F.bundles (k + 1000)) k 1001 : Nat), 0)) := by
          show _ = _
          simp only [rbuyS, hv, hn, Bool.true_eq_false, if_false, Int.toNat_natCast]
          rw [if_neg (by omega)]
        have HST := Lib.hid (st_bd hv k (by omega) (by omega))
        have Hv := Lib.hid hv
        have Hz := Lib.hid hz
        have Hpr := Lib.hid (prices_any F ⟨A1, c1, A2, c2, A3, c3⟩ 0 (k + 1000) B w1 (by omega) F1 hv (by omega) (by omega))
        clear hv hz he
        have fin : Calls Try.prog 61 #[fairV F ⟨A1, c1, A2, c2, A3, c3⟩, .int .i64 0, .int .i64 ((k : Int) + 1000)] w1 (PrRet w1 F.bundles (k + 1000)) := by
          have := Hpr.out; simpa using this
        have Fin := Lib.hid fin
        clear fin
        have hk3 : 0 ≤ (k : Int) + 1000 := by omega
        have h2 : (0 : Int) < (k : Int) ∧ ((F.bundles.length : Int) == 0) = false ∨ ¬ (0 : Int) < (k : Int) := by
          by_cases hk : 0 < k
          · left
            refine ⟨by omega, ?_⟩
            rw [beq_eq_false_iff_ne]
            intro h
            exact Hz.out ⟨hk, by omega⟩
          · right; omega
        have H2 := Lib.hid h2
        clear h2
        rcases H2.out with ⟨hk1, hz2'⟩ | hk1
        all_goals
          go_wp2_with (first | (go_at_call 44; refine (rwithin_any _ _ _ _).mono ?_; rintro e w' ⟨rfl, rfl⟩) | (go_at_call 61; refine Fin.out.mono ?_; rintro e w2 ⟨ga, hb2, hga, hrow, rfl⟩))
          have hos : ∀ u : Nat, u ≤ k + 1000 → u < (prL F.bundles (k + 1000)).length := fun u hu => by rw [prL_length]; omega
          have Hos := Lib.hid hos
          have hbr := bestR_bd (prL F.bundles (k + 1000)) k
          have Hbr := Lib.hid hbr
          generalize hosd : prL F.bundles (k + 1000) = os at *
          have Hosd := Lib.hid hosd
          clear hosd hos hbr
          have b2 := below_step b1 hb2
          have s2 := hb2.size
          have rF2 := rF.below hb2 rF.lt
          have zga := hrow.lt
          have HrF := Lib.hid rF
          clear q0 q1 q2 q3 q4 q5 q6 q7 rF
          go_loopw [9, 10] (fun bs t wr => ∃ j u bn : Nat, u = k + j ∧ j ≤ 1001 ∧ bn = bestR os k j ∧ t = .int .i64 u ∧ bs = .int .i64 bn ∧ Below w2.heap.size w2 wr) (fun _ t _ => k + 1001 - (intOf t).toNat)
          case atStart => exact ⟨0, k, k, rfl, by omega, rfl, rfl, rfl, Below.refl _ _⟩
          case round =>
            obtain ⟨j, u, bn, hu, hj, hbn, rfl, rfl, hbel⟩ := hrel
            have hbnb := Hbr.out j
            have rowr := hrow.below hbel zga
            have Hbn := Lib.hid hbn
            have hbn2 : bn ≤ k + 1000 := by omega
            clear hbnb
            by_cases hlt : j < 1001
            · have hx1 : (u : Int) < (k : Int) + 1000 + 1 := by omega
              have hx2 : (bn : Int) < (k : Int) + 1000 + 1 := by omega
              have e1 := int_at rowr (k := u) (Hos.out u (by omega))
              have e2 := int_at rowr (k := bn) (Hos.out bn hbn2)
              have Hu := Lib.hid hu
              clear hu hbn
              by_cases hless : geti os u < geti os bn
              · go_wp2_with fail
                go_quiet (fail)
                go_wp2_with fail
                go_roundw
                case rel => exact ⟨j + 1, u + 1, u, by rw [Hu.out]; omega, by omega, by rw [bestR, ← Hu.out, ← Hbn.out, if_pos hless], by go_num, rfl, below_drewN hbel _⟩
                case measure => have := Hu.out; simp [intOf]; omega
              · have hd : decide (geti os u < geti os bn) = false := by simpa using hless
                have Hless := Lib.hid hless
                clear hless
                go_wp2_with fail
                go_quiet (fail)
                go_wp2_with fail
                go_roundw
                case rel => exact ⟨j + 1, u + 1, bn, by rw [Hu.out]; omega, by omega, by rw [bestR, ← Hu.out, ← Hbn.out, if_neg (Int.not_lt.2 Hless.out)], by go_num, rfl, below_drewN hbel _⟩
                case measure => have := Hu.out; simp [intOf]; omega
            · have hx1 : ¬ (u : Int) < (k : Int) + 1000 + 1 := by omega
              have hx2 : (bn : Int) < (k : Int) + 1000 + 1 := by omega
              have ej : j = 1001 := by omega
              subst ej
              have e2 := int_at rowr (k := bn) (Hos.out bn hbn2)
              clear hu hbn
              go_wp2_with fail
              go_quiet (fail)
              go_wp2_with fail
              have bX := below_drewN hbel nq
              have HB : StBd F bn (geti os bn) := by have := HST.out; rw [← Hbn.out] at this; exact this
              have rowX := hrow.below bX zga
              have rFX := rF2.below bX (by omega)
              have bwX := b2.trans (bX.mono b2.size)
              generalize wr.drewN nq = X at *
              have sX := bX.size
              generalize hP : geti os bn = P at *
              have HP := Lib.hid hP
              clear hP rowr hbel e2
              go_loopw [11, 12, 13, 14] (fun o lf pr i wy => ∃ m : Nat, m ≤ F.bundles.length ∧ i = .int .i64 m ∧ lf = .int .i64 (stR F.bundles bn P m).left ∧ pr = .int .i64 (stR F.bundles bn P m).price ∧ wy.ownsRow X.heap.size 3 1 o m (intCells (stR F.bundles bn P m).out) ∧ Below X.heap.size X wy) (fun _ _ _ i _ => F.bundles.length - (intOf i).toNat)
              case atStart => exact ⟨0, Nat.zero_le _, rfl, rfl, rfl, owns_nil _ _ _ _, Below.refl _ _⟩
              case round =>
                obtain ⟨m, hm, rfl, rfl, rfl, hown, hby⟩ := hrel
                obtain ⟨wx, rfl⟩ : ∃ wx : World, wx = wr := ⟨_, rfl⟩
                have hsy := hby.size
                have bwy := bwX.trans (hby.mono (by omega))
                have rFy := rFX.below hby (by omega)
                obtain ⟨_, q0, q1, q2, q3, q4, q5, q6, q7⟩ := Row.at_8 rFy
                obtain ⟨l0, l1, l2, l3⟩ := HB.all m hm
                by_cases hlt2 : m < F.bundles.length
                · have hlt2' : (m : Int) < (F.bundles.length : Int) := by omega
                  have hb5 := hbd.bu _ (getb_mem F.bundles m hlt2)
                  have hss : stR F.bundles bn P (m + 1) = ⟨(stR F.bundles bn P m).out ++ [((cntS (prL (F.bundles.drop (m + 1)) (stR F.bundles bn P m).left.toNat) (stR F.bundles bn P m).left (stR F.bundles bn P m).price (getb F.bundles m) ((stR F.bundles bn P m).left.tdiv (getb F.bundles m).tokens).toNat : Nat) : Int)], wrap64 ((stR F.bundles bn P m).left - wrap64 (((cntS (prL (F.bundles.drop (m + 1)) (stR F.bundles bn P m).left.toNat) (stR F.bundles bn P m).left (stR F.bundles bn P m).price (getb F.bundles m) ((stR F.bundles bn P m).left.tdiv (getb F.bundles m).tokens).toNat : Nat) : Int) * (getb F.bundles m).tokens)), wrap64 ((stR F.bundles bn P m).price - wrap64 (((cntS (prL (F.bundles.drop (m + 1)) (stR F.bundles bn P m).left.toNat) (stR F.bundles bn P m).left (stR F.bundles bn P m).price (getb F.bundles m) ((stR F.bundles bn P m).left.tdiv (getb F.bundles m).tokens).toNat : Nat) : Int) * (getb F.bundles m).price))⟩ := rfl
                  have hpc : ∀ LN : Nat, LN ≤ 2000 → Calls Try.prog 61 #[fairV F ⟨A1, c1, A2, c2, A3, c3⟩, .int .i64 ((m + 1 : Nat) : Int), .int .i64 LN] (wx.alloc (.cells #[.int .i64 (getb F.bundles m).tokens, .int .i64 (getb F.bundles m).price] 67)) (PrRet (wx.alloc (.cells #[.int .i64 (getb F.bundles m).tokens, .int .i64 (getb F.bundles m).price] 67)) (F.bundles.drop (m + 1)) LN) := fun LN hLN =>
                    prices_any F ⟨A1, c1, A2, c2, A3, c3⟩ (m + 1) LN B _ (by simp; omega) ((hF.below (bwy.mono hB)).alloc (by omega) _) Hv.out (by omega) hLN
                  obtain ⟨bb, bo, rfl, hbb, hbt, hbp⟩ := (hF.below (bwy.mono hB)).s3.at2 hlt2
                  have hbw : bb < wx.heap.size := by omega
                  obtain ⟨LN, hLN⟩ := Int.eq_ofNat_of_zero_le l0
                  have Hpc := Lib.hid (hpc LN (by omega))
                  have Hss := Lib.hid hss
                  generalize stR F.bundles bn P m = S at *
                  obtain ⟨so, sl, sp⟩ := S
                  dsimp only at *
                  generalize getb F.bundles m = b at *
                  obtain ⟨bt, bp⟩ := b
                  dsimp only at *
                  obtain ⟨tk, rfl⟩ := Int.eq_ofNat_of_zero_le (show 0 ≤ bt by omega)
                  subst hLN
                  clear hpc hss
                  have zF := rFy.lt
                  go_wp2_with fail
                  refine Hpc.out.mono ?_
                  rintro e x3 ⟨gr, hbp3, hgr, hrw3, rfl⟩
                  have s3 := hbp3.size
                  have rb3 := (Row.new wx 67 #[.int .i64 (tk : Int), .int .i64 bp]).below hbp3 (by simp)
                  have y0 : x3.cell? ⟨wx.heap.size, 0, none⟩ = some (.int .i64 tk) := rb3.cell (j := 0) (by simp)
                  have y1 : x3.cell? ⟨wx.heap.size, 1, none⟩ = some (.int .i64 bp) := rb3.cell (j := 1) (by simp)
                  have htk : ((tk : Int) == 0) = false := by simp; omega
                  have htk1 : (1 : Int) ≤ tk := by omega
                  clear q0 q1 q2 q3 q4 q5 q6 q7
                  go_wp2_with fail
                  have hLN2 : LN ≤ 2000 := by omega
                  have hqt0 := Nat.div_mul_le_self LN tk
                  have hq2 : LN / tk ≤ 2000 := by have := Nat.div_le_self LN tk; omega
                  have ew : wrap64 ((LN : Int) / (tk : Int)) = ((LN / tk : Nat) : Int) := by rw [← Int.natCast_ediv]; exact wrap_nat _ hq2
                  have ed : ((LN : Int).tdiv (tk : Int)).toNat = LN / tk := by rw [Int.tdiv_eq_ediv_of_nonneg (by omega), ← Int.natCast_ediv, Int.toNat_natCast]
                  have hss := Hss.out
                  rw [ed, Int.toNat_natCast] at hss
                  have Hss2 := Lib.hid hss
                  have Ew := Lib.hid ew
                  have zgr := hrw3.lt
                  have HFy := Lib.hid rFy
                  clear hss ed ew hbt hbp Hss
                  generalize hrest : prL (F.bundles.drop (m + 1)) LN = rest at *
                  have hrl : rest.length = LN + 1 := by rw [← hrest, prL_length]
                  have Hrl := Lib.hid hrl
                  clear hrest hrl
                  generalize hq0 : LN / tk = q0 at *
                  have Hq0 := Lib.hid hq0
                  clear hq0
                  go_loopw [17] (fun c wz => ∃ q : Nat, q ≤ q0 ∧ c = .int .i64 q ∧ cntS rest LN sp ⟨tk, bp⟩ q = cntS rest LN sp ⟨tk, bp⟩ q0 ∧ Below x3.heap.size x3 wz) (fun c _ => (intOf c).toNat)
                  case atStart => exact ⟨q0, Nat.le_refl _, by rw [Ew.out], rfl, Below.refl _ _⟩
                  case round =>
                    obtain ⟨q, hq, rfl, hcnt, hbz⟩ := hrel
                    have Hcnt := Lib.hid hcnt
                    have rowz := hrw3.below hbz zgr
                    have rbz := rb3.below hbz rb3.lt
                    have z0 : wr.cell? ⟨wx.heap.size, 0, none⟩ = some (.int .i64 tk) := rbz.cell (j := 0) (by simp)
                    have z1 : wr.cell? ⟨wx.heap.size, 1, none⟩ = some (.int .i64 bp) := rbz.cell (j := 1) (by simp)
                    clear hcnt y0 y1
                    by_cases hq0' : 0 < q
                    · have hd0 : decide ((0 : Int) < (q : Int)) = true := by simp; omega
                      have hqt : q * tk ≤ LN := by
                        have := Nat.mul_le_mul_right tk hq
                        omega
                      have hmb := mul_bd (show 0 ≤ (q : Int) by omega) (show (q : Int) ≤ 2000 by omega) (show 0 ≤ bp by omega) (show bp ≤ 1000000 by omega)
                      have e2 : wrap64 ((q : Int) * (tk : Int)) = ((q * tk : Nat) : Int) := by rw [← Int.natCast_mul]; exact wrap_nat _ (Nat.le_trans hqt hLN2)
                      have e3 : wrap64 ((LN : Int) - ((q * tk : Nat) : Int)) = ((LN - q * tk : Nat) : Int) := by rw [← Int.natCast_sub hqt]; exact wrap_nat _ (Nat.le_trans (Nat.sub_le _ _) hLN2)
                      have hcs := cnt_step rest LN sp ⟨tk, bp⟩ q hq0'
                      dsimp only at hcs
                      rw [e2, e3] at hcs
                      have w1 : IntKind.i64.wrap ((q : Int) * bp) = wrap64 ((q : Int) * bp) := i64w _
                      have w2 : IntKind.i64.wrap ((q : Int) * (tk : Int)) = ((q * tk : Nat) : Int) := (i64w _).trans e2
                      have w3 : IntKind.i64.wrap ((LN : Int) - ((q * tk : Nat) : Int)) = ((LN - q * tk : Nat) : Int) := (i64w _).trans e3
                      have w4' : IntKind.i64.wrap (sp - wrap64 ((q : Int) * bp)) = wrap64 (sp - wrap64 ((q : Int) * bp)) := i64w _
                      have hu : LN - q * tk ≤ LN := Nat.sub_le _ _
                      have hnext : nextSt so q LN tk sp bp = ⟨so ++ [(q : Int)], ((LN - q * tk : Nat) : Int), wrap64 (sp - wrap64 ((q : Int) * bp))⟩ := by unfold nextSt; rw [e2, e3]
                      clear e2 e3 hmb hqt
                      generalize wrap64 (sp - wrap64 ((q : Int) * bp)) = zz at *
                      generalize wrap64 ((q : Int) * bp) = yy at *
                      generalize LN - q * tk = u2 at *
                      generalize q * tk = v2 at *
                      have e5 := int_at rowz (k := u2) (by rw [Hrl.out]; omega)
                      have hx5 : (u2 : Int) < (LN : Int) + 1 := by omega
                      generalize geti rest (u2 : Int) = rv at *
                      have Hcs := Lib.hid hcs
                      have Hnext := Lib.hid hnext
                      clear hcs hnext
                      by_cases hA : sp < yy
                      · have hdA : decide (sp < yy) = true := by simpa using hA
                        have HA := Lib.hid hA
                        clear hA
                        go_wp2_with fail
                        go_quiet (fail)
                        go_wp2_with fail
                        clear w1 w2 w3 w4'
                        go_roundw
                        case rel => exact ⟨q - 1, Nat.le_trans (Nat.sub_le _ _) hq, down_eq hq0', by rw [← Hcnt.out, Hcs.out, if_pos HA.out], below_drewN hbz _⟩
                        case measure => simp [intOf]; omega
                      · have hdA : decide (sp < yy) = false := by simpa using hA
                        have HA := Lib.hid hA
                        clear hA
                        by_cases hE : rv = zz
                        · have hdE : (rv != zz) = false := by simpa using hE
                          have Hend : Hid (cntS rest LN sp ⟨tk, bp⟩ q0 = q) := by show _ = _; rw [← Hcnt.out, Hcs.out, if_neg HA.out, if_pos hE]
                          have Hst : Hid (stR F.bundles bn P (m + 1) = ⟨so ++ [(q : Int)], (u2 : Int), zz⟩) := by show _ = _; rw [Hss2.out, Hend.out]; exact Hnext.out
                          clear hE
                          have hgrow : Below wx.heap.size wx wr := (((Below.refl _ _).alloc (Nat.le_refl _) _).trans (hbp3.mono (by simp))).trans (hbz.mono (by simp at s3; omega))
                          have hown2 := owns_bel hown hgrow
                          have sz := hbz.size
                          have szx := hgrow.size
                          have m1 : m + 1 ≤ maxLen := by unfold maxLen; omega
                          have m2 : (m + 1) * 8 ≤ 140737488355328 := by omega
                          go_wp2_with fail
                          go_quiet (fail)
                          go_wp2_with (at_builtin; refine wpList_appG rfl _ _ 22 rfl X.heap.size 3 i0 (.int .i64 0) 1 8 Try.underlying22 hi hz0 hz1 hz2 rfl (by decide) u11 m (intCells so) rfl ?qo wr.heap.size 1 1 (intCells [(q : Int)]) rfl ?qr rfl ?q1 m1 m2 ?qb ?_)
                          case qo => exact owns_alloc (owns_drewN hown2 _) _
                          case qr => exact row_1 _ _ _ _ (by simp; done)
                          case q1 => intro u hu; simp [intCells] at hu; subst hu; rfl
                          case qb => simp; exact Nat.le_succ_of_le (Nat.le_trans hsy szx)
                          intro v' w4 hown' hgr4
                          have hne : ∀ kk, u11.ownBlock = some kk → kk < wx.heap.size := fun kk hkk => (World.ownsRow.lt hown kk hkk).2
                          have hb4 := owns_below (owns_alloc (owns_drewN hown2 nq) (.cells #[.int .i64 (q : Int)] 3)) hgr4 (by simp; exact Nat.le_succ_of_le (Nat.le_trans hsy szx))
                          have rb4 := (rbz.drewN nq).alloc (.cells #[.int .i64 (q : Int)] 3)
                          have z0' : w4.cell? ⟨wx.heap.size, 0, none⟩ = some (.int .i64 tk) := hgr4.cell (rb4.cell (j := 0) (by simp)) (fun h => absurd (hne _ h.symm) (Nat.lt_irrefl _))
                          have z1' : w4.cell? ⟨wx.heap.size, 1, none⟩ = some (.int .i64 bp) := hgr4.cell (rb4.cell (j := 1) (by simp)) (fun h => absurd (hne _ h.symm) (Nat.lt_irrefl _))
                          clear z0 z1
                          go_wp2_with fail
                          clear w1 w2 w3 w4'
                          go_roundw
                          case rel => exact ⟨m + 1, hlt2, by go_num, by rw [Hst.out], by rw [Hst.out], by rw [Hst.out]; simpa [intCells] using hown', ((below_drewN (hby.trans (hgrow.mono hsy)) nq).alloc (by simp; exact Nat.le_trans hsy szx) _).trans hb4⟩
                          case measure => simp [intOf]; omega
                        · have hdE : (rv != zz) = true := by simpa using hE
                          have HE := Lib.hid hE
                          clear hE
                          go_wp2_with fail
                          go_quiet (fail)
                          go_wp2_with fail
                          clear w1 w2 w3 w4'
                          go_roundw
                          case rel => exact ⟨q - 1, Nat.le_trans (Nat.sub_le _ _) hq, down_eq hq0', by rw [← Hcnt.out, Hcs.out, if_neg (Int.not_lt.2 HA.out), if_neg HE.out], below_drewN hbz _⟩
                          case measure => simp [intOf]; omega
                    · have hc0 : q = 0 := by omega
                      have Hend : Hid (cntS rest LN sp ⟨tk, bp⟩ q0 = 0) := by show _ = _; rw [← Hcnt.out, hc0]; rfl
                      have Hst : Hid (stR F.bundles bn P (m + 1) = ⟨so ++ [((0 : Nat) : Int)], LN, sp⟩) := by show _ = _; rw [Hss2.out, Hend.out, wrap_zero _ _ (by omega) (by omega), wrap_zero _ _ (by omega) (by omega)]
                      subst hc0
                      clear hq0'
                      have hgrow : Below wx.heap.size wx wr := (((Below.refl _ _).alloc (Nat.le_refl _) _).trans (hbp3.mono (by simp))).trans (hbz.mono (by simp at s3; omega))
                      have hown2 := owns_bel hown hgrow
                      have sz := hbz.size
                      have szx := hgrow.size
                      have m1 : m + 1 ≤ maxLen := by unfold maxLen; omega
                      have m2 : (m + 1) * 8 ≤ 140737488355328 := by omega
                      go_wp2_with fail
                      go_quiet (fail)
                      go_wp2_with (at_builtin; refine wpList_appG rfl _ _ 22 rfl X.heap.size 3 i0 (.int .i64 0) 1 8 Try.underlying22 hi hz0 hz1 hz2 rfl (by decide) u11 m (intCells so) rfl ?qo wr.heap.size 1 1 (intCells [0]) rfl ?qr rfl ?q1 m1 m2 ?qb ?_)
                      case qo => exact owns_alloc (owns_drewN hown2 _) _
                      case qr => exact row_1 _ _ _ _ (by simp; done)
                      case q1 => intro u hu; simp [intCells] at hu; subst hu; rfl
                      case qb => simp; omega
                      intro v' w4 hown' hgr4
                      have hne : ∀ kk, u11.ownBlock = some kk → kk < wx.heap.size := fun kk hkk => (World.ownsRow.lt hown kk hkk).2
                      have hb4 := owns_below (owns_alloc (owns_drewN hown2 nq) (.cells #[.int .i64 0] 3)) hgr4 (by simp; omega)
                      have rb4 := (rbz.drewN nq).alloc (.cells #[.int .i64 0] 3)
                      have z0' : w4.cell? ⟨wx.heap.size, 0, none⟩ = some (.int .i64 tk) := hgr4.cell (rb4.cell (j := 0) (by simp)) (fun h => absurd (hne _ h.symm) (Nat.lt_irrefl _))
                      have z1' : w4.cell? ⟨wx.heap.size, 1, none⟩ = some (.int .i64 bp) := hgr4.cell (rb4.cell (j := 1) (by simp)) (fun h => absurd (hne _ h.symm) (Nat.lt_irrefl _))
                      clear z0 z1
                      go_wp2_with fail
                      go_roundw
                      case rel => exact ⟨m + 1, by omega, by go_num, by rw [Hst.out], by rw [Hst.out], by rw [Hst.out]; simpa [intCells] using hown', ((below_drewN (hby.trans (hgrow.mono hsy)) nq).alloc (by simp; omega) _).trans hb4⟩
                      case measure => simp [intOf]; omega
                · have hge2 : ¬ (m : Int) < (F.bundles.length : Int) := by omega
                  have em : m = F.bundles.length := by omega
                  obtain ⟨Ao, co, hou, hrd⟩ := own_rd hown
                  have Hou := Lib.hid hou
                  have HEm := Lib.hid em
                  have hx5 : (bn : Int) < (k : Int) + 1000 + 1 := by omega
                  have rowy := rowX.below hby (by omega)
                  have e5 := int_at rowy (k := bn) (Hos.out bn hbn2)
                  rw [HP.out] at e5
                  subst hou
                  clear em
                  go_wp2_with fail
                  go_quiet (fail)
                  go_wp2_with fail
                  go_ret3
                  have Hq2 : rbuyS F k = ((stR F.bundles bn P m).out, P, 0) := by rw [hq.out, ← Hbn.out, HP.out, ← HEm.out]
                  refine ⟨below_drewN (bwX.trans (hby.mono (by omega))) nq, Ao, m, co, ?_, ?_, by omega⟩
                  · rw [Hq2]; rfl
                  · rw [Hq2]; exact hrd.drewN nq
end Go.Proofs.Ytonbaikdpcmbiaa
