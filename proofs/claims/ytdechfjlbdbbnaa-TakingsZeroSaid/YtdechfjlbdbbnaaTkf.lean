/- Contract of takings' validBrackets. Conditions: brackets that read as data. -/
import Derived.Test.YtdechfjlbdbbnaaTke
import Derived.Test.YtdechfjlbdbbnaaTkg
namespace Go.Proofs.Ytdechfjlbdbbnaa
open Go.RowKit Go.Shelf

theorem am_row (X : World) (g c : Nat) (v : Int) (hr : Row X g 3 [.int .i64 v]) : Calls Try.prog 38 #[.slice (some ⟨g, 0, none⟩) 1 c] X fun e w' => e = .returned (.bool (inB v 0 1000000000)) ∧ X = w' := by
  have h := areAmounts_any [v] (some ⟨g, 0, none⟩) 1 c X.heap.size X (hr.reads (n := 1) (size := 1) rfl hr.lt) (by decide)
  refine h.mono ?_
  rintro e w' ⟨rfl, h2⟩
  exact ⟨ret_boolT (by simp [allB]), h2⟩
structure VbA (U : World) (g k : Nat) (f p f2 : Int) (b o n ca : Nat) (done : Nat → Bool) (xs : Nat → Value) (y : World) : Prop where
  bl : Below U.heap.size U y
  m2 : done 2 = true → done 3 = false → ∃ g2, xs 2 = .slice (some ⟨g2, 0, none⟩) 1 1 ∧ Row y g2 3 [.int .i64 f]
  v0 : done 0 = true → xs 0 = .pointer (some ⟨g, 0, none⟩)
  v1 : done 1 = true → xs 1 = .int .i64 f
  v3 : done 3 = true → xs 3 = .bool false
  v4 : done 4 = true → xs 4 = .bool true
  v5 : done 5 = true → xs 5 = .bool true
  v6 : done 6 = true → xs 6 = undef
  v7 : done 7 = true → xs 7 = undef
  v8 : done 8 = true → xs 8 = undef
  v9 : done 9 = true → xs 9 = undef
  v10 : done 10 = true → xs 10 = .bool true
  v11 : done 11 = true → xs 11 = .bool true
  v12 : done 12 = true → xs 12 = undef
  v13 : done 13 = true → xs 13 = undef
  v14 : done 14 = true → xs 14 = undef
  v15 : done 15 = true → xs 15 = undef
  v16 : done 16 = true → xs 16 = undef
  v17 : done 17 = true → xs 17 = undef
  v18 : done 18 = true → xs 18 = undef
  v19 : done 19 = true → xs 19 = undef
  v20 : done 20 = true → xs 20 = undef
  v21 : done 21 = true → xs 21 = undef
  v22 : done 22 = true → xs 22 = undef
  v23 : done 23 = true → xs 23 = undef
  v24 : done 24 = true → xs 24 = undef
  v25 : done 25 = true → xs 25 = .bool true

structure VbB (U : World) (g k : Nat) (f p f2 : Int) (b o n ca : Nat) (done : Nat → Bool) (xs : Nat → Value) (y : World) : Prop where
  bl : Below U.heap.size U y
  m2 : done 2 = true → done 3 = false → ∃ g2, xs 2 = .slice (some ⟨g2, 0, none⟩) 1 1 ∧ Row y g2 3 [.int .i64 f]
  v0 : done 0 = true → xs 0 = .pointer (some ⟨g, 0, none⟩)
  v1 : done 1 = true → xs 1 = .int .i64 f
  v3 : done 3 = true → xs 3 = .bool true
  v4 : done 4 = true → xs 4 = .bool false
  v5 : done 5 = true → xs 5 = .bool false
  v6 : done 6 = true → xs 6 = .pointer (some ⟨g, 1, none⟩)
  v7 : done 7 = true → xs 7 = .int .i64 p
  v8 : done 8 = true → xs 8 = .bool false
  v9 : done 9 = true → xs 9 = .bool true
  v10 : done 10 = true → xs 10 = .bool true
  v11 : done 11 = true → xs 11 = .bool true
  v12 : done 12 = true → xs 12 = undef
  v13 : done 13 = true → xs 13 = undef
  v14 : done 14 = true → xs 14 = undef
  v15 : done 15 = true → xs 15 = undef
  v16 : done 16 = true → xs 16 = undef
  v17 : done 17 = true → xs 17 = undef
  v18 : done 18 = true → xs 18 = undef
  v19 : done 19 = true → xs 19 = undef
  v20 : done 20 = true → xs 20 = undef
  v21 : done 21 = true → xs 21 = undef
  v22 : done 22 = true → xs 22 = undef
  v23 : done 23 = true → xs 23 = undef
  v24 : done 24 = true → xs 24 = undef
  v25 : done 25 = true → xs 25 = .bool true

structure VbC (U : World) (g k : Nat) (f p f2 : Int) (b o n ca : Nat) (done : Nat → Bool) (xs : Nat → Value) (y : World) : Prop where
  bl : Below U.heap.size U y
  m2 : done 2 = true → done 3 = false → ∃ g2, xs 2 = .slice (some ⟨g2, 0, none⟩) 1 1 ∧ Row y g2 3 [.int .i64 f]
  v0 : done 0 = true → xs 0 = .pointer (some ⟨g, 0, none⟩)
  v1 : done 1 = true → xs 1 = .int .i64 f
  v3 : done 3 = true → xs 3 = .bool true
  v4 : done 4 = true → xs 4 = .bool false
  v5 : done 5 = true → xs 5 = .bool false
  v6 : done 6 = true → xs 6 = .pointer (some ⟨g, 1, none⟩)
  v7 : done 7 = true → xs 7 = .int .i64 p
  v8 : done 8 = true → xs 8 = .bool true
  v9 : done 9 = true → xs 9 = .bool false
  v10 : done 10 = true → xs 10 = .bool false
  v11 : done 11 = true → xs 11 = .bool false
  v12 : done 12 = true → xs 12 = .int .i64 (k : Int)
  v13 : done 13 = true → xs 13 = .bool false
  v14 : done 14 = true → xs 14 = .bool false
  v15 : done 15 = true → xs 15 = undef
  v16 : done 16 = true → xs 16 = undef
  v17 : done 17 = true → xs 17 = undef
  v18 : done 18 = true → xs 18 = undef
  v19 : done 19 = true → xs 19 = undef
  v20 : done 20 = true → xs 20 = undef
  v21 : done 21 = true → xs 21 = undef
  v22 : done 22 = true → xs 22 = undef
  v23 : done 23 = true → xs 23 = undef
  v24 : done 24 = true → xs 24 = .bool false
  v25 : done 25 = true → xs 25 = .bool false

structure VbD (U : World) (g k : Nat) (f p f2 : Int) (b o n ca : Nat) (done : Nat → Bool) (xs : Nat → Value) (y : World) : Prop where
  bl : Below U.heap.size U y
  m2 : done 2 = true → done 3 = false → ∃ g2, xs 2 = .slice (some ⟨g2, 0, none⟩) 1 1 ∧ Row y g2 3 [.int .i64 f]
  v0 : done 0 = true → xs 0 = .pointer (some ⟨g, 0, none⟩)
  v1 : done 1 = true → xs 1 = .int .i64 f
  v3 : done 3 = true → xs 3 = .bool true
  v4 : done 4 = true → xs 4 = .bool false
  v5 : done 5 = true → xs 5 = .bool false
  v6 : done 6 = true → xs 6 = .pointer (some ⟨g, 1, none⟩)
  v7 : done 7 = true → xs 7 = .int .i64 p
  v8 : done 8 = true → xs 8 = .bool true
  v9 : done 9 = true → xs 9 = .bool false
  v10 : done 10 = true → xs 10 = .bool false
  v11 : done 11 = true → xs 11 = .bool false
  v12 : done 12 = true → xs 12 = .int .i64 (k : Int)
  v13 : done 13 = true → xs 13 = .bool true
  v14 : done 14 = true → xs 14 = .bool true
  v15 : done 15 = true → xs 15 = .pointer (some ⟨g, 0, none⟩)
  v16 : done 16 = true → xs 16 = .int .i64 f
  v17 : done 17 = true → xs 17 = .slice (some ⟨b, o, none⟩) n ca
  v18 : done 18 = true → xs 18 = .int .i64 (k : Int)
  v19 : done 19 = true → xs 19 = .int .i64 ((k : Int) - 1)
  v20 : done 20 = true → xs 20 = .pointer (some ⟨b, o + (k - 1) * 2, none⟩)
  v21 : done 21 = true → xs 21 = .pointer (some ⟨b, o + (k - 1) * 2, none⟩)
  v22 : done 22 = true → xs 22 = .int .i64 f2
  v23 : done 23 = true → xs 23 = .bool (decide (f ≤ f2))
  v24 : done 24 = true → xs 24 = .bool (decide (f ≤ f2))
  v25 : done 25 = true → xs 25 = .bool (decide (f ≤ f2))

set_option maxHeartbeats 4000000 in
set_option maxRecDepth 100000 in
theorem validBrackets_any (l : List BrZ) (A : Option Addr) (ca B : Nat) (w : World) (hB : B ≤ w.heap.size) (hr : Reads w B 2 A l.length (brCells l)) (hm : l.length ≤ maxLen) :
    Calls Try.prog 78 #[.slice A l.length ca] w fun e w' => e = .returned (.bool (brB l)) ∧ Below w.heap.size w w' := by
  obtain ⟨W, hW⟩ : ∃ W, W = w.alloc (.cells #[.int .i64 (l.length : Int)] 3) := ⟨_, rfl⟩
  have H1 : Hid (∀ c, Calls Try.prog 49 #[.int .i64 1, .int .i64 8, .slice (some ⟨w.heap.size, 0, none⟩) 1 c] (w.alloc (.cells #[.int .i64 (l.length : Int)] 3)) fun e w' => e = .returned (.bool (inB l.length 1 8)) ∧ w' = W) := fun c => by
    rw [hW]
    exact (tall_new w c _ 1 8).mono fun e w' h => ⟨h.1, h.2.symm⟩
  have HV : Hid (brB l = (inB l.length 1 8 && decide ((brAt l 0).frm = 0) && brAll l l.length)) := rfl
  have hb1 := (Below.refl w.heap.size w).alloc (Nat.le_refl _) (.cells #[.int .i64 (l.length : Int)] 3)
  have lW : w.heap.size < (w.alloc (.cells #[.int .i64 (l.length : Int)] 3)).heap.size := by simp
  rw [← hW] at hb1 lW
  have HB1 := Lib.hid hb1
  clear hb1 hW
  unfold maxLen at hm
  cases h1 : inB (l.length : Int) 1 8 with
  | false =>
    rw [h1] at H1 HV
    go_enter Try.func78, Try.ntmps78
    go_wp2_with (go_at_call 49; refine (H1.out _).mono ?_; rintro e w' ⟨rfl, rfl⟩)
    go_ret
    exact ⟨ret_boolT (by rw [HV.out]; rfl), HB1.out⟩
  | true =>
    rw [h1] at H1 HV
    have h18 : 1 ≤ l.length ∧ l.length ≤ 8 := by unfold inB at h1; simp at h1; omega
    obtain ⟨b, o, rfl, hbB, HC0⟩ := br_at hr (by omega)
    have HC := Lib.hid HC0
    clear hr HC0 h1
    have hz0 := (HC.out 0 (by omega)).1
    rw [Nat.zero_mul, Nat.add_zero] at hz0
    have c0 : W.cell? ⟨b, o, none⟩ = some (.int .i64 (brAt l 0).frm) := by rw [HB1.out.cell (p := ⟨b, o, none⟩) (show b < w.heap.size by omega)]; exact hz0
    have lb0 : b < W.heap.size := by omega
    obtain ⟨n, hn⟩ : ∃ n, n = l.length := ⟨_, rfl⟩
    rw [← hn] at H1 HV HC h18 hm ⊢
    have Hn := Lib.hid hn
    have n0 : (0 : Int) < (n : Int) := by omega
    clear hz0 hn
    by_cases hz : (brAt l 0).frm = 0
    · rw [hz] at c0
      have HZ := Lib.hid hz
      clear hz
      go_enter Try.func78, Try.ntmps78
      go_wp2_with (go_at_call 49; refine (H1.out _).mono ?_; rintro e w' ⟨rfl, rfl⟩)
      clear H1
      go_loopw [19] (fun i wr => ∃ k : Nat, k ≤ n ∧ i = .int .i64 k ∧ Below w.heap.size w wr ∧ brAll l k = true) (fun i _ => n - (intOf i).toNat)
      case atStart => exact ⟨0, Nat.zero_le _, rfl, HB1.out, rfl⟩
      case round =>
        obtain ⟨k, hk, rfl, hbel, hall⟩ := hrel
        have Hall := Lib.hid hall
        have hs := hbel.size
        clear hall
        by_cases hlt : k < n
        · have HK := Lib.hid hlt
          have i0 : ¬ (k : Int) < 0 := by omega
          have i1 : (k : Int) < (n : Int) := by omega
          have lb : b < wr.heap.size := by omega
          have ew : IntKind.i64.wrap ((k : Int) + 1) = (k : Int) + 1 := IntWalk.i64_in _ (by omega)
          have c1 : wr.cell? ⟨b, o + k * 2, none⟩ = some (.int .i64 (brAt l k).frm) := by rw [hbel.cell (p := ⟨b, o + k * 2, none⟩) (show b < w.heap.size by omega)]; exact (HC.out k hlt).1
          have c3 : wr.cell? ⟨b, o + k * 2 + 1, none⟩ = some (.int .i64 (brAt l k).pct) := by rw [hbel.cell (p := ⟨b, o + k * 2 + 1, none⟩) (show b < w.heap.size by omega)]; exact (HC.out k hlt).2
          have HO : Hid (brOne l k = (inB (brAt l k).frm 0 1000000000 && inB (brAt l k).pct 0 100 && (decide (k = 0) || decide ((brAt l (k - 1)).frm < (brAt l k).frm)))) := rfl
          obtain ⟨f2, hf2⟩ : ∃ f2, f2 = (brAt l (k - 1)).frm := ⟨_, rfl⟩
          rw [← hf2] at HO
          have HF2 := Lib.hid hf2
          clear hf2
          generalize (brAt l k).frm = f at c1 HO
          generalize (brAt l k).pct = p at c3 HO
          obtain ⟨Y, hY⟩ : ∃ Y, Y = wr.alloc (.cells #[.int .i64 f, .int .i64 p] 63) := ⟨_, rfl⟩
          have hyb := hbel.alloc hs (.cells #[.int .i64 f, .int .i64 p] 63)
          have rY := Row.new wr 63 #[.int .i64 f, .int .i64 p]
          rw [← hY] at hyb rY
          have HY := Lib.hid hyb
          have RG := Lib.hid rY
          clear hyb rY
          cases h1 : inB f 0 1000000000 with
          | false =>
            have HA : Hid (∀ X g2, Row X g2 3 [.int .i64 f] → Calls Try.prog 38 #[.slice (some ⟨g2, 0, none⟩) 1 1] X fun e w' => e = .returned (.bool false) ∧ X = w') := fun X g2 hr => by have := am_row X g2 1 f hr; rw [h1] at this; exact this
            rw [h1] at HO
            clear h1
            go_upto_region 5 with fail
            go_upto_region 6 with fail
            rw [← hY]
            clear hY
            refine wp_region_stepsY 26 (ord := [0, 1, 2, 3, 4, 5, 6, 7, 8, 9, 10, 11, 12, 13, 14, 15, 16, 17, 18, 19, 20, 21, 22, 23, 24, 25]) (ds := [(0, 24), (1, 25), (2, 26), (3, 27), (4, 28), (5, 29), (6, 30), (7, 31), (8, 32), (9, 33), (10, 34), (11, 35), (12, 36), (13, 37), (14, 38), (15, 39), (16, 40), (17, 41), (18, 42), (19, 43), (20, 44), (21, 45), (22, 46), (23, 47), (24, 48), (25, 49)]) (I := VbA Y wr.heap.size k f p f2 b o n ca) (by kernel_rfl) (by kernel_rfl) rfl ?iz (StepsY.cons (k := 0) (k' := 1) (o := ⟨some 24, _, _, _, _, _⟩) rfl rfl ?sz0 (StepsY.cons (k := 1) (k' := 2) (o := ⟨some 25, _, _, _, _, _⟩) rfl rfl ?sz1 (StepsY.cons (k := 2) (k' := 3) (o := ⟨some 26, _, _, _, _, _⟩) rfl rfl ?sz2 (StepsY.cons (k := 3) (k' := 4) (o := ⟨some 27, _, _, _, _, _⟩) rfl rfl ?sz3 (StepsY.cons (k := 4) (k' := 5) (o := ⟨some 28, _, _, _, _, _⟩) rfl rfl ?sz4 (StepsY.cons (k := 5) (k' := 6) (o := ⟨some 29, _, _, _, _, _⟩) rfl rfl ?sz5 (StepsY.cons (k := 6) (k' := 7) (o := ⟨some 30, _, _, _, _, _⟩) rfl rfl ?sz6 (StepsY.cons (k := 7) (k' := 8) (o := ⟨some 31, _, _, _, _, _⟩) rfl rfl ?sz7 (StepsY.cons (k := 8) (k' := 9) (o := ⟨some 32, _, _, _, _, _⟩) rfl rfl ?sz8 (StepsY.cons (k := 9) (k' := 10) (o := ⟨some 33, _, _, _, _, _⟩) rfl rfl ?sz9 (StepsY.cons (k := 10) (k' := 11) (o := ⟨some 34, _, _, _, _, _⟩) rfl rfl ?sz10 (StepsY.cons (k := 11) (k' := 12) (o := ⟨some 35, _, _, _, _, _⟩) rfl rfl ?sz11 (StepsY.cons (k := 12) (k' := 13) (o := ⟨some 36, _, _, _, _, _⟩) rfl rfl ?sz12 (StepsY.cons (k := 13) (k' := 14) (o := ⟨some 37, _, _, _, _, _⟩) rfl rfl ?sz13 (StepsY.cons (k := 14) (k' := 15) (o := ⟨some 38, _, _, _, _, _⟩) rfl rfl ?sz14 (StepsY.cons (k := 15) (k' := 16) (o := ⟨some 39, _, _, _, _, _⟩) rfl rfl ?sz15 (StepsY.cons (k := 16) (k' := 17) (o := ⟨some 40, _, _, _, _, _⟩) rfl rfl ?sz16 (StepsY.cons (k := 17) (k' := 18) (o := ⟨some 41, _, _, _, _, _⟩) rfl rfl ?sz17 (StepsY.cons (k := 18) (k' := 19) (o := ⟨some 42, _, _, _, _, _⟩) rfl rfl ?sz18 (StepsY.cons (k := 19) (k' := 20) (o := ⟨some 43, _, _, _, _, _⟩) rfl rfl ?sz19 (StepsY.cons (k := 20) (k' := 21) (o := ⟨some 44, _, _, _, _, _⟩) rfl rfl ?sz20 (StepsY.cons (k := 21) (k' := 22) (o := ⟨some 45, _, _, _, _, _⟩) rfl rfl ?sz21 (StepsY.cons (k := 22) (k' := 23) (o := ⟨some 46, _, _, _, _, _⟩) rfl rfl ?sz22 (StepsY.cons (k := 23) (k' := 24) (o := ⟨some 47, _, _, _, _, _⟩) rfl rfl ?sz23 (StepsY.cons (k := 24) (k' := 25) (o := ⟨some 48, _, _, _, _, _⟩) rfl rfl ?sz24 (StepsY.cons (k := 25) (k' := 26) (o := ⟨some 49, _, _, _, _, _⟩) rfl rfl ?sz25 StepsY.nil)))))))))))))))))))))))))) ?finz
            case iz => exact fun xs => ⟨(Below.refl _ _).drew, fun h => Bool.noConfusion h, fun h => Bool.noConfusion h, fun h => Bool.noConfusion h, fun h => Bool.noConfusion h, fun h => Bool.noConfusion h, fun h => Bool.noConfusion h, fun h => Bool.noConfusion h, fun h => Bool.noConfusion h, fun h => Bool.noConfusion h, fun h => Bool.noConfusion h, fun h => Bool.noConfusion h, fun h => Bool.noConfusion h, fun h => Bool.noConfusion h, fun h => Bool.noConfusion h, fun h => Bool.noConfusion h, fun h => Bool.noConfusion h, fun h => Bool.noConfusion h, fun h => Bool.noConfusion h, fun h => Bool.noConfusion h, fun h => Bool.noConfusion h, fun h => Bool.noConfusion h, fun h => Bool.noConfusion h, fun h => Bool.noConfusion h, fun h => Bool.noConfusion h, fun h => Bool.noConfusion h, fun h => Bool.noConfusion h⟩
            case sz0 =>
              intro xs done y hI hd0 hup hdn K hK
              refine wpOp_go (o := ⟨some 24, _, _, _, _, _⟩) rfl rfl ?_
              simp only [putsF, List.foldl_cons, List.foldl_nil, Act.put, List.setIfInBounds_toArray, List.set_cons_zero, List.set_cons_succ] at hK ⊢
              have rG := RG.out.below hI.bl RG.out.lt
              have g0 : y.cell? ⟨wr.heap.size, 0, none⟩ = some (.int .i64 f) := rG.cell (j := 0) (by simp)
              have g1 : y.cell? ⟨wr.heap.size, 1, none⟩ = some (.int .i64 p) := rG.cell (j := 1) (by simp)
              have lG := rG.lt
              go_wp2_with fail
              exact hK.out _ _ ⟨hI.bl, hI.m2, fun _ => rfl, hI.v1, hI.v3, hI.v4, hI.v5, hI.v6, hI.v7, hI.v8, hI.v9, hI.v10, hI.v11, hI.v12, hI.v13, hI.v14, hI.v15, hI.v16, hI.v17, hI.v18, hI.v19, hI.v20, hI.v21, hI.v22, hI.v23, hI.v24, hI.v25⟩
            case sz1 =>
              intro xs done y hI hd0 hup hdn K hK
              refine wpOp_go (o := ⟨some 25, _, _, _, _, _⟩) rfl rfl ?_
              have e0 := hI.v0 (hdn 0 (by kernel_rfl))
              simp only [putsF, List.foldl_cons, List.foldl_nil, Act.put, List.setIfInBounds_toArray, List.set_cons_zero, List.set_cons_succ] at hK ⊢
              simp only [e0] at hK ⊢
              have rG := RG.out.below hI.bl RG.out.lt
              have g0 : y.cell? ⟨wr.heap.size, 0, none⟩ = some (.int .i64 f) := rG.cell (j := 0) (by simp)
              have g1 : y.cell? ⟨wr.heap.size, 1, none⟩ = some (.int .i64 p) := rG.cell (j := 1) (by simp)
              have lG := rG.lt
              go_wp2_with fail
              exact hK.out _ _ ⟨hI.bl, hI.m2, hI.v0, fun _ => rfl, hI.v3, hI.v4, hI.v5, hI.v6, hI.v7, hI.v8, hI.v9, hI.v10, hI.v11, hI.v12, hI.v13, hI.v14, hI.v15, hI.v16, hI.v17, hI.v18, hI.v19, hI.v20, hI.v21, hI.v22, hI.v23, hI.v24, hI.v25⟩
            case sz2 =>
              intro xs done y hI hd0 hup hdn K hK
              refine wpOp_go (o := ⟨some 26, _, _, _, _, _⟩) rfl rfl ?_
              have e1 := hI.v1 (hdn 1 (by kernel_rfl))
              simp only [putsF, List.foldl_cons, List.foldl_nil, Act.put, List.setIfInBounds_toArray, List.set_cons_zero, List.set_cons_succ] at hK ⊢
              simp only [e1] at hK ⊢
              go_wp2_with fail
              exact hK.out _ _ ⟨(hI.bl.alloc hI.bl.size _), (fun _ _ => ⟨_, rfl, Row.new y 3 #[.int .i64 f]⟩), hI.v0, hI.v1, hI.v3, hI.v4, hI.v5, hI.v6, hI.v7, hI.v8, hI.v9, hI.v10, hI.v11, hI.v12, hI.v13, hI.v14, hI.v15, hI.v16, hI.v17, hI.v18, hI.v19, hI.v20, hI.v21, hI.v22, hI.v23, hI.v24, hI.v25⟩
            case sz3 =>
              intro xs done y hI hd0 hup hdn K hK
              refine wpOp_go (o := ⟨some 27, _, _, _, _, _⟩) rfl rfl ?_
              have hm2 := hI.m2 (hdn 2 (by kernel_rfl)) hd0
              simp only [putsF, List.foldl_cons, List.foldl_nil, Act.put, List.setIfInBounds_toArray, List.set_cons_zero, List.set_cons_succ] at hK ⊢
              obtain ⟨g2, e2, hr2⟩ := hm2
              simp only [e2] at hK ⊢
              have hq := HA.out y g2 hr2
              go_wp2_with (go_at_call 38; refine hq.mono ?_; rintro e z ⟨rfl, rfl⟩)
              exact hK.out _ _ ⟨hI.bl, (fun _ h => Bool.noConfusion h), hI.v0, hI.v1, fun _ => rfl, hI.v4, hI.v5, hI.v6, hI.v7, hI.v8, hI.v9, hI.v10, hI.v11, hI.v12, hI.v13, hI.v14, hI.v15, hI.v16, hI.v17, hI.v18, hI.v19, hI.v20, hI.v21, hI.v22, hI.v23, hI.v24, hI.v25⟩
            case sz4 =>
              intro xs done y hI hd0 hup hdn K hK
              refine wpOp_go (o := ⟨some 28, _, _, _, _, _⟩) rfl rfl ?_
              have e3 := hI.v3 (hdn 3 (by kernel_rfl))
              simp only [putsF, List.foldl_cons, List.foldl_nil, Act.put, List.setIfInBounds_toArray, List.set_cons_zero, List.set_cons_succ] at hK ⊢
              simp only [e3] at hK ⊢
              go_wp2_with fail
              exact hK.out _ _ ⟨hI.bl, hI.m2, hI.v0, hI.v1, hI.v3, fun _ => rfl, hI.v5, hI.v6, hI.v7, hI.v8, hI.v9, hI.v10, hI.v11, hI.v12, hI.v13, hI.v14, hI.v15, hI.v16, hI.v17, hI.v18, hI.v19, hI.v20, hI.v21, hI.v22, hI.v23, hI.v24, hI.v25⟩
            case sz5 =>
              intro xs done y hI hd0 hup hdn K hK
              refine wpOp_go (o := ⟨some 29, _, _, _, _, _⟩) rfl rfl ?_
              have e4 := hI.v4 (hdn 4 (by kernel_rfl))
              simp only [putsF, List.foldl_cons, List.foldl_nil, Act.put, List.setIfInBounds_toArray, List.set_cons_zero, List.set_cons_succ] at hK ⊢
              simp only [e4] at hK ⊢
              go_wp2_with fail
              exact hK.out _ _ ⟨hI.bl, hI.m2, hI.v0, hI.v1, hI.v3, hI.v4, fun _ => rfl, hI.v6, hI.v7, hI.v8, hI.v9, hI.v10, hI.v11, hI.v12, hI.v13, hI.v14, hI.v15, hI.v16, hI.v17, hI.v18, hI.v19, hI.v20, hI.v21, hI.v22, hI.v23, hI.v24, hI.v25⟩
            case sz6 =>
              intro xs done y hI hd0 hup hdn K hK
              have e5 := hI.v5 (hdn 5 (by kernel_rfl))
              simp only [putsF, List.foldl_cons, List.foldl_nil, Act.put, List.setIfInBounds_toArray, List.set_cons_zero, List.set_cons_succ] at hK ⊢
              refine wpOp_skip (o := ⟨some 30, _, _, _, _, _⟩) rfl rfl rfl (congrArg some e5) (by first | (unfold undef; simp; done) | simp) ?_
              exact hK.out undef _ ⟨hI.bl, hI.m2, hI.v0, hI.v1, hI.v3, hI.v4, hI.v5, fun _ => rfl, hI.v7, hI.v8, hI.v9, hI.v10, hI.v11, hI.v12, hI.v13, hI.v14, hI.v15, hI.v16, hI.v17, hI.v18, hI.v19, hI.v20, hI.v21, hI.v22, hI.v23, hI.v24, hI.v25⟩
            case sz7 =>
              intro xs done y hI hd0 hup hdn K hK
              have e6 := hI.v6 (hdn 6 (by kernel_rfl))
              have e5 := hI.v5 (hdn 5 (by kernel_rfl))
              simp only [putsF, List.foldl_cons, List.foldl_nil, Act.put, List.setIfInBounds_toArray, List.set_cons_zero, List.set_cons_succ] at hK ⊢
              refine wpOp_skip (o := ⟨some 31, _, _, _, _, _⟩) rfl rfl rfl (congrArg some e5) (by first | (unfold undef; simp; done) | simp) ?_
              exact hK.out undef _ ⟨hI.bl, hI.m2, hI.v0, hI.v1, hI.v3, hI.v4, hI.v5, hI.v6, fun _ => rfl, hI.v8, hI.v9, hI.v10, hI.v11, hI.v12, hI.v13, hI.v14, hI.v15, hI.v16, hI.v17, hI.v18, hI.v19, hI.v20, hI.v21, hI.v22, hI.v23, hI.v24, hI.v25⟩
            case sz8 =>
              intro xs done y hI hd0 hup hdn K hK
              have e7 := hI.v7 (hdn 7 (by kernel_rfl))
              have e5 := hI.v5 (hdn 5 (by kernel_rfl))
              simp only [putsF, List.foldl_cons, List.foldl_nil, Act.put, List.setIfInBounds_toArray, List.set_cons_zero, List.set_cons_succ] at hK ⊢
              refine wpOp_skip (o := ⟨some 32, _, _, _, _, _⟩) rfl rfl rfl (congrArg some e5) (by first | (unfold undef; simp; done) | simp) ?_
              exact hK.out undef _ ⟨hI.bl, hI.m2, hI.v0, hI.v1, hI.v3, hI.v4, hI.v5, hI.v6, hI.v7, fun _ => rfl, hI.v9, hI.v10, hI.v11, hI.v12, hI.v13, hI.v14, hI.v15, hI.v16, hI.v17, hI.v18, hI.v19, hI.v20, hI.v21, hI.v22, hI.v23, hI.v24, hI.v25⟩
            case sz9 =>
              intro xs done y hI hd0 hup hdn K hK
              have e8 := hI.v8 (hdn 8 (by kernel_rfl))
              have e5 := hI.v5 (hdn 5 (by kernel_rfl))
              simp only [putsF, List.foldl_cons, List.foldl_nil, Act.put, List.setIfInBounds_toArray, List.set_cons_zero, List.set_cons_succ] at hK ⊢
              refine wpOp_skip (o := ⟨some 33, _, _, _, _, _⟩) rfl rfl rfl (congrArg some e5) (by first | (unfold undef; simp; done) | simp) ?_
              exact hK.out undef _ ⟨hI.bl, hI.m2, hI.v0, hI.v1, hI.v3, hI.v4, hI.v5, hI.v6, hI.v7, hI.v8, fun _ => rfl, hI.v10, hI.v11, hI.v12, hI.v13, hI.v14, hI.v15, hI.v16, hI.v17, hI.v18, hI.v19, hI.v20, hI.v21, hI.v22, hI.v23, hI.v24, hI.v25⟩
            case sz10 =>
              intro xs done y hI hd0 hup hdn K hK
              refine wpOp_go (o := ⟨some 34, _, _, _, _, _⟩) rfl rfl ?_
              have e5 := hI.v5 (hdn 5 (by kernel_rfl))
              have e9 := hI.v9 (hdn 9 (by kernel_rfl))
              simp only [putsF, List.foldl_cons, List.foldl_nil, Act.put, List.setIfInBounds_toArray, List.set_cons_zero, List.set_cons_succ] at hK ⊢
              simp only [e5, e9] at hK ⊢
              go_wp2_with fail
              exact hK.out _ _ ⟨hI.bl, hI.m2, hI.v0, hI.v1, hI.v3, hI.v4, hI.v5, hI.v6, hI.v7, hI.v8, hI.v9, fun _ => rfl, hI.v11, hI.v12, hI.v13, hI.v14, hI.v15, hI.v16, hI.v17, hI.v18, hI.v19, hI.v20, hI.v21, hI.v22, hI.v23, hI.v24, hI.v25⟩
            case sz11 =>
              intro xs done y hI hd0 hup hdn K hK
              refine wpOp_go (o := ⟨some 35, _, _, _, _, _⟩) rfl rfl ?_
              have e10 := hI.v10 (hdn 10 (by kernel_rfl))
              simp only [putsF, List.foldl_cons, List.foldl_nil, Act.put, List.setIfInBounds_toArray, List.set_cons_zero, List.set_cons_succ] at hK ⊢
              simp only [e10] at hK ⊢
              go_wp2_with fail
              exact hK.out _ _ ⟨hI.bl, hI.m2, hI.v0, hI.v1, hI.v3, hI.v4, hI.v5, hI.v6, hI.v7, hI.v8, hI.v9, hI.v10, fun _ => rfl, hI.v12, hI.v13, hI.v14, hI.v15, hI.v16, hI.v17, hI.v18, hI.v19, hI.v20, hI.v21, hI.v22, hI.v23, hI.v24, hI.v25⟩
            case sz12 =>
              intro xs done y hI hd0 hup hdn K hK
              have e11 := hI.v11 (hdn 11 (by kernel_rfl))
              simp only [putsF, List.foldl_cons, List.foldl_nil, Act.put, List.setIfInBounds_toArray, List.set_cons_zero, List.set_cons_succ] at hK ⊢
              refine wpOp_skip (o := ⟨some 36, _, _, _, _, _⟩) rfl rfl rfl (congrArg some e11) (by first | (unfold undef; simp; done) | simp) ?_
              exact hK.out undef _ ⟨hI.bl, hI.m2, hI.v0, hI.v1, hI.v3, hI.v4, hI.v5, hI.v6, hI.v7, hI.v8, hI.v9, hI.v10, hI.v11, fun _ => rfl, hI.v13, hI.v14, hI.v15, hI.v16, hI.v17, hI.v18, hI.v19, hI.v20, hI.v21, hI.v22, hI.v23, hI.v24, hI.v25⟩
            case sz13 =>
              intro xs done y hI hd0 hup hdn K hK
              have e12 := hI.v12 (hdn 12 (by kernel_rfl))
              have e11 := hI.v11 (hdn 11 (by kernel_rfl))
              simp only [putsF, List.foldl_cons, List.foldl_nil, Act.put, List.setIfInBounds_toArray, List.set_cons_zero, List.set_cons_succ] at hK ⊢
              refine wpOp_skip (o := ⟨some 37, _, _, _, _, _⟩) rfl rfl rfl (congrArg some e11) (by first | (unfold undef; simp; done) | simp) ?_
              exact hK.out undef _ ⟨hI.bl, hI.m2, hI.v0, hI.v1, hI.v3, hI.v4, hI.v5, hI.v6, hI.v7, hI.v8, hI.v9, hI.v10, hI.v11, hI.v12, fun _ => rfl, hI.v14, hI.v15, hI.v16, hI.v17, hI.v18, hI.v19, hI.v20, hI.v21, hI.v22, hI.v23, hI.v24, hI.v25⟩
            case sz14 =>
              intro xs done y hI hd0 hup hdn K hK
              have e13 := hI.v13 (hdn 13 (by kernel_rfl))
              have e11 := hI.v11 (hdn 11 (by kernel_rfl))
              simp only [putsF, List.foldl_cons, List.foldl_nil, Act.put, List.setIfInBounds_toArray, List.set_cons_zero, List.set_cons_succ] at hK ⊢
              refine wpOp_skip (o := ⟨some 38, _, _, _, _, _⟩) rfl rfl rfl (congrArg some e11) (by first | (unfold undef; simp; done) | simp) ?_
              exact hK.out undef _ ⟨hI.bl, hI.m2, hI.v0, hI.v1, hI.v3, hI.v4, hI.v5, hI.v6, hI.v7, hI.v8, hI.v9, hI.v10, hI.v11, hI.v12, hI.v13, fun _ => rfl, hI.v15, hI.v16, hI.v17, hI.v18, hI.v19, hI.v20, hI.v21, hI.v22, hI.v23, hI.v24, hI.v25⟩
            case sz15 =>
              intro xs done y hI hd0 hup hdn K hK
              have e14 := hI.v14 (hdn 14 (by kernel_rfl))
              simp only [putsF, List.foldl_cons, List.foldl_nil, Act.put, List.setIfInBounds_toArray, List.set_cons_zero, List.set_cons_succ] at hK ⊢
              refine wpOp_skip (o := ⟨some 39, _, _, _, _, _⟩) rfl rfl rfl (congrArg some e14) (by first | (unfold undef; simp; done) | simp) ?_
              exact hK.out undef _ ⟨hI.bl, hI.m2, hI.v0, hI.v1, hI.v3, hI.v4, hI.v5, hI.v6, hI.v7, hI.v8, hI.v9, hI.v10, hI.v11, hI.v12, hI.v13, hI.v14, fun _ => rfl, hI.v16, hI.v17, hI.v18, hI.v19, hI.v20, hI.v21, hI.v22, hI.v23, hI.v24, hI.v25⟩
            case sz16 =>
              intro xs done y hI hd0 hup hdn K hK
              have e15 := hI.v15 (hdn 15 (by kernel_rfl))
              have e14 := hI.v14 (hdn 14 (by kernel_rfl))
              simp only [putsF, List.foldl_cons, List.foldl_nil, Act.put, List.setIfInBounds_toArray, List.set_cons_zero, List.set_cons_succ] at hK ⊢
              refine wpOp_skip (o := ⟨some 40, _, _, _, _, _⟩) rfl rfl rfl (congrArg some e14) (by first | (unfold undef; simp; done) | simp) ?_
              exact hK.out undef _ ⟨hI.bl, hI.m2, hI.v0, hI.v1, hI.v3, hI.v4, hI.v5, hI.v6, hI.v7, hI.v8, hI.v9, hI.v10, hI.v11, hI.v12, hI.v13, hI.v14, hI.v15, fun _ => rfl, hI.v17, hI.v18, hI.v19, hI.v20, hI.v21, hI.v22, hI.v23, hI.v24, hI.v25⟩
            case sz17 =>
              intro xs done y hI hd0 hup hdn K hK
              have e14 := hI.v14 (hdn 14 (by kernel_rfl))
              simp only [putsF, List.foldl_cons, List.foldl_nil, Act.put, List.setIfInBounds_toArray, List.set_cons_zero, List.set_cons_succ] at hK ⊢
              refine wpOp_skip (o := ⟨some 41, _, _, _, _, _⟩) rfl rfl rfl (congrArg some e14) (by first | (unfold undef; simp; done) | simp) ?_
              exact hK.out undef _ ⟨hI.bl, hI.m2, hI.v0, hI.v1, hI.v3, hI.v4, hI.v5, hI.v6, hI.v7, hI.v8, hI.v9, hI.v10, hI.v11, hI.v12, hI.v13, hI.v14, hI.v15, hI.v16, fun _ => rfl, hI.v18, hI.v19, hI.v20, hI.v21, hI.v22, hI.v23, hI.v24, hI.v25⟩
            case sz18 =>
              intro xs done y hI hd0 hup hdn K hK
              have e14 := hI.v14 (hdn 14 (by kernel_rfl))
              simp only [putsF, List.foldl_cons, List.foldl_nil, Act.put, List.setIfInBounds_toArray, List.set_cons_zero, List.set_cons_succ] at hK ⊢
              refine wpOp_skip (o := ⟨some 42, _, _, _, _, _⟩) rfl rfl rfl (congrArg some e14) (by first | (unfold undef; simp; done) | simp) ?_
              exact hK.out undef _ ⟨hI.bl, hI.m2, hI.v0, hI.v1, hI.v3, hI.v4, hI.v5, hI.v6, hI.v7, hI.v8, hI.v9, hI.v10, hI.v11, hI.v12, hI.v13, hI.v14, hI.v15, hI.v16, hI.v17, fun _ => rfl, hI.v19, hI.v20, hI.v21, hI.v22, hI.v23, hI.v24, hI.v25⟩
            case sz19 =>
              intro xs done y hI hd0 hup hdn K hK
              have e18 := hI.v18 (hdn 18 (by kernel_rfl))
              have e14 := hI.v14 (hdn 14 (by kernel_rfl))
              simp only [putsF, List.foldl_cons, List.foldl_nil, Act.put, List.setIfInBounds_toArray, List.set_cons_zero, List.set_cons_succ] at hK ⊢
              refine wpOp_skip (o := ⟨some 43, _, _, _, _, _⟩) rfl rfl rfl (congrArg some e14) (by first | (unfold undef; simp; done) | simp) ?_
              exact hK.out undef _ ⟨hI.bl, hI.m2, hI.v0, hI.v1, hI.v3, hI.v4, hI.v5, hI.v6, hI.v7, hI.v8, hI.v9, hI.v10, hI.v11, hI.v12, hI.v13, hI.v14, hI.v15, hI.v16, hI.v17, hI.v18, fun _ => rfl, hI.v20, hI.v21, hI.v22, hI.v23, hI.v24, hI.v25⟩
            case sz20 =>
              intro xs done y hI hd0 hup hdn K hK
              have e17 := hI.v17 (hdn 17 (by kernel_rfl))
              have e19 := hI.v19 (hdn 19 (by kernel_rfl))
              have e14 := hI.v14 (hdn 14 (by kernel_rfl))
              simp only [putsF, List.foldl_cons, List.foldl_nil, Act.put, List.setIfInBounds_toArray, List.set_cons_zero, List.set_cons_succ] at hK ⊢
              refine wpOp_skip (o := ⟨some 44, _, _, _, _, _⟩) rfl rfl rfl (congrArg some e14) (by first | (unfold undef; simp; done) | simp) ?_
              exact hK.out undef _ ⟨hI.bl, hI.m2, hI.v0, hI.v1, hI.v3, hI.v4, hI.v5, hI.v6, hI.v7, hI.v8, hI.v9, hI.v10, hI.v11, hI.v12, hI.v13, hI.v14, hI.v15, hI.v16, hI.v17, hI.v18, hI.v19, fun _ => rfl, hI.v21, hI.v22, hI.v23, hI.v24, hI.v25⟩
            case sz21 =>
              intro xs done y hI hd0 hup hdn K hK
              have e20 := hI.v20 (hdn 20 (by kernel_rfl))
              have e14 := hI.v14 (hdn 14 (by kernel_rfl))
              simp only [putsF, List.foldl_cons, List.foldl_nil, Act.put, List.setIfInBounds_toArray, List.set_cons_zero, List.set_cons_succ] at hK ⊢
              refine wpOp_skip (o := ⟨some 45, _, _, _, _, _⟩) rfl rfl rfl (congrArg some e14) (by first | (unfold undef; simp; done) | simp) ?_
              exact hK.out undef _ ⟨hI.bl, hI.m2, hI.v0, hI.v1, hI.v3, hI.v4, hI.v5, hI.v6, hI.v7, hI.v8, hI.v9, hI.v10, hI.v11, hI.v12, hI.v13, hI.v14, hI.v15, hI.v16, hI.v17, hI.v18, hI.v19, hI.v20, fun _ => rfl, hI.v22, hI.v23, hI.v24, hI.v25⟩
            case sz22 =>
              intro xs done y hI hd0 hup hdn K hK
              have e21 := hI.v21 (hdn 21 (by kernel_rfl))
              have e14 := hI.v14 (hdn 14 (by kernel_rfl))
              simp only [putsF, List.foldl_cons, List.foldl_nil, Act.put, List.setIfInBounds_toArray, List.set_cons_zero, List.set_cons_succ] at hK ⊢
              refine wpOp_skip (o := ⟨some 46, _, _, _, _, _⟩) rfl rfl rfl (congrArg some e14) (by first | (unfold undef; simp; done) | simp) ?_
              exact hK.out undef _ ⟨hI.bl, hI.m2, hI.v0, hI.v1, hI.v3, hI.v4, hI.v5, hI.v6, hI.v7, hI.v8, hI.v9, hI.v10, hI.v11, hI.v12, hI.v13, hI.v14, hI.v15, hI.v16, hI.v17, hI.v18, hI.v19, hI.v20, hI.v21, fun _ => rfl, hI.v23, hI.v24, hI.v25⟩
            case sz23 =>
              intro xs done y hI hd0 hup hdn K hK
              have e16 := hI.v16 (hdn 16 (by kernel_rfl))
              have e22 := hI.v22 (hdn 22 (by kernel_rfl))
              have e14 := hI.v14 (hdn 14 (by kernel_rfl))
              simp only [putsF, List.foldl_cons, List.foldl_nil, Act.put, List.setIfInBounds_toArray, List.set_cons_zero, List.set_cons_succ] at hK ⊢
              refine wpOp_skip (o := ⟨some 47, _, _, _, _, _⟩) rfl rfl rfl (congrArg some e14) (by first | (unfold undef; simp; done) | simp) ?_
              exact hK.out undef _ ⟨hI.bl, hI.m2, hI.v0, hI.v1, hI.v3, hI.v4, hI.v5, hI.v6, hI.v7, hI.v8, hI.v9, hI.v10, hI.v11, hI.v12, hI.v13, hI.v14, hI.v15, hI.v16, hI.v17, hI.v18, hI.v19, hI.v20, hI.v21, hI.v22, fun _ => rfl, hI.v24, hI.v25⟩
            case sz24 =>
              intro xs done y hI hd0 hup hdn K hK
              have e14 := hI.v14 (hdn 14 (by kernel_rfl))
              have e23 := hI.v23 (hdn 23 (by kernel_rfl))
              have e11 := hI.v11 (hdn 11 (by kernel_rfl))
              simp only [putsF, List.foldl_cons, List.foldl_nil, Act.put, List.setIfInBounds_toArray, List.set_cons_zero, List.set_cons_succ] at hK ⊢
              refine wpOp_skip (o := ⟨some 48, _, _, _, _, _⟩) rfl rfl rfl (congrArg some e11) (by first | (unfold undef; simp; done) | simp) ?_
              exact hK.out undef _ ⟨hI.bl, hI.m2, hI.v0, hI.v1, hI.v3, hI.v4, hI.v5, hI.v6, hI.v7, hI.v8, hI.v9, hI.v10, hI.v11, hI.v12, hI.v13, hI.v14, hI.v15, hI.v16, hI.v17, hI.v18, hI.v19, hI.v20, hI.v21, hI.v22, hI.v23, fun _ => rfl, hI.v25⟩
            case sz25 =>
              intro xs done y hI hd0 hup hdn K hK
              refine wpOp_go (o := ⟨some 49, _, _, _, _, _⟩) rfl rfl ?_
              have e11 := hI.v11 (hdn 11 (by kernel_rfl))
              have e24 := hI.v24 (hdn 24 (by kernel_rfl))
              simp only [putsF, List.foldl_cons, List.foldl_nil, Act.put, List.setIfInBounds_toArray, List.set_cons_zero, List.set_cons_succ] at hK ⊢
              simp only [e11, e24] at hK ⊢
              go_wp2_with fail
              exact hK.out _ _ ⟨hI.bl, hI.m2, hI.v0, hI.v1, hI.v3, hI.v4, hI.v5, hI.v6, hI.v7, hI.v8, hI.v9, hI.v10, hI.v11, hI.v12, hI.v13, hI.v14, hI.v15, hI.v16, hI.v17, hI.v18, hI.v19, hI.v20, hI.v21, hI.v22, hI.v23, hI.v24, fun _ => rfl⟩
            case finz =>
            intro xs done y hI hd
            have hb6 := hI.bl
            have e25 := hI.v25 (hd 25 (by decide))
            simp only [putsF, List.foldl_cons, List.foldl_nil, Act.put, List.setIfInBounds_toArray, List.set_cons_zero, List.set_cons_succ]
            simp only [e25]
            have HB6 := Lib.hid (HY.out.trans (hb6.mono HY.out.size))
            clear hI hb6
            go_wp2_with fail
            go_ret
            exact ⟨ret_boolT (by rw [HV.out, brAll_out (k := k) (by rw [HO.out]; rfl) n HK.out]; simp), HB6.out⟩
          | true =>
            have HA : Hid (∀ X g2, Row X g2 3 [.int .i64 f] → Calls Try.prog 38 #[.slice (some ⟨g2, 0, none⟩) 1 1] X fun e w' => e = .returned (.bool true) ∧ X = w') := fun X g2 hr => by have := am_row X g2 1 f hr; rw [h1] at this; exact this
            rw [h1] at HO
            clear h1
            cases h2 : inB p 0 100 with
            | false =>
              have HP : Hid (∀ X, Calls Try.prog 45 #[.int .i64 p] X fun e w' => e = .returned (.bool false) ∧ Below X.heap.size X w') := fun X => by have := isPercent_any p X; rw [h2] at this; exact this
              rw [h2] at HO
              clear h2
              go_upto_region 5 with fail
              go_upto_region 6 with fail
              rw [← hY]
              clear hY
              refine wp_region_stepsY 26 (ord := [0, 1, 2, 3, 4, 5, 6, 7, 8, 9, 10, 11, 12, 13, 14, 15, 16, 17, 18, 19, 20, 21, 22, 23, 24, 25]) (ds := [(0, 24), (1, 25), (2, 26), (3, 27), (4, 28), (5, 29), (6, 30), (7, 31), (8, 32), (9, 33), (10, 34), (11, 35), (12, 36), (13, 37), (14, 38), (15, 39), (16, 40), (17, 41), (18, 42), (19, 43), (20, 44), (21, 45), (22, 46), (23, 47), (24, 48), (25, 49)]) (I := VbB Y wr.heap.size k f p f2 b o n ca) (by kernel_rfl) (by kernel_rfl) rfl ?iz (StepsY.cons (k := 0) (k' := 1) (o := ⟨some 24, _, _, _, _, _⟩) rfl rfl ?sz0 (StepsY.cons (k := 1) (k' := 2) (o := ⟨some 25, _, _, _, _, _⟩) rfl rfl ?sz1 (StepsY.cons (k := 2) (k' := 3) (o := ⟨some 26, _, _, _, _, _⟩) rfl rfl ?sz2 (StepsY.cons (k := 3) (k' := 4) (o := ⟨some 27, _, _, _, _, _⟩) rfl rfl ?sz3 (StepsY.cons (k := 4) (k' := 5) (o := ⟨some 28, _, _, _, _, _⟩) rfl rfl ?sz4 (StepsY.cons (k := 5) (k' := 6) (o := ⟨some 29, _, _, _, _, _⟩) rfl rfl ?sz5 (StepsY.cons (k := 6) (k' := 7) (o := ⟨some 30, _, _, _, _, _⟩) rfl rfl ?sz6 (StepsY.cons (k := 7) (k' := 8) (o := ⟨some 31, _, _, _, _, _⟩) rfl rfl ?sz7 (StepsY.cons (k := 8) (k' := 9) (o := ⟨some 32, _, _, _, _, _⟩) rfl rfl ?sz8 (StepsY.cons (k := 9) (k' := 10) (o := ⟨some 33, _, _, _, _, _⟩) rfl rfl ?sz9 (StepsY.cons (k := 10) (k' := 11) (o := ⟨some 34, _, _, _, _, _⟩) rfl rfl ?sz10 (StepsY.cons (k := 11) (k' := 12) (o := ⟨some 35, _, _, _, _, _⟩) rfl rfl ?sz11 (StepsY.cons (k := 12) (k' := 13) (o := ⟨some 36, _, _, _, _, _⟩) rfl rfl ?sz12 (StepsY.cons (k := 13) (k' := 14) (o := ⟨some 37, _, _, _, _, _⟩) rfl rfl ?sz13 (StepsY.cons (k := 14) (k' := 15) (o := ⟨some 38, _, _, _, _, _⟩) rfl rfl ?sz14 (StepsY.cons (k := 15) (k' := 16) (o := ⟨some 39, _, _, _, _, _⟩) rfl rfl ?sz15 (StepsY.cons (k := 16) (k' := 17) (o := ⟨some 40, _, _, _, _, _⟩) rfl rfl ?sz16 (StepsY.cons (k := 17) (k' := 18) (o := ⟨some 41, _, _, _, _, _⟩) rfl rfl ?sz17 (StepsY.cons (k := 18) (k' := 19) (o := ⟨some 42, _, _, _, _, _⟩) rfl rfl ?sz18 (StepsY.cons (k := 19) (k' := 20) (o := ⟨some 43, _, _, _, _, _⟩) rfl rfl ?sz19 (StepsY.cons (k := 20) (k' := 21) (o := ⟨some 44, _, _, _, _, _⟩) rfl rfl ?sz20 (StepsY.cons (k := 21) (k' := 22) (o := ⟨some 45, _, _, _, _, _⟩) rfl rfl ?sz21 (StepsY.cons (k := 22) (k' := 23) (o := ⟨some 46, _, _, _, _, _⟩) rfl rfl ?sz22 (StepsY.cons (k := 23) (k' := 24) (o := ⟨some 47, _, _, _, _, _⟩) rfl rfl ?sz23 (StepsY.cons (k := 24) (k' := 25) (o := ⟨some 48, _, _, _, _, _⟩) rfl rfl ?sz24 (StepsY.cons (k := 25) (k' := 26) (o := ⟨some 49, _, _, _, _, _⟩) rfl rfl ?sz25 StepsY.nil)))))))))))))))))))))))))) ?finz
              case iz => exact fun xs => ⟨(Below.refl _ _).drew, fun h => Bool.noConfusion h, fun h => Bool.noConfusion h, fun h => Bool.noConfusion h, fun h => Bool.noConfusion h, fun h => Bool.noConfusion h, fun h => Bool.noConfusion h, fun h => Bool.noConfusion h, fun h => Bool.noConfusion h, fun h => Bool.noConfusion h, fun h => Bool.noConfusion h, fun h => Bool.noConfusion h, fun h => Bool.noConfusion h, fun h => Bool.noConfusion h, fun h => Bool.noConfusion h, fun h => Bool.noConfusion h, fun h => Bool.noConfusion h, fun h => Bool.noConfusion h, fun h => Bool.noConfusion h, fun h => Bool.noConfusion h, fun h => Bool.noConfusion h, fun h => Bool.noConfusion h, fun h => Bool.noConfusion h, fun h => Bool.noConfusion h, fun h => Bool.noConfusion h, fun h => Bool.noConfusion h, fun h => Bool.noConfusion h⟩
              case sz0 =>
                intro xs done y hI hd0 hup hdn K hK
                refine wpOp_go (o := ⟨some 24, _, _, _, _, _⟩) rfl rfl ?_
                simp only [putsF, List.foldl_cons, List.foldl_nil, Act.put, List.setIfInBounds_toArray, List.set_cons_zero, List.set_cons_succ] at hK ⊢
                have rG := RG.out.below hI.bl RG.out.lt
                have g0 : y.cell? ⟨wr.heap.size, 0, none⟩ = some (.int .i64 f) := rG.cell (j := 0) (by simp)
                have g1 : y.cell? ⟨wr.heap.size, 1, none⟩ = some (.int .i64 p) := rG.cell (j := 1) (by simp)
                have lG := rG.lt
                go_wp2_with fail
                exact hK.out _ _ ⟨hI.bl, hI.m2, fun _ => rfl, hI.v1, hI.v3, hI.v4, hI.v5, hI.v6, hI.v7, hI.v8, hI.v9, hI.v10, hI.v11, hI.v12, hI.v13, hI.v14, hI.v15, hI.v16, hI.v17, hI.v18, hI.v19, hI.v20, hI.v21, hI.v22, hI.v23, hI.v24, hI.v25⟩
              case sz1 =>
                intro xs done y hI hd0 hup hdn K hK
                refine wpOp_go (o := ⟨some 25, _, _, _, _, _⟩) rfl rfl ?_
                have e0 := hI.v0 (hdn 0 (by kernel_rfl))
                simp only [putsF, List.foldl_cons, List.foldl_nil, Act.put, List.setIfInBounds_toArray, List.set_cons_zero, List.set_cons_succ] at hK ⊢
                simp only [e0] at hK ⊢
                have rG := RG.out.below hI.bl RG.out.lt
                have g0 : y.cell? ⟨wr.heap.size, 0, none⟩ = some (.int .i64 f) := rG.cell (j := 0) (by simp)
                have g1 : y.cell? ⟨wr.heap.size, 1, none⟩ = some (.int .i64 p) := rG.cell (j := 1) (by simp)
                have lG := rG.lt
                go_wp2_with fail
                exact hK.out _ _ ⟨hI.bl, hI.m2, hI.v0, fun _ => rfl, hI.v3, hI.v4, hI.v5, hI.v6, hI.v7, hI.v8, hI.v9, hI.v10, hI.v11, hI.v12, hI.v13, hI.v14, hI.v15, hI.v16, hI.v17, hI.v18, hI.v19, hI.v20, hI.v21, hI.v22, hI.v23, hI.v24, hI.v25⟩
              case sz2 =>
                intro xs done y hI hd0 hup hdn K hK
                refine wpOp_go (o := ⟨some 26, _, _, _, _, _⟩) rfl rfl ?_
                have e1 := hI.v1 (hdn 1 (by kernel_rfl))
                simp only [putsF, List.foldl_cons, List.foldl_nil, Act.put, List.setIfInBounds_toArray, List.set_cons_zero, List.set_cons_succ] at hK ⊢
                simp only [e1] at hK ⊢
                go_wp2_with fail
                exact hK.out _ _ ⟨(hI.bl.alloc hI.bl.size _), (fun _ _ => ⟨_, rfl, Row.new y 3 #[.int .i64 f]⟩), hI.v0, hI.v1, hI.v3, hI.v4, hI.v5, hI.v6, hI.v7, hI.v8, hI.v9, hI.v10, hI.v11, hI.v12, hI.v13, hI.v14, hI.v15, hI.v16, hI.v17, hI.v18, hI.v19, hI.v20, hI.v21, hI.v22, hI.v23, hI.v24, hI.v25⟩
              case sz3 =>
                intro xs done y hI hd0 hup hdn K hK
                refine wpOp_go (o := ⟨some 27, _, _, _, _, _⟩) rfl rfl ?_
                have hm2 := hI.m2 (hdn 2 (by kernel_rfl)) hd0
                simp only [putsF, List.foldl_cons, List.foldl_nil, Act.put, List.setIfInBounds_toArray, List.set_cons_zero, List.set_cons_succ] at hK ⊢
                obtain ⟨g2, e2, hr2⟩ := hm2
                simp only [e2] at hK ⊢
                have hq := HA.out y g2 hr2
                go_wp2_with (go_at_call 38; refine hq.mono ?_; rintro e z ⟨rfl, rfl⟩)
                exact hK.out _ _ ⟨hI.bl, (fun _ h => Bool.noConfusion h), hI.v0, hI.v1, fun _ => rfl, hI.v4, hI.v5, hI.v6, hI.v7, hI.v8, hI.v9, hI.v10, hI.v11, hI.v12, hI.v13, hI.v14, hI.v15, hI.v16, hI.v17, hI.v18, hI.v19, hI.v20, hI.v21, hI.v22, hI.v23, hI.v24, hI.v25⟩
              case sz4 =>
                intro xs done y hI hd0 hup hdn K hK
                refine wpOp_go (o := ⟨some 28, _, _, _, _, _⟩) rfl rfl ?_
                have e3 := hI.v3 (hdn 3 (by kernel_rfl))
                simp only [putsF, List.foldl_cons, List.foldl_nil, Act.put, List.setIfInBounds_toArray, List.set_cons_zero, List.set_cons_succ] at hK ⊢
                simp only [e3] at hK ⊢
                go_wp2_with fail
                exact hK.out _ _ ⟨hI.bl, hI.m2, hI.v0, hI.v1, hI.v3, fun _ => rfl, hI.v5, hI.v6, hI.v7, hI.v8, hI.v9, hI.v10, hI.v11, hI.v12, hI.v13, hI.v14, hI.v15, hI.v16, hI.v17, hI.v18, hI.v19, hI.v20, hI.v21, hI.v22, hI.v23, hI.v24, hI.v25⟩
              case sz5 =>
                intro xs done y hI hd0 hup hdn K hK
                refine wpOp_go (o := ⟨some 29, _, _, _, _, _⟩) rfl rfl ?_
                have e4 := hI.v4 (hdn 4 (by kernel_rfl))
                simp only [putsF, List.foldl_cons, List.foldl_nil, Act.put, List.setIfInBounds_toArray, List.set_cons_zero, List.set_cons_succ] at hK ⊢
                simp only [e4] at hK ⊢
                go_wp2_with fail
                exact hK.out _ _ ⟨hI.bl, hI.m2, hI.v0, hI.v1, hI.v3, hI.v4, fun _ => rfl, hI.v6, hI.v7, hI.v8, hI.v9, hI.v10, hI.v11, hI.v12, hI.v13, hI.v14, hI.v15, hI.v16, hI.v17, hI.v18, hI.v19, hI.v20, hI.v21, hI.v22, hI.v23, hI.v24, hI.v25⟩
              case sz6 =>
                intro xs done y hI hd0 hup hdn K hK
                have e5 := hI.v5 (hdn 5 (by kernel_rfl))
                simp only [putsF, List.foldl_cons, List.foldl_nil, Act.put, List.setIfInBounds_toArray, List.set_cons_zero, List.set_cons_succ] at hK ⊢
                refine wpOp_run (o := ⟨some 30, _, _, _, _, _⟩) rfl rfl rfl (congrArg some e5) ?_
                simp only [e5] at hK ⊢
                have rG := RG.out.below hI.bl RG.out.lt
                have g0 : y.cell? ⟨wr.heap.size, 0, none⟩ = some (.int .i64 f) := rG.cell (j := 0) (by simp)
                have g1 : y.cell? ⟨wr.heap.size, 1, none⟩ = some (.int .i64 p) := rG.cell (j := 1) (by simp)
                have lG := rG.lt
                go_wp2_with fail
                exact hK.out _ _ ⟨hI.bl, hI.m2, hI.v0, hI.v1, hI.v3, hI.v4, hI.v5, fun _ => rfl, hI.v7, hI.v8, hI.v9, hI.v10, hI.v11, hI.v12, hI.v13, hI.v14, hI.v15, hI.v16, hI.v17, hI.v18, hI.v19, hI.v20, hI.v21, hI.v22, hI.v23, hI.v24, hI.v25⟩
              case sz7 =>
                intro xs done y hI hd0 hup hdn K hK
                have e6 := hI.v6 (hdn 6 (by kernel_rfl))
                have e5 := hI.v5 (hdn 5 (by kernel_rfl))
                simp only [putsF, List.foldl_cons, List.foldl_nil, Act.put, List.setIfInBounds_toArray, List.set_cons_zero, List.set_cons_succ] at hK ⊢
                refine wpOp_run (o := ⟨some 31, _, _, _, _, _⟩) rfl rfl rfl (congrArg some e5) ?_
                simp only [e6, e5] at hK ⊢
                have rG := RG.out.below hI.bl RG.out.lt
                have g0 : y.cell? ⟨wr.heap.size, 0, none⟩ = some (.int .i64 f) := rG.cell (j := 0) (by simp)
                have g1 : y.cell? ⟨wr.heap.size, 1, none⟩ = some (.int .i64 p) := rG.cell (j := 1) (by simp)
                have lG := rG.lt
                go_wp2_with fail
                exact hK.out _ _ ⟨hI.bl, hI.m2, hI.v0, hI.v1, hI.v3, hI.v4, hI.v5, hI.v6, fun _ => rfl, hI.v8, hI.v9, hI.v10, hI.v11, hI.v12, hI.v13, hI.v14, hI.v15, hI.v16, hI.v17, hI.v18, hI.v19, hI.v20, hI.v21, hI.v22, hI.v23, hI.v24, hI.v25⟩
              case sz8 =>
                intro xs done y hI hd0 hup hdn K hK
                have e7 := hI.v7 (hdn 7 (by kernel_rfl))
                have e5 := hI.v5 (hdn 5 (by kernel_rfl))
                simp only [putsF, List.foldl_cons, List.foldl_nil, Act.put, List.setIfInBounds_toArray, List.set_cons_zero, List.set_cons_succ] at hK ⊢
                refine wpOp_run (o := ⟨some 32, _, _, _, _, _⟩) rfl rfl rfl (congrArg some e5) ?_
                simp only [e7, e5] at hK ⊢
                have hY := hI.bl
                go_wp2_with (go_at_call 45; refine (HP.out y).mono ?_; rintro e z ⟨rfl, hb4⟩)
                exact hK.out _ _ ⟨(hI.bl.trans (hb4.mono hI.bl.size)), (fun _ h => Bool.noConfusion ((hdn 3 (by kernel_rfl)).symm.trans h)), hI.v0, hI.v1, hI.v3, hI.v4, hI.v5, hI.v6, hI.v7, fun _ => rfl, hI.v9, hI.v10, hI.v11, hI.v12, hI.v13, hI.v14, hI.v15, hI.v16, hI.v17, hI.v18, hI.v19, hI.v20, hI.v21, hI.v22, hI.v23, hI.v24, hI.v25⟩
              case sz9 =>
                intro xs done y hI hd0 hup hdn K hK
                have e8 := hI.v8 (hdn 8 (by kernel_rfl))
                have e5 := hI.v5 (hdn 5 (by kernel_rfl))
                simp only [putsF, List.foldl_cons, List.foldl_nil, Act.put, List.setIfInBounds_toArray, List.set_cons_zero, List.set_cons_succ] at hK ⊢
                refine wpOp_run (o := ⟨some 33, _, _, _, _, _⟩) rfl rfl rfl (congrArg some e5) ?_
                simp only [e8, e5] at hK ⊢
                go_wp2_with fail
                exact hK.out _ _ ⟨hI.bl, hI.m2, hI.v0, hI.v1, hI.v3, hI.v4, hI.v5, hI.v6, hI.v7, hI.v8, fun _ => rfl, hI.v10, hI.v11, hI.v12, hI.v13, hI.v14, hI.v15, hI.v16, hI.v17, hI.v18, hI.v19, hI.v20, hI.v21, hI.v22, hI.v23, hI.v24, hI.v25⟩
              case sz10 =>
                intro xs done y hI hd0 hup hdn K hK
                refine wpOp_go (o := ⟨some 34, _, _, _, _, _⟩) rfl rfl ?_
                have e5 := hI.v5 (hdn 5 (by kernel_rfl))
                have e9 := hI.v9 (hdn 9 (by kernel_rfl))
                simp only [putsF, List.foldl_cons, List.foldl_nil, Act.put, List.setIfInBounds_toArray, List.set_cons_zero, List.set_cons_succ] at hK ⊢
                simp only [e5, e9] at hK ⊢
                go_wp2_with fail
                exact hK.out _ _ ⟨hI.bl, hI.m2, hI.v0, hI.v1, hI.v3, hI.v4, hI.v5, hI.v6, hI.v7, hI.v8, hI.v9, fun _ => rfl, hI.v11, hI.v12, hI.v13, hI.v14, hI.v15, hI.v16, hI.v17, hI.v18, hI.v19, hI.v20, hI.v21, hI.v22, hI.v23, hI.v24, hI.v25⟩
              case sz11 =>
                intro xs done y hI hd0 hup hdn K hK
                refine wpOp_go (o := ⟨some 35, _, _, _, _, _⟩) rfl rfl ?_
                have e10 := hI.v10 (hdn 10 (by kernel_rfl))
                simp only [putsF, List.foldl_cons, List.foldl_nil, Act.put, List.setIfInBounds_toArray, List.set_cons_zero, List.set_cons_succ] at hK ⊢
                simp only [e10] at hK ⊢
                go_wp2_with fail
                exact hK.out _ _ ⟨hI.bl, hI.m2, hI.v0, hI.v1, hI.v3, hI.v4, hI.v5, hI.v6, hI.v7, hI.v8, hI.v9, hI.v10, fun _ => rfl, hI.v12, hI.v13, hI.v14, hI.v15, hI.v16, hI.v17, hI.v18, hI.v19, hI.v20, hI.v21, hI.v22, hI.v23, hI.v24, hI.v25⟩
              case sz12 =>
                intro xs done y hI hd0 hup hdn K hK
                have e11 := hI.v11 (hdn 11 (by kernel_rfl))
                simp only [putsF, List.foldl_cons, List.foldl_nil, Act.put, List.setIfInBounds_toArray, List.set_cons_zero, List.set_cons_succ] at hK ⊢
                refine wpOp_skip (o := ⟨some 36, _, _, _, _, _⟩) rfl rfl rfl (congrArg some e11) (by first | (unfold undef; simp; done) | simp) ?_
                exact hK.out undef _ ⟨hI.bl, hI.m2, hI.v0, hI.v1, hI.v3, hI.v4, hI.v5, hI.v6, hI.v7, hI.v8, hI.v9, hI.v10, hI.v11, fun _ => rfl, hI.v13, hI.v14, hI.v15, hI.v16, hI.v17, hI.v18, hI.v19, hI.v20, hI.v21, hI.v22, hI.v23, hI.v24, hI.v25⟩
              case sz13 =>
                intro xs done y hI hd0 hup hdn K hK
                have e12 := hI.v12 (hdn 12 (by kernel_rfl))
                have e11 := hI.v11 (hdn 11 (by kernel_rfl))
                simp only [putsF, List.foldl_cons, List.foldl_nil, Act.put, List.setIfInBounds_toArray, List.set_cons_zero, List.set_cons_succ] at hK ⊢
                refine wpOp_skip (o := ⟨some 37, _, _, _, _, _⟩) rfl rfl rfl (congrArg some e11) (by first | (unfold undef; simp; done) | simp) ?_
                exact hK.out undef _ ⟨hI.bl, hI.m2, hI.v0, hI.v1, hI.v3, hI.v4, hI.v5, hI.v6, hI.v7, hI.v8, hI.v9, hI.v10, hI.v11, hI.v12, fun _ => rfl, hI.v14, hI.v15, hI.v16, hI.v17, hI.v18, hI.v19, hI.v20, hI.v21, hI.v22, hI.v23, hI.v24, hI.v25⟩
              case sz14 =>
                intro xs done y hI hd0 hup hdn K hK
                have e13 := hI.v13 (hdn 13 (by kernel_rfl))
                have e11 := hI.v11 (hdn 11 (by kernel_rfl))
                simp only [putsF, List.foldl_cons, List.foldl_nil, Act.put, List.setIfInBounds_toArray, List.set_cons_zero, List.set_cons_succ] at hK ⊢
                refine wpOp_skip (o := ⟨some 38, _, _, _, _, _⟩) rfl rfl rfl (congrArg some e11) (by first | (unfold undef; simp; done) | simp) ?_
                exact hK.out undef _ ⟨hI.bl, hI.m2, hI.v0, hI.v1, hI.v3, hI.v4, hI.v5, hI.v6, hI.v7, hI.v8, hI.v9, hI.v10, hI.v11, hI.v12, hI.v13, fun _ => rfl, hI.v15, hI.v16, hI.v17, hI.v18, hI.v19, hI.v20, hI.v21, hI.v22, hI.v23, hI.v24, hI.v25⟩
              case sz15 =>
                intro xs done y hI hd0 hup hdn K hK
                have e14 := hI.v14 (hdn 14 (by kernel_rfl))
                simp only [putsF, List.foldl_cons, List.foldl_nil, Act.put, List.setIfInBounds_toArray, List.set_cons_zero, List.set_cons_succ] at hK ⊢
                refine wpOp_skip (o := ⟨some 39, _, _, _, _, _⟩) rfl rfl rfl (congrArg some e14) (by first | (unfold undef; simp; done) | simp) ?_
                exact hK.out undef _ ⟨hI.bl, hI.m2, hI.v0, hI.v1, hI.v3, hI.v4, hI.v5, hI.v6, hI.v7, hI.v8, hI.v9, hI.v10, hI.v11, hI.v12, hI.v13, hI.v14, fun _ => rfl, hI.v16, hI.v17, hI.v18, hI.v19, hI.v20, hI.v21, hI.v22, hI.v23, hI.v24, hI.v25⟩
              case sz16 =>
                intro xs done y hI hd0 hup hdn K hK
                have e15 := hI.v15 (hdn 15 (by kernel_rfl))
                have e14 := hI.v14 (hdn 14 (by kernel_rfl))
                simp only [putsF, List.foldl_cons, List.foldl_nil, Act.put, List.setIfInBounds_toArray, List.set_cons_zero, List.set_cons_succ] at hK ⊢
                refine wpOp_skip (o := ⟨some 40, _, _, _, _, _⟩) rfl rfl rfl (congrArg some e14) (by first | (unfold undef; simp; done) | simp) ?_
                exact hK.out undef _ ⟨hI.bl, hI.m2, hI.v0, hI.v1, hI.v3, hI.v4, hI.v5, hI.v6, hI.v7, hI.v8, hI.v9, hI.v10, hI.v11, hI.v12, hI.v13, hI.v14, hI.v15, fun _ => rfl, hI.v17, hI.v18, hI.v19, hI.v20, hI.v21, hI.v22, hI.v23, hI.v24, hI.v25⟩
              case sz17 =>
                intro xs done y hI hd0 hup hdn K hK
                have e14 := hI.v14 (hdn 14 (by kernel_rfl))
                simp only [putsF, List.foldl_cons, List.foldl_nil, Act.put, List.setIfInBounds_toArray, List.set_cons_zero, List.set_cons_succ] at hK ⊢
                refine wpOp_skip (o := ⟨some 41, _, _, _, _, _⟩) rfl rfl rfl (congrArg some e14) (by first | (unfold undef; simp; done) | simp) ?_
                exact hK.out undef _ ⟨hI.bl, hI.m2, hI.v0, hI.v1, hI.v3, hI.v4, hI.v5, hI.v6, hI.v7, hI.v8, hI.v9, hI.v10, hI.v11, hI.v12, hI.v13, hI.v14, hI.v15, hI.v16, fun _ => rfl, hI.v18, hI.v19, hI.v20, hI.v21, hI.v22, hI.v23, hI.v24, hI.v25⟩
              case sz18 =>
                intro xs done y hI hd0 hup hdn K hK
                have e14 := hI.v14 (hdn 14 (by kernel_rfl))
                simp only [putsF, List.foldl_cons, List.foldl_nil, Act.put, List.setIfInBounds_toArray, List.set_cons_zero, List.set_cons_succ] at hK ⊢
                refine wpOp_skip (o := ⟨some 42, _, _, _, _, _⟩) rfl rfl rfl (congrArg some e14) (by first | (unfold undef; simp; done) | simp) ?_
                exact hK.out undef _ ⟨hI.bl, hI.m2, hI.v0, hI.v1, hI.v3, hI.v4, hI.v5, hI.v6, hI.v7, hI.v8, hI.v9, hI.v10, hI.v11, hI.v12, hI.v13, hI.v14, hI.v15, hI.v16, hI.v17, fun _ => rfl, hI.v19, hI.v20, hI.v21, hI.v22, hI.v23, hI.v24, hI.v25⟩
              case sz19 =>
                intro xs done y hI hd0 hup hdn K hK
                have e18 := hI.v18 (hdn 18 (by kernel_rfl))
                have e14 := hI.v14 (hdn 14 (by kernel_rfl))
                simp only [putsF, List.foldl_cons, List.foldl_nil, Act.put, List.setIfInBounds_toArray, List.set_cons_zero, List.set_cons_succ] at hK ⊢
                refine wpOp_skip (o := ⟨some 43, _, _, _, _, _⟩) rfl rfl rfl (congrArg some e14) (by first | (unfold undef; simp; done) | simp) ?_
                exact hK.out undef _ ⟨hI.bl, hI.m2, hI.v0, hI.v1, hI.v3, hI.v4, hI.v5, hI.v6, hI.v7, hI.v8, hI.v9, hI.v10, hI.v11, hI.v12, hI.v13, hI.v14, hI.v15, hI.v16, hI.v17, hI.v18, fun _ => rfl, hI.v20, hI.v21, hI.v22, hI.v23, hI.v24, hI.v25⟩
              case sz20 =>
                intro xs done y hI hd0 hup hdn K hK
                have e17 := hI.v17 (hdn 17 (by kernel_rfl))
                have e19 := hI.v19 (hdn 19 (by kernel_rfl))
                have e14 := hI.v14 (hdn 14 (by kernel_rfl))
                simp only [putsF, List.foldl_cons, List.foldl_nil, Act.put, List.setIfInBounds_toArray, List.set_cons_zero, List.set_cons_succ] at hK ⊢
                refine wpOp_skip (o := ⟨some 44, _, _, _, _, _⟩) rfl rfl rfl (congrArg some e14) (by first | (unfold undef; simp; done) | simp) ?_
                exact hK.out undef _ ⟨hI.bl, hI.m2, hI.v0, hI.v1, hI.v3, hI.v4, hI.v5, hI.v6, hI.v7, hI.v8, hI.v9, hI.v10, hI.v11, hI.v12, hI.v13, hI.v14, hI.v15, hI.v16, hI.v17, hI.v18, hI.v19, fun _ => rfl, hI.v21, hI.v22, hI.v23, hI.v24, hI.v25⟩
              case sz21 =>
                intro xs done y hI hd0 hup hdn K hK
                have e20 := hI.v20 (hdn 20 (by kernel_rfl))
                have e14 := hI.v14 (hdn 14 (by kernel_rfl))
                simp only [putsF, List.foldl_cons, List.foldl_nil, Act.put, List.setIfInBounds_toArray, List.set_cons_zero, List.set_cons_succ] at hK ⊢
                refine wpOp_skip (o := ⟨some 45, _, _, _, _, _⟩) rfl rfl rfl (congrArg some e14) (by first | (unfold undef; simp; done) | simp) ?_
                exact hK.out undef _ ⟨hI.bl, hI.m2, hI.v0, hI.v1, hI.v3, hI.v4, hI.v5, hI.v6, hI.v7, hI.v8, hI.v9, hI.v10, hI.v11, hI.v12, hI.v13, hI.v14, hI.v15, hI.v16, hI.v17, hI.v18, hI.v19, hI.v20, fun _ => rfl, hI.v22, hI.v23, hI.v24, hI.v25⟩
              case sz22 =>
                intro xs done y hI hd0 hup hdn K hK
                have e21 := hI.v21 (hdn 21 (by kernel_rfl))
                have e14 := hI.v14 (hdn 14 (by kernel_rfl))
                simp only [putsF, List.foldl_cons, List.foldl_nil, Act.put, List.setIfInBounds_toArray, List.set_cons_zero, List.set_cons_succ] at hK ⊢
                refine wpOp_skip (o := ⟨some 46, _, _, _, _, _⟩) rfl rfl rfl (congrArg some e14) (by first | (unfold undef; simp; done) | simp) ?_
                exact hK.out undef _ ⟨hI.bl, hI.m2, hI.v0, hI.v1, hI.v3, hI.v4, hI.v5, hI.v6, hI.v7, hI.v8, hI.v9, hI.v10, hI.v11, hI.v12, hI.v13, hI.v14, hI.v15, hI.v16, hI.v17, hI.v18, hI.v19, hI.v20, hI.v21, fun _ => rfl, hI.v23, hI.v24, hI.v25⟩
              case sz23 =>
                intro xs done y hI hd0 hup hdn K hK
                have e16 := hI.v16 (hdn 16 (by kernel_rfl))
                have e22 := hI.v22 (hdn 22 (by kernel_rfl))
                have e14 := hI.v14 (hdn 14 (by kernel_rfl))
                simp only [putsF, List.foldl_cons, List.foldl_nil, Act.put, List.setIfInBounds_toArray, List.set_cons_zero, List.set_cons_succ] at hK ⊢
                refine wpOp_skip (o := ⟨some 47, _, _, _, _, _⟩) rfl rfl rfl (congrArg some e14) (by first | (unfold undef; simp; done) | simp) ?_
                exact hK.out undef _ ⟨hI.bl, hI.m2, hI.v0, hI.v1, hI.v3, hI.v4, hI.v5, hI.v6, hI.v7, hI.v8, hI.v9, hI.v10, hI.v11, hI.v12, hI.v13, hI.v14, hI.v15, hI.v16, hI.v17, hI.v18, hI.v19, hI.v20, hI.v21, hI.v22, fun _ => rfl, hI.v24, hI.v25⟩
              case sz24 =>
                intro xs done y hI hd0 hup hdn K hK
                have e14 := hI.v14 (hdn 14 (by kernel_rfl))
                have e23 := hI.v23 (hdn 23 (by kernel_rfl))
                have e11 := hI.v11 (hdn 11 (by kernel_rfl))
                simp only [putsF, List.foldl_cons, List.foldl_nil, Act.put, List.setIfInBounds_toArray, List.set_cons_zero, List.set_cons_succ] at hK ⊢
                refine wpOp_skip (o := ⟨some 48, _, _, _, _, _⟩) rfl rfl rfl (congrArg some e11) (by first | (unfold undef; simp; done) | simp) ?_
                exact hK.out undef _ ⟨hI.bl, hI.m2, hI.v0, hI.v1, hI.v3, hI.v4, hI.v5, hI.v6, hI.v7, hI.v8, hI.v9, hI.v10, hI.v11, hI.v12, hI.v13, hI.v14, hI.v15, hI.v16, hI.v17, hI.v18, hI.v19, hI.v20, hI.v21, hI.v22, hI.v23, fun _ => rfl, hI.v25⟩
              case sz25 =>
                intro xs done y hI hd0 hup hdn K hK
                refine wpOp_go (o := ⟨some 49, _, _, _, _, _⟩) rfl rfl ?_
                have e11 := hI.v11 (hdn 11 (by kernel_rfl))
                have e24 := hI.v24 (hdn 24 (by kernel_rfl))
                simp only [putsF, List.foldl_cons, List.foldl_nil, Act.put, List.setIfInBounds_toArray, List.set_cons_zero, List.set_cons_succ] at hK ⊢
                simp only [e11, e24] at hK ⊢
                go_wp2_with fail
                exact hK.out _ _ ⟨hI.bl, hI.m2, hI.v0, hI.v1, hI.v3, hI.v4, hI.v5, hI.v6, hI.v7, hI.v8, hI.v9, hI.v10, hI.v11, hI.v12, hI.v13, hI.v14, hI.v15, hI.v16, hI.v17, hI.v18, hI.v19, hI.v20, hI.v21, hI.v22, hI.v23, hI.v24, fun _ => rfl⟩
              case finz =>
              intro xs done y hI hd
              have hb6 := hI.bl
              have e25 := hI.v25 (hd 25 (by decide))
              simp only [putsF, List.foldl_cons, List.foldl_nil, Act.put, List.setIfInBounds_toArray, List.set_cons_zero, List.set_cons_succ]
              simp only [e25]
              have HB6 := Lib.hid (HY.out.trans (hb6.mono HY.out.size))
              clear hI hb6
              go_wp2_with fail
              go_ret
              exact ⟨ret_boolT (by rw [HV.out, brAll_out (k := k) (by rw [HO.out]; rfl) n HK.out]; simp), HB6.out⟩
            | true =>
              have HP : Hid (∀ X, Calls Try.prog 45 #[.int .i64 p] X fun e w' => e = .returned (.bool true) ∧ Below X.heap.size X w') := fun X => by have := isPercent_any p X; rw [h2] at this; exact this
              rw [h2] at HO
              clear h2
              by_cases hk0 : k = 0
              · have hk1 : decide (0 < k) = false := decide_eq_false (by omega)
                have hk2 : ¬ 0 < k := by omega
                have HK0 := Lib.hid hk0
                clear hk0
                go_upto_region 5 with fail
                go_upto_region 6 with fail
                rw [← hY]
                clear hY
                refine wp_region_stepsY 26 (ord := [0, 1, 2, 3, 4, 5, 6, 7, 8, 9, 10, 11, 12, 13, 14, 15, 16, 17, 18, 19, 20, 21, 22, 23, 24, 25]) (ds := [(0, 24), (1, 25), (2, 26), (3, 27), (4, 28), (5, 29), (6, 30), (7, 31), (8, 32), (9, 33), (10, 34), (11, 35), (12, 36), (13, 37), (14, 38), (15, 39), (16, 40), (17, 41), (18, 42), (19, 43), (20, 44), (21, 45), (22, 46), (23, 47), (24, 48), (25, 49)]) (I := VbC Y wr.heap.size k f p f2 b o n ca) (by kernel_rfl) (by kernel_rfl) rfl ?iz (StepsY.cons (k := 0) (k' := 1) (o := ⟨some 24, _, _, _, _, _⟩) rfl rfl ?sz0 (StepsY.cons (k := 1) (k' := 2) (o := ⟨some 25, _, _, _, _, _⟩) rfl rfl ?sz1 (StepsY.cons (k := 2) (k' := 3) (o := ⟨some 26, _, _, _, _, _⟩) rfl rfl ?sz2 (StepsY.cons (k := 3) (k' := 4) (o := ⟨some 27, _, _, _, _, _⟩) rfl rfl ?sz3 (StepsY.cons (k := 4) (k' := 5) (o := ⟨some 28, _, _, _, _, _⟩) rfl rfl ?sz4 (StepsY.cons (k := 5) (k' := 6) (o := ⟨some 29, _, _, _, _, _⟩) rfl rfl ?sz5 (StepsY.cons (k := 6) (k' := 7) (o := ⟨some 30, _, _, _, _, _⟩) rfl rfl ?sz6 (StepsY.cons (k := 7) (k' := 8) (o := ⟨some 31, _, _, _, _, _⟩) rfl rfl ?sz7 (StepsY.cons (k := 8) (k' := 9) (o := ⟨some 32, _, _, _, _, _⟩) rfl rfl ?sz8 (StepsY.cons (k := 9) (k' := 10) (o := ⟨some 33, _, _, _, _, _⟩) rfl rfl ?sz9 (StepsY.cons (k := 10) (k' := 11) (o := ⟨some 34, _, _, _, _, _⟩) rfl rfl ?sz10 (StepsY.cons (k := 11) (k' := 12) (o := ⟨some 35, _, _, _, _, _⟩) rfl rfl ?sz11 (StepsY.cons (k := 12) (k' := 13) (o := ⟨some 36, _, _, _, _, _⟩) rfl rfl ?sz12 (StepsY.cons (k := 13) (k' := 14) (o := ⟨some 37, _, _, _, _, _⟩) rfl rfl ?sz13 (StepsY.cons (k := 14) (k' := 15) (o := ⟨some 38, _, _, _, _, _⟩) rfl rfl ?sz14 (StepsY.cons (k := 15) (k' := 16) (o := ⟨some 39, _, _, _, _, _⟩) rfl rfl ?sz15 (StepsY.cons (k := 16) (k' := 17) (o := ⟨some 40, _, _, _, _, _⟩) rfl rfl ?sz16 (StepsY.cons (k := 17) (k' := 18) (o := ⟨some 41, _, _, _, _, _⟩) rfl rfl ?sz17 (StepsY.cons (k := 18) (k' := 19) (o := ⟨some 42, _, _, _, _, _⟩) rfl rfl ?sz18 (StepsY.cons (k := 19) (k' := 20) (o := ⟨some 43, _, _, _, _, _⟩) rfl rfl ?sz19 (StepsY.cons (k := 20) (k' := 21) (o := ⟨some 44, _, _, _, _, _⟩) rfl rfl ?sz20 (StepsY.cons (k := 21) (k' := 22) (o := ⟨some 45, _, _, _, _, _⟩) rfl rfl ?sz21 (StepsY.cons (k := 22) (k' := 23) (o := ⟨some 46, _, _, _, _, _⟩) rfl rfl ?sz22 (StepsY.cons (k := 23) (k' := 24) (o := ⟨some 47, _, _, _, _, _⟩) rfl rfl ?sz23 (StepsY.cons (k := 24) (k' := 25) (o := ⟨some 48, _, _, _, _, _⟩) rfl rfl ?sz24 (StepsY.cons (k := 25) (k' := 26) (o := ⟨some 49, _, _, _, _, _⟩) rfl rfl ?sz25 StepsY.nil)))))))))))))))))))))))))) ?finz
                case iz => exact fun xs => ⟨(Below.refl _ _).drew, fun h => Bool.noConfusion h, fun h => Bool.noConfusion h, fun h => Bool.noConfusion h, fun h => Bool.noConfusion h, fun h => Bool.noConfusion h, fun h => Bool.noConfusion h, fun h => Bool.noConfusion h, fun h => Bool.noConfusion h, fun h => Bool.noConfusion h, fun h => Bool.noConfusion h, fun h => Bool.noConfusion h, fun h => Bool.noConfusion h, fun h => Bool.noConfusion h, fun h => Bool.noConfusion h, fun h => Bool.noConfusion h, fun h => Bool.noConfusion h, fun h => Bool.noConfusion h, fun h => Bool.noConfusion h, fun h => Bool.noConfusion h, fun h => Bool.noConfusion h, fun h => Bool.noConfusion h, fun h => Bool.noConfusion h, fun h => Bool.noConfusion h, fun h => Bool.noConfusion h, fun h => Bool.noConfusion h, fun h => Bool.noConfusion h⟩
                case sz0 =>
                  intro xs done y hI hd0 hup hdn K hK
                  refine wpOp_go (o := ⟨some 24, _, _, _, _, _⟩) rfl rfl ?_
                  simp only [putsF, List.foldl_cons, List.foldl_nil, Act.put, List.setIfInBounds_toArray, List.set_cons_zero, List.set_cons_succ] at hK ⊢
                  have rG := RG.out.below hI.bl RG.out.lt
                  have g0 : y.cell? ⟨wr.heap.size, 0, none⟩ = some (.int .i64 f) := rG.cell (j := 0) (by simp)
                  have g1 : y.cell? ⟨wr.heap.size, 1, none⟩ = some (.int .i64 p) := rG.cell (j := 1) (by simp)
                  have lG := rG.lt
                  go_wp2_with fail
                  exact hK.out _ _ ⟨hI.bl, hI.m2, fun _ => rfl, hI.v1, hI.v3, hI.v4, hI.v5, hI.v6, hI.v7, hI.v8, hI.v9, hI.v10, hI.v11, hI.v12, hI.v13, hI.v14, hI.v15, hI.v16, hI.v17, hI.v18, hI.v19, hI.v20, hI.v21, hI.v22, hI.v23, hI.v24, hI.v25⟩
                case sz1 =>
                  intro xs done y hI hd0 hup hdn K hK
                  refine wpOp_go (o := ⟨some 25, _, _, _, _, _⟩) rfl rfl ?_
                  have e0 := hI.v0 (hdn 0 (by kernel_rfl))
                  simp only [putsF, List.foldl_cons, List.foldl_nil, Act.put, List.setIfInBounds_toArray, List.set_cons_zero, List.set_cons_succ] at hK ⊢
                  simp only [e0] at hK ⊢
                  have rG := RG.out.below hI.bl RG.out.lt
                  have g0 : y.cell? ⟨wr.heap.size, 0, none⟩ = some (.int .i64 f) := rG.cell (j := 0) (by simp)
                  have g1 : y.cell? ⟨wr.heap.size, 1, none⟩ = some (.int .i64 p) := rG.cell (j := 1) (by simp)
                  have lG := rG.lt
                  go_wp2_with fail
                  exact hK.out _ _ ⟨hI.bl, hI.m2, hI.v0, fun _ => rfl, hI.v3, hI.v4, hI.v5, hI.v6, hI.v7, hI.v8, hI.v9, hI.v10, hI.v11, hI.v12, hI.v13, hI.v14, hI.v15, hI.v16, hI.v17, hI.v18, hI.v19, hI.v20, hI.v21, hI.v22, hI.v23, hI.v24, hI.v25⟩
                case sz2 =>
                  intro xs done y hI hd0 hup hdn K hK
                  refine wpOp_go (o := ⟨some 26, _, _, _, _, _⟩) rfl rfl ?_
                  have e1 := hI.v1 (hdn 1 (by kernel_rfl))
                  simp only [putsF, List.foldl_cons, List.foldl_nil, Act.put, List.setIfInBounds_toArray, List.set_cons_zero, List.set_cons_succ] at hK ⊢
                  simp only [e1] at hK ⊢
                  go_wp2_with fail
                  exact hK.out _ _ ⟨(hI.bl.alloc hI.bl.size _), (fun _ _ => ⟨_, rfl, Row.new y 3 #[.int .i64 f]⟩), hI.v0, hI.v1, hI.v3, hI.v4, hI.v5, hI.v6, hI.v7, hI.v8, hI.v9, hI.v10, hI.v11, hI.v12, hI.v13, hI.v14, hI.v15, hI.v16, hI.v17, hI.v18, hI.v19, hI.v20, hI.v21, hI.v22, hI.v23, hI.v24, hI.v25⟩
                case sz3 =>
                  intro xs done y hI hd0 hup hdn K hK
                  refine wpOp_go (o := ⟨some 27, _, _, _, _, _⟩) rfl rfl ?_
                  have hm2 := hI.m2 (hdn 2 (by kernel_rfl)) hd0
                  simp only [putsF, List.foldl_cons, List.foldl_nil, Act.put, List.setIfInBounds_toArray, List.set_cons_zero, List.set_cons_succ] at hK ⊢
                  obtain ⟨g2, e2, hr2⟩ := hm2
                  simp only [e2] at hK ⊢
                  have hq := HA.out y g2 hr2
                  go_wp2_with (go_at_call 38; refine hq.mono ?_; rintro e z ⟨rfl, rfl⟩)
                  exact hK.out _ _ ⟨hI.bl, (fun _ h => Bool.noConfusion h), hI.v0, hI.v1, fun _ => rfl, hI.v4, hI.v5, hI.v6, hI.v7, hI.v8, hI.v9, hI.v10, hI.v11, hI.v12, hI.v13, hI.v14, hI.v15, hI.v16, hI.v17, hI.v18, hI.v19, hI.v20, hI.v21, hI.v22, hI.v23, hI.v24, hI.v25⟩
                case sz4 =>
                  intro xs done y hI hd0 hup hdn K hK
                  refine wpOp_go (o := ⟨some 28, _, _, _, _, _⟩) rfl rfl ?_
                  have e3 := hI.v3 (hdn 3 (by kernel_rfl))
                  simp only [putsF, List.foldl_cons, List.foldl_nil, Act.put, List.setIfInBounds_toArray, List.set_cons_zero, List.set_cons_succ] at hK ⊢
                  simp only [e3] at hK ⊢
                  go_wp2_with fail
                  exact hK.out _ _ ⟨hI.bl, hI.m2, hI.v0, hI.v1, hI.v3, fun _ => rfl, hI.v5, hI.v6, hI.v7, hI.v8, hI.v9, hI.v10, hI.v11, hI.v12, hI.v13, hI.v14, hI.v15, hI.v16, hI.v17, hI.v18, hI.v19, hI.v20, hI.v21, hI.v22, hI.v23, hI.v24, hI.v25⟩
                case sz5 =>
                  intro xs done y hI hd0 hup hdn K hK
                  refine wpOp_go (o := ⟨some 29, _, _, _, _, _⟩) rfl rfl ?_
                  have e4 := hI.v4 (hdn 4 (by kernel_rfl))
                  simp only [putsF, List.foldl_cons, List.foldl_nil, Act.put, List.setIfInBounds_toArray, List.set_cons_zero, List.set_cons_succ] at hK ⊢
                  simp only [e4] at hK ⊢
                  go_wp2_with fail
                  exact hK.out _ _ ⟨hI.bl, hI.m2, hI.v0, hI.v1, hI.v3, hI.v4, fun _ => rfl, hI.v6, hI.v7, hI.v8, hI.v9, hI.v10, hI.v11, hI.v12, hI.v13, hI.v14, hI.v15, hI.v16, hI.v17, hI.v18, hI.v19, hI.v20, hI.v21, hI.v22, hI.v23, hI.v24, hI.v25⟩
                case sz6 =>
                  intro xs done y hI hd0 hup hdn K hK
                  have e5 := hI.v5 (hdn 5 (by kernel_rfl))
                  simp only [putsF, List.foldl_cons, List.foldl_nil, Act.put, List.setIfInBounds_toArray, List.set_cons_zero, List.set_cons_succ] at hK ⊢
                  refine wpOp_run (o := ⟨some 30, _, _, _, _, _⟩) rfl rfl rfl (congrArg some e5) ?_
                  simp only [e5] at hK ⊢
                  have rG := RG.out.below hI.bl RG.out.lt
                  have g0 : y.cell? ⟨wr.heap.size, 0, none⟩ = some (.int .i64 f) := rG.cell (j := 0) (by simp)
                  have g1 : y.cell? ⟨wr.heap.size, 1, none⟩ = some (.int .i64 p) := rG.cell (j := 1) (by simp)
                  have lG := rG.lt
                  go_wp2_with fail
                  exact hK.out _ _ ⟨hI.bl, hI.m2, hI.v0, hI.v1, hI.v3, hI.v4, hI.v5, fun _ => rfl, hI.v7, hI.v8, hI.v9, hI.v10, hI.v11, hI.v12, hI.v13, hI.v14, hI.v15, hI.v16, hI.v17, hI.v18, hI.v19, hI.v20, hI.v21, hI.v22, hI.v23, hI.v24, hI.v25⟩
                case sz7 =>
                  intro xs done y hI hd0 hup hdn K hK
                  have e6 := hI.v6 (hdn 6 (by kernel_rfl))
                  have e5 := hI.v5 (hdn 5 (by kernel_rfl))
                  simp only [putsF, List.foldl_cons, List.foldl_nil, Act.put, List.setIfInBounds_toArray, List.set_cons_zero, List.set_cons_succ] at hK ⊢
                  refine wpOp_run (o := ⟨some 31, _, _, _, _, _⟩) rfl rfl rfl (congrArg some e5) ?_
                  simp only [e6, e5] at hK ⊢
                  have rG := RG.out.below hI.bl RG.out.lt
                  have g0 : y.cell? ⟨wr.heap.size, 0, none⟩ = some (.int .i64 f) := rG.cell (j := 0) (by simp)
                  have g1 : y.cell? ⟨wr.heap.size, 1, none⟩ = some (.int .i64 p) := rG.cell (j := 1) (by simp)
                  have lG := rG.lt
                  go_wp2_with fail
                  exact hK.out _ _ ⟨hI.bl, hI.m2, hI.v0, hI.v1, hI.v3, hI.v4, hI.v5, hI.v6, fun _ => rfl, hI.v8, hI.v9, hI.v10, hI.v11, hI.v12, hI.v13, hI.v14, hI.v15, hI.v16, hI.v17, hI.v18, hI.v19, hI.v20, hI.v21, hI.v22, hI.v23, hI.v24, hI.v25⟩
                case sz8 =>
                  intro xs done y hI hd0 hup hdn K hK
                  have e7 := hI.v7 (hdn 7 (by kernel_rfl))
                  have e5 := hI.v5 (hdn 5 (by kernel_rfl))
                  simp only [putsF, List.foldl_cons, List.foldl_nil, Act.put, List.setIfInBounds_toArray, List.set_cons_zero, List.set_cons_succ] at hK ⊢
                  refine wpOp_run (o := ⟨some 32, _, _, _, _, _⟩) rfl rfl rfl (congrArg some e5) ?_
                  simp only [e7, e5] at hK ⊢
                  have hY := hI.bl
                  go_wp2_with (go_at_call 45; refine (HP.out y).mono ?_; rintro e z ⟨rfl, hb4⟩)
                  exact hK.out _ _ ⟨(hI.bl.trans (hb4.mono hI.bl.size)), (fun _ h => Bool.noConfusion ((hdn 3 (by kernel_rfl)).symm.trans h)), hI.v0, hI.v1, hI.v3, hI.v4, hI.v5, hI.v6, hI.v7, fun _ => rfl, hI.v9, hI.v10, hI.v11, hI.v12, hI.v13, hI.v14, hI.v15, hI.v16, hI.v17, hI.v18, hI.v19, hI.v20, hI.v21, hI.v22, hI.v23, hI.v24, hI.v25⟩
                case sz9 =>
                  intro xs done y hI hd0 hup hdn K hK
                  have e8 := hI.v8 (hdn 8 (by kernel_rfl))
                  have e5 := hI.v5 (hdn 5 (by kernel_rfl))
                  simp only [putsF, List.foldl_cons, List.foldl_nil, Act.put, List.setIfInBounds_toArray, List.set_cons_zero, List.set_cons_succ] at hK ⊢
                  refine wpOp_run (o := ⟨some 33, _, _, _, _, _⟩) rfl rfl rfl (congrArg some e5) ?_
                  simp only [e8, e5] at hK ⊢
                  go_wp2_with fail
                  exact hK.out _ _ ⟨hI.bl, hI.m2, hI.v0, hI.v1, hI.v3, hI.v4, hI.v5, hI.v6, hI.v7, hI.v8, fun _ => rfl, hI.v10, hI.v11, hI.v12, hI.v13, hI.v14, hI.v15, hI.v16, hI.v17, hI.v18, hI.v19, hI.v20, hI.v21, hI.v22, hI.v23, hI.v24, hI.v25⟩
                case sz10 =>
                  intro xs done y hI hd0 hup hdn K hK
                  refine wpOp_go (o := ⟨some 34, _, _, _, _, _⟩) rfl rfl ?_
                  have e5 := hI.v5 (hdn 5 (by kernel_rfl))
                  have e9 := hI.v9 (hdn 9 (by kernel_rfl))
                  simp only [putsF, List.foldl_cons, List.foldl_nil, Act.put, List.setIfInBounds_toArray, List.set_cons_zero, List.set_cons_succ] at hK ⊢
                  simp only [e5, e9] at hK ⊢
                  go_wp2_with fail
                  exact hK.out _ _ ⟨hI.bl, hI.m2, hI.v0, hI.v1, hI.v3, hI.v4, hI.v5, hI.v6, hI.v7, hI.v8, hI.v9, fun _ => rfl, hI.v11, hI.v12, hI.v13, hI.v14, hI.v15, hI.v16, hI.v17, hI.v18, hI.v19, hI.v20, hI.v21, hI.v22, hI.v23, hI.v24, hI.v25⟩
                case sz11 =>
                  intro xs done y hI hd0 hup hdn K hK
                  refine wpOp_go (o := ⟨some 35, _, _, _, _, _⟩) rfl rfl ?_
                  have e10 := hI.v10 (hdn 10 (by kernel_rfl))
                  simp only [putsF, List.foldl_cons, List.foldl_nil, Act.put, List.setIfInBounds_toArray, List.set_cons_zero, List.set_cons_succ] at hK ⊢
                  simp only [e10] at hK ⊢
                  go_wp2_with fail
                  exact hK.out _ _ ⟨hI.bl, hI.m2, hI.v0, hI.v1, hI.v3, hI.v4, hI.v5, hI.v6, hI.v7, hI.v8, hI.v9, hI.v10, fun _ => rfl, hI.v12, hI.v13, hI.v14, hI.v15, hI.v16, hI.v17, hI.v18, hI.v19, hI.v20, hI.v21, hI.v22, hI.v23, hI.v24, hI.v25⟩
                case sz12 =>
                  intro xs done y hI hd0 hup hdn K hK
                  have e11 := hI.v11 (hdn 11 (by kernel_rfl))
                  simp only [putsF, List.foldl_cons, List.foldl_nil, Act.put, List.setIfInBounds_toArray, List.set_cons_zero, List.set_cons_succ] at hK ⊢
                  refine wpOp_run (o := ⟨some 36, _, _, _, _, _⟩) rfl rfl rfl (congrArg some e11) ?_
                  simp only [e11] at hK ⊢
                  go_wp2_with fail
                  exact hK.out _ _ ⟨hI.bl, hI.m2, hI.v0, hI.v1, hI.v3, hI.v4, hI.v5, hI.v6, hI.v7, hI.v8, hI.v9, hI.v10, hI.v11, fun _ => rfl, hI.v13, hI.v14, hI.v15, hI.v16, hI.v17, hI.v18, hI.v19, hI.v20, hI.v21, hI.v22, hI.v23, hI.v24, hI.v25⟩
                case sz13 =>
                  intro xs done y hI hd0 hup hdn K hK
                  have e12 := hI.v12 (hdn 12 (by kernel_rfl))
                  have e11 := hI.v11 (hdn 11 (by kernel_rfl))
                  simp only [putsF, List.foldl_cons, List.foldl_nil, Act.put, List.setIfInBounds_toArray, List.set_cons_zero, List.set_cons_succ] at hK ⊢
                  refine wpOp_run (o := ⟨some 37, _, _, _, _, _⟩) rfl rfl rfl (congrArg some e11) ?_
                  simp only [e12, e11] at hK ⊢
                  go_wp2_with fail
                  exact hK.out _ _ ⟨hI.bl, hI.m2, hI.v0, hI.v1, hI.v3, hI.v4, hI.v5, hI.v6, hI.v7, hI.v8, hI.v9, hI.v10, hI.v11, hI.v12, fun _ => rfl, hI.v14, hI.v15, hI.v16, hI.v17, hI.v18, hI.v19, hI.v20, hI.v21, hI.v22, hI.v23, hI.v24, hI.v25⟩
                case sz14 =>
                  intro xs done y hI hd0 hup hdn K hK
                  have e13 := hI.v13 (hdn 13 (by kernel_rfl))
                  have e11 := hI.v11 (hdn 11 (by kernel_rfl))
                  simp only [putsF, List.foldl_cons, List.foldl_nil, Act.put, List.setIfInBounds_toArray, List.set_cons_zero, List.set_cons_succ] at hK ⊢
                  refine wpOp_run (o := ⟨some 38, _, _, _, _, _⟩) rfl rfl rfl (congrArg some e11) ?_
                  simp only [e13, e11] at hK ⊢
                  go_wp2_with fail
                  exact hK.out _ _ ⟨hI.bl, hI.m2, hI.v0, hI.v1, hI.v3, hI.v4, hI.v5, hI.v6, hI.v7, hI.v8, hI.v9, hI.v10, hI.v11, hI.v12, hI.v13, fun _ => rfl, hI.v15, hI.v16, hI.v17, hI.v18, hI.v19, hI.v20, hI.v21, hI.v22, hI.v23, hI.v24, hI.v25⟩
                case sz15 =>
                  intro xs done y hI hd0 hup hdn K hK
                  have e14 := hI.v14 (hdn 14 (by kernel_rfl))
                  simp only [putsF, List.foldl_cons, List.foldl_nil, Act.put, List.setIfInBounds_toArray, List.set_cons_zero, List.set_cons_succ] at hK ⊢
                  refine wpOp_skip (o := ⟨some 39, _, _, _, _, _⟩) rfl rfl rfl (congrArg some e14) (by first | (unfold undef; simp; done) | simp) ?_
                  exact hK.out undef _ ⟨hI.bl, hI.m2, hI.v0, hI.v1, hI.v3, hI.v4, hI.v5, hI.v6, hI.v7, hI.v8, hI.v9, hI.v10, hI.v11, hI.v12, hI.v13, hI.v14, fun _ => rfl, hI.v16, hI.v17, hI.v18, hI.v19, hI.v20, hI.v21, hI.v22, hI.v23, hI.v24, hI.v25⟩
                case sz16 =>
                  intro xs done y hI hd0 hup hdn K hK
                  have e15 := hI.v15 (hdn 15 (by kernel_rfl))
                  have e14 := hI.v14 (hdn 14 (by kernel_rfl))
                  simp only [putsF, List.foldl_cons, List.foldl_nil, Act.put, List.setIfInBounds_toArray, List.set_cons_zero, List.set_cons_succ] at hK ⊢
                  refine wpOp_skip (o := ⟨some 40, _, _, _, _, _⟩) rfl rfl rfl (congrArg some e14) (by first | (unfold undef; simp; done) | simp) ?_
                  exact hK.out undef _ ⟨hI.bl, hI.m2, hI.v0, hI.v1, hI.v3, hI.v4, hI.v5, hI.v6, hI.v7, hI.v8, hI.v9, hI.v10, hI.v11, hI.v12, hI.v13, hI.v14, hI.v15, fun _ => rfl, hI.v17, hI.v18, hI.v19, hI.v20, hI.v21, hI.v22, hI.v23, hI.v24, hI.v25⟩
                case sz17 =>
                  intro xs done y hI hd0 hup hdn K hK
                  have e14 := hI.v14 (hdn 14 (by kernel_rfl))
                  simp only [putsF, List.foldl_cons, List.foldl_nil, Act.put, List.setIfInBounds_toArray, List.set_cons_zero, List.set_cons_succ] at hK ⊢
                  refine wpOp_skip (o := ⟨some 41, _, _, _, _, _⟩) rfl rfl rfl (congrArg some e14) (by first | (unfold undef; simp; done) | simp) ?_
                  exact hK.out undef _ ⟨hI.bl, hI.m2, hI.v0, hI.v1, hI.v3, hI.v4, hI.v5, hI.v6, hI.v7, hI.v8, hI.v9, hI.v10, hI.v11, hI.v12, hI.v13, hI.v14, hI.v15, hI.v16, fun _ => rfl, hI.v18, hI.v19, hI.v20, hI.v21, hI.v22, hI.v23, hI.v24, hI.v25⟩
                case sz18 =>
                  intro xs done y hI hd0 hup hdn K hK
                  have e14 := hI.v14 (hdn 14 (by kernel_rfl))
                  simp only [putsF, List.foldl_cons, List.foldl_nil, Act.put, List.setIfInBounds_toArray, List.set_cons_zero, List.set_cons_succ] at hK ⊢
                  refine wpOp_skip (o := ⟨some 42, _, _, _, _, _⟩) rfl rfl rfl (congrArg some e14) (by first | (unfold undef; simp; done) | simp) ?_
                  exact hK.out undef _ ⟨hI.bl, hI.m2, hI.v0, hI.v1, hI.v3, hI.v4, hI.v5, hI.v6, hI.v7, hI.v8, hI.v9, hI.v10, hI.v11, hI.v12, hI.v13, hI.v14, hI.v15, hI.v16, hI.v17, fun _ => rfl, hI.v19, hI.v20, hI.v21, hI.v22, hI.v23, hI.v24, hI.v25⟩
                case sz19 =>
                  intro xs done y hI hd0 hup hdn K hK
                  have e18 := hI.v18 (hdn 18 (by kernel_rfl))
                  have e14 := hI.v14 (hdn 14 (by kernel_rfl))
                  simp only [putsF, List.foldl_cons, List.foldl_nil, Act.put, List.setIfInBounds_toArray, List.set_cons_zero, List.set_cons_succ] at hK ⊢
                  refine wpOp_skip (o := ⟨some 43, _, _, _, _, _⟩) rfl rfl rfl (congrArg some e14) (by first | (unfold undef; simp; done) | simp) ?_
                  exact hK.out undef _ ⟨hI.bl, hI.m2, hI.v0, hI.v1, hI.v3, hI.v4, hI.v5, hI.v6, hI.v7, hI.v8, hI.v9, hI.v10, hI.v11, hI.v12, hI.v13, hI.v14, hI.v15, hI.v16, hI.v17, hI.v18, fun _ => rfl, hI.v20, hI.v21, hI.v22, hI.v23, hI.v24, hI.v25⟩
                case sz20 =>
                  intro xs done y hI hd0 hup hdn K hK
                  have e17 := hI.v17 (hdn 17 (by kernel_rfl))
                  have e19 := hI.v19 (hdn 19 (by kernel_rfl))
                  have e14 := hI.v14 (hdn 14 (by kernel_rfl))
                  simp only [putsF, List.foldl_cons, List.foldl_nil, Act.put, List.setIfInBounds_toArray, List.set_cons_zero, List.set_cons_succ] at hK ⊢
                  refine wpOp_skip (o := ⟨some 44, _, _, _, _, _⟩) rfl rfl rfl (congrArg some e14) (by first | (unfold undef; simp; done) | simp) ?_
                  exact hK.out undef _ ⟨hI.bl, hI.m2, hI.v0, hI.v1, hI.v3, hI.v4, hI.v5, hI.v6, hI.v7, hI.v8, hI.v9, hI.v10, hI.v11, hI.v12, hI.v13, hI.v14, hI.v15, hI.v16, hI.v17, hI.v18, hI.v19, fun _ => rfl, hI.v21, hI.v22, hI.v23, hI.v24, hI.v25⟩
                case sz21 =>
                  intro xs done y hI hd0 hup hdn K hK
                  have e20 := hI.v20 (hdn 20 (by kernel_rfl))
                  have e14 := hI.v14 (hdn 14 (by kernel_rfl))
                  simp only [putsF, List.foldl_cons, List.foldl_nil, Act.put, List.setIfInBounds_toArray, List.set_cons_zero, List.set_cons_succ] at hK ⊢
                  refine wpOp_skip (o := ⟨some 45, _, _, _, _, _⟩) rfl rfl rfl (congrArg some e14) (by first | (unfold undef; simp; done) | simp) ?_
                  exact hK.out undef _ ⟨hI.bl, hI.m2, hI.v0, hI.v1, hI.v3, hI.v4, hI.v5, hI.v6, hI.v7, hI.v8, hI.v9, hI.v10, hI.v11, hI.v12, hI.v13, hI.v14, hI.v15, hI.v16, hI.v17, hI.v18, hI.v19, hI.v20, fun _ => rfl, hI.v22, hI.v23, hI.v24, hI.v25⟩
                case sz22 =>
                  intro xs done y hI hd0 hup hdn K hK
                  have e21 := hI.v21 (hdn 21 (by kernel_rfl))
                  have e14 := hI.v14 (hdn 14 (by kernel_rfl))
                  simp only [putsF, List.foldl_cons, List.foldl_nil, Act.put, List.setIfInBounds_toArray, List.set_cons_zero, List.set_cons_succ] at hK ⊢
                  refine wpOp_skip (o := ⟨some 46, _, _, _, _, _⟩) rfl rfl rfl (congrArg some e14) (by first | (unfold undef; simp; done) | simp) ?_
                  exact hK.out undef _ ⟨hI.bl, hI.m2, hI.v0, hI.v1, hI.v3, hI.v4, hI.v5, hI.v6, hI.v7, hI.v8, hI.v9, hI.v10, hI.v11, hI.v12, hI.v13, hI.v14, hI.v15, hI.v16, hI.v17, hI.v18, hI.v19, hI.v20, hI.v21, fun _ => rfl, hI.v23, hI.v24, hI.v25⟩
                case sz23 =>
                  intro xs done y hI hd0 hup hdn K hK
                  have e16 := hI.v16 (hdn 16 (by kernel_rfl))
                  have e22 := hI.v22 (hdn 22 (by kernel_rfl))
                  have e14 := hI.v14 (hdn 14 (by kernel_rfl))
                  simp only [putsF, List.foldl_cons, List.foldl_nil, Act.put, List.setIfInBounds_toArray, List.set_cons_zero, List.set_cons_succ] at hK ⊢
                  refine wpOp_skip (o := ⟨some 47, _, _, _, _, _⟩) rfl rfl rfl (congrArg some e14) (by first | (unfold undef; simp; done) | simp) ?_
                  exact hK.out undef _ ⟨hI.bl, hI.m2, hI.v0, hI.v1, hI.v3, hI.v4, hI.v5, hI.v6, hI.v7, hI.v8, hI.v9, hI.v10, hI.v11, hI.v12, hI.v13, hI.v14, hI.v15, hI.v16, hI.v17, hI.v18, hI.v19, hI.v20, hI.v21, hI.v22, fun _ => rfl, hI.v24, hI.v25⟩
                case sz24 =>
                  intro xs done y hI hd0 hup hdn K hK
                  have e14 := hI.v14 (hdn 14 (by kernel_rfl))
                  have e23 := hI.v23 (hdn 23 (by kernel_rfl))
                  have e11 := hI.v11 (hdn 11 (by kernel_rfl))
                  simp only [putsF, List.foldl_cons, List.foldl_nil, Act.put, List.setIfInBounds_toArray, List.set_cons_zero, List.set_cons_succ] at hK ⊢
                  refine wpOp_run (o := ⟨some 48, _, _, _, _, _⟩) rfl rfl rfl (congrArg some e11) ?_
                  simp only [e14, e23, e11] at hK ⊢
                  go_wp2_with fail
                  exact hK.out _ _ ⟨hI.bl, hI.m2, hI.v0, hI.v1, hI.v3, hI.v4, hI.v5, hI.v6, hI.v7, hI.v8, hI.v9, hI.v10, hI.v11, hI.v12, hI.v13, hI.v14, hI.v15, hI.v16, hI.v17, hI.v18, hI.v19, hI.v20, hI.v21, hI.v22, hI.v23, fun _ => rfl, hI.v25⟩
                case sz25 =>
                  intro xs done y hI hd0 hup hdn K hK
                  refine wpOp_go (o := ⟨some 49, _, _, _, _, _⟩) rfl rfl ?_
                  have e11 := hI.v11 (hdn 11 (by kernel_rfl))
                  have e24 := hI.v24 (hdn 24 (by kernel_rfl))
                  simp only [putsF, List.foldl_cons, List.foldl_nil, Act.put, List.setIfInBounds_toArray, List.set_cons_zero, List.set_cons_succ] at hK ⊢
                  simp only [e11, e24] at hK ⊢
                  go_wp2_with fail
                  exact hK.out _ _ ⟨hI.bl, hI.m2, hI.v0, hI.v1, hI.v3, hI.v4, hI.v5, hI.v6, hI.v7, hI.v8, hI.v9, hI.v10, hI.v11, hI.v12, hI.v13, hI.v14, hI.v15, hI.v16, hI.v17, hI.v18, hI.v19, hI.v20, hI.v21, hI.v22, hI.v23, hI.v24, fun _ => rfl⟩
                case finz =>
                intro xs done y hI hd
                have hb6 := hI.bl
                have e25 := hI.v25 (hd 25 (by decide))
                simp only [putsF, List.foldl_cons, List.foldl_nil, Act.put, List.setIfInBounds_toArray, List.set_cons_zero, List.set_cons_succ]
                simp only [e25]
                have HB6 := Lib.hid (HY.out.trans (hb6.mono HY.out.size))
                clear hI hb6
                go_wp2_with fail
                go_roundw
                case rel => exact ⟨k + 1, by omega, by go_num, HB6.out, by simp only [brAll, Bool.and_eq_true]; exact ⟨Hall.out, by rw [HO.out, HK0.out]; rfl⟩⟩
                case measure => simp [intOf]; omega
              · have hk1 : decide (0 < k) = true := decide_eq_true (by omega)
                have hk2 : 0 < k := by omega
                have ew2 : IntKind.i64.wrap ((k : Int) - 1) = (k : Int) - 1 := IntWalk.i64_in _ (by omega)
                have j0 : ¬ (k : Int) - 1 < 0 := by omega
                have j1 : (k : Int) - 1 < (n : Int) := by omega
                have jn : ((k : Int) - 1).toNat = k - 1 := by omega
                have c2 : Y.cell? ⟨b, o + (k - 1) * 2, none⟩ = some (.int .i64 f2) := by rw [HY.out.cell (p := ⟨b, o + (k - 1) * 2, none⟩) (show b < w.heap.size by omega), HF2.out]; exact (HC.out (k - 1) (by omega)).1
                have lbY : b < Y.heap.size := by have := HY.out.size; omega
                have HK0 := Lib.hid hk0
                clear hk0
                go_upto_region 5 with fail
                go_upto_region 6 with fail
                rw [← hY]
                clear hY
                refine wp_region_stepsY 26 (ord := [0, 1, 2, 3, 4, 5, 6, 7, 8, 9, 10, 11, 12, 13, 14, 15, 16, 17, 18, 19, 20, 21, 22, 23, 24, 25]) (ds := [(0, 24), (1, 25), (2, 26), (3, 27), (4, 28), (5, 29), (6, 30), (7, 31), (8, 32), (9, 33), (10, 34), (11, 35), (12, 36), (13, 37), (14, 38), (15, 39), (16, 40), (17, 41), (18, 42), (19, 43), (20, 44), (21, 45), (22, 46), (23, 47), (24, 48), (25, 49)]) (I := VbD Y wr.heap.size k f p f2 b o n ca) (by kernel_rfl) (by kernel_rfl) rfl ?iz (StepsY.cons (k := 0) (k' := 1) (o := ⟨some 24, _, _, _, _, _⟩) rfl rfl ?sz0 (StepsY.cons (k := 1) (k' := 2) (o := ⟨some 25, _, _, _, _, _⟩) rfl rfl ?sz1 (StepsY.cons (k := 2) (k' := 3) (o := ⟨some 26, _, _, _, _, _⟩) rfl rfl ?sz2 (StepsY.cons (k := 3) (k' := 4) (o := ⟨some 27, _, _, _, _, _⟩) rfl rfl ?sz3 (StepsY.cons (k := 4) (k' := 5) (o := ⟨some 28, _, _, _, _, _⟩) rfl rfl ?sz4 (StepsY.cons (k := 5) (k' := 6) (o := ⟨some 29, _, _, _, _, _⟩) rfl rfl ?sz5 (StepsY.cons (k := 6) (k' := 7) (o := ⟨some 30, _, _, _, _, _⟩) rfl rfl ?sz6 (StepsY.cons (k := 7) (k' := 8) (o := ⟨some 31, _, _, _, _, _⟩) rfl rfl ?sz7 (StepsY.cons (k := 8) (k' := 9) (o := ⟨some 32, _, _, _, _, _⟩) rfl rfl ?sz8 (StepsY.cons (k := 9) (k' := 10) (o := ⟨some 33, _, _, _, _, _⟩) rfl rfl ?sz9 (StepsY.cons (k := 10) (k' := 11) (o := ⟨some 34, _, _, _, _, _⟩) rfl rfl ?sz10 (StepsY.cons (k := 11) (k' := 12) (o := ⟨some 35, _, _, _, _, _⟩) rfl rfl ?sz11 (StepsY.cons (k := 12) (k' := 13) (o := ⟨some 36, _, _, _, _, _⟩) rfl rfl ?sz12 (StepsY.cons (k := 13) (k' := 14) (o := ⟨some 37, _, _, _, _, _⟩) rfl rfl ?sz13 (StepsY.cons (k := 14) (k' := 15) (o := ⟨some 38, _, _, _, _, _⟩) rfl rfl ?sz14 (StepsY.cons (k := 15) (k' := 16) (o := ⟨some 39, _, _, _, _, _⟩) rfl rfl ?sz15 (StepsY.cons (k := 16) (k' := 17) (o := ⟨some 40, _, _, _, _, _⟩) rfl rfl ?sz16 (StepsY.cons (k := 17) (k' := 18) (o := ⟨some 41, _, _, _, _, _⟩) rfl rfl ?sz17 (StepsY.cons (k := 18) (k' := 19) (o := ⟨some 42, _, _, _, _, _⟩) rfl rfl ?sz18 (StepsY.cons (k := 19) (k' := 20) (o := ⟨some 43, _, _, _, _, _⟩) rfl rfl ?sz19 (StepsY.cons (k := 20) (k' := 21) (o := ⟨some 44, _, _, _, _, _⟩) rfl rfl ?sz20 (StepsY.cons (k := 21) (k' := 22) (o := ⟨some 45, _, _, _, _, _⟩) rfl rfl ?sz21 (StepsY.cons (k := 22) (k' := 23) (o := ⟨some 46, _, _, _, _, _⟩) rfl rfl ?sz22 (StepsY.cons (k := 23) (k' := 24) (o := ⟨some 47, _, _, _, _, _⟩) rfl rfl ?sz23 (StepsY.cons (k := 24) (k' := 25) (o := ⟨some 48, _, _, _, _, _⟩) rfl rfl ?sz24 (StepsY.cons (k := 25) (k' := 26) (o := ⟨some 49, _, _, _, _, _⟩) rfl rfl ?sz25 StepsY.nil)))))))))))))))))))))))))) ?finz
                case iz => exact fun xs => ⟨(Below.refl _ _).drew, fun h => Bool.noConfusion h, fun h => Bool.noConfusion h, fun h => Bool.noConfusion h, fun h => Bool.noConfusion h, fun h => Bool.noConfusion h, fun h => Bool.noConfusion h, fun h => Bool.noConfusion h, fun h => Bool.noConfusion h, fun h => Bool.noConfusion h, fun h => Bool.noConfusion h, fun h => Bool.noConfusion h, fun h => Bool.noConfusion h, fun h => Bool.noConfusion h, fun h => Bool.noConfusion h, fun h => Bool.noConfusion h, fun h => Bool.noConfusion h, fun h => Bool.noConfusion h, fun h => Bool.noConfusion h, fun h => Bool.noConfusion h, fun h => Bool.noConfusion h, fun h => Bool.noConfusion h, fun h => Bool.noConfusion h, fun h => Bool.noConfusion h, fun h => Bool.noConfusion h, fun h => Bool.noConfusion h, fun h => Bool.noConfusion h⟩
                case sz0 =>
                  intro xs done y hI hd0 hup hdn K hK
                  refine wpOp_go (o := ⟨some 24, _, _, _, _, _⟩) rfl rfl ?_
                  simp only [putsF, List.foldl_cons, List.foldl_nil, Act.put, List.setIfInBounds_toArray, List.set_cons_zero, List.set_cons_succ] at hK ⊢
                  have rG := RG.out.below hI.bl RG.out.lt
                  have g0 : y.cell? ⟨wr.heap.size, 0, none⟩ = some (.int .i64 f) := rG.cell (j := 0) (by simp)
                  have g1 : y.cell? ⟨wr.heap.size, 1, none⟩ = some (.int .i64 p) := rG.cell (j := 1) (by simp)
                  have lG := rG.lt
                  go_wp2_with fail
                  exact hK.out _ _ ⟨hI.bl, hI.m2, fun _ => rfl, hI.v1, hI.v3, hI.v4, hI.v5, hI.v6, hI.v7, hI.v8, hI.v9, hI.v10, hI.v11, hI.v12, hI.v13, hI.v14, hI.v15, hI.v16, hI.v17, hI.v18, hI.v19, hI.v20, hI.v21, hI.v22, hI.v23, hI.v24, hI.v25⟩
                case sz1 =>
                  intro xs done y hI hd0 hup hdn K hK
                  refine wpOp_go (o := ⟨some 25, _, _, _, _, _⟩) rfl rfl ?_
                  have e0 := hI.v0 (hdn 0 (by kernel_rfl))
                  simp only [putsF, List.foldl_cons, List.foldl_nil, Act.put, List.setIfInBounds_toArray, List.set_cons_zero, List.set_cons_succ] at hK ⊢
                  simp only [e0] at hK ⊢
                  have rG := RG.out.below hI.bl RG.out.lt
                  have g0 : y.cell? ⟨wr.heap.size, 0, none⟩ = some (.int .i64 f) := rG.cell (j := 0) (by simp)
                  have g1 : y.cell? ⟨wr.heap.size, 1, none⟩ = some (.int .i64 p) := rG.cell (j := 1) (by simp)
                  have lG := rG.lt
                  go_wp2_with fail
                  exact hK.out _ _ ⟨hI.bl, hI.m2, hI.v0, fun _ => rfl, hI.v3, hI.v4, hI.v5, hI.v6, hI.v7, hI.v8, hI.v9, hI.v10, hI.v11, hI.v12, hI.v13, hI.v14, hI.v15, hI.v16, hI.v17, hI.v18, hI.v19, hI.v20, hI.v21, hI.v22, hI.v23, hI.v24, hI.v25⟩
                case sz2 =>
                  intro xs done y hI hd0 hup hdn K hK
                  refine wpOp_go (o := ⟨some 26, _, _, _, _, _⟩) rfl rfl ?_
                  have e1 := hI.v1 (hdn 1 (by kernel_rfl))
                  simp only [putsF, List.foldl_cons, List.foldl_nil, Act.put, List.setIfInBounds_toArray, List.set_cons_zero, List.set_cons_succ] at hK ⊢
                  simp only [e1] at hK ⊢
                  go_wp2_with fail
                  exact hK.out _ _ ⟨(hI.bl.alloc hI.bl.size _), (fun _ _ => ⟨_, rfl, Row.new y 3 #[.int .i64 f]⟩), hI.v0, hI.v1, hI.v3, hI.v4, hI.v5, hI.v6, hI.v7, hI.v8, hI.v9, hI.v10, hI.v11, hI.v12, hI.v13, hI.v14, hI.v15, hI.v16, hI.v17, hI.v18, hI.v19, hI.v20, hI.v21, hI.v22, hI.v23, hI.v24, hI.v25⟩
                case sz3 =>
                  intro xs done y hI hd0 hup hdn K hK
                  refine wpOp_go (o := ⟨some 27, _, _, _, _, _⟩) rfl rfl ?_
                  have hm2 := hI.m2 (hdn 2 (by kernel_rfl)) hd0
                  simp only [putsF, List.foldl_cons, List.foldl_nil, Act.put, List.setIfInBounds_toArray, List.set_cons_zero, List.set_cons_succ] at hK ⊢
                  obtain ⟨g2, e2, hr2⟩ := hm2
                  simp only [e2] at hK ⊢
                  have hq := HA.out y g2 hr2
                  go_wp2_with (go_at_call 38; refine hq.mono ?_; rintro e z ⟨rfl, rfl⟩)
                  exact hK.out _ _ ⟨hI.bl, (fun _ h => Bool.noConfusion h), hI.v0, hI.v1, fun _ => rfl, hI.v4, hI.v5, hI.v6, hI.v7, hI.v8, hI.v9, hI.v10, hI.v11, hI.v12, hI.v13, hI.v14, hI.v15, hI.v16, hI.v17, hI.v18, hI.v19, hI.v20, hI.v21, hI.v22, hI.v23, hI.v24, hI.v25⟩
                case sz4 =>
                  intro xs done y hI hd0 hup hdn K hK
                  refine wpOp_go (o := ⟨some 28, _, _, _, _, _⟩) rfl rfl ?_
                  have e3 := hI.v3 (hdn 3 (by kernel_rfl))
                  simp only [putsF, List.foldl_cons, List.foldl_nil, Act.put, List.setIfInBounds_toArray, List.set_cons_zero, List.set_cons_succ] at hK ⊢
                  simp only [e3] at hK ⊢
                  go_wp2_with fail
                  exact hK.out _ _ ⟨hI.bl, hI.m2, hI.v0, hI.v1, hI.v3, fun _ => rfl, hI.v5, hI.v6, hI.v7, hI.v8, hI.v9, hI.v10, hI.v11, hI.v12, hI.v13, hI.v14, hI.v15, hI.v16, hI.v17, hI.v18, hI.v19, hI.v20, hI.v21, hI.v22, hI.v23, hI.v24, hI.v25⟩
                case sz5 =>
                  intro xs done y hI hd0 hup hdn K hK
                  refine wpOp_go (o := ⟨some 29, _, _, _, _, _⟩) rfl rfl ?_
                  have e4 := hI.v4 (hdn 4 (by kernel_rfl))
                  simp only [putsF, List.foldl_cons, List.foldl_nil, Act.put, List.setIfInBounds_toArray, List.set_cons_zero, List.set_cons_succ] at hK ⊢
                  simp only [e4] at hK ⊢
                  go_wp2_with fail
                  exact hK.out _ _ ⟨hI.bl, hI.m2, hI.v0, hI.v1, hI.v3, hI.v4, fun _ => rfl, hI.v6, hI.v7, hI.v8, hI.v9, hI.v10, hI.v11, hI.v12, hI.v13, hI.v14, hI.v15, hI.v16, hI.v17, hI.v18, hI.v19, hI.v20, hI.v21, hI.v22, hI.v23, hI.v24, hI.v25⟩
                case sz6 =>
                  intro xs done y hI hd0 hup hdn K hK
                  have e5 := hI.v5 (hdn 5 (by kernel_rfl))
                  simp only [putsF, List.foldl_cons, List.foldl_nil, Act.put, List.setIfInBounds_toArray, List.set_cons_zero, List.set_cons_succ] at hK ⊢
                  refine wpOp_run (o := ⟨some 30, _, _, _, _, _⟩) rfl rfl rfl (congrArg some e5) ?_
                  simp only [e5] at hK ⊢
                  have rG := RG.out.below hI.bl RG.out.lt
                  have g0 : y.cell? ⟨wr.heap.size, 0, none⟩ = some (.int .i64 f) := rG.cell (j := 0) (by simp)
                  have g1 : y.cell? ⟨wr.heap.size, 1, none⟩ = some (.int .i64 p) := rG.cell (j := 1) (by simp)
                  have lG := rG.lt
                  go_wp2_with fail
                  exact hK.out _ _ ⟨hI.bl, hI.m2, hI.v0, hI.v1, hI.v3, hI.v4, hI.v5, fun _ => rfl, hI.v7, hI.v8, hI.v9, hI.v10, hI.v11, hI.v12, hI.v13, hI.v14, hI.v15, hI.v16, hI.v17, hI.v18, hI.v19, hI.v20, hI.v21, hI.v22, hI.v23, hI.v24, hI.v25⟩
                case sz7 =>
                  intro xs done y hI hd0 hup hdn K hK
                  have e6 := hI.v6 (hdn 6 (by kernel_rfl))
                  have e5 := hI.v5 (hdn 5 (by kernel_rfl))
                  simp only [putsF, List.foldl_cons, List.foldl_nil, Act.put, List.setIfInBounds_toArray, List.set_cons_zero, List.set_cons_succ] at hK ⊢
                  refine wpOp_run (o := ⟨some 31, _, _, _, _, _⟩) rfl rfl rfl (congrArg some e5) ?_
                  simp only [e6, e5] at hK ⊢
                  have rG := RG.out.below hI.bl RG.out.lt
                  have g0 : y.cell? ⟨wr.heap.size, 0, none⟩ = some (.int .i64 f) := rG.cell (j := 0) (by simp)
                  have g1 : y.cell? ⟨wr.heap.size, 1, none⟩ = some (.int .i64 p) := rG.cell (j := 1) (by simp)
                  have lG := rG.lt
                  go_wp2_with fail
                  exact hK.out _ _ ⟨hI.bl, hI.m2, hI.v0, hI.v1, hI.v3, hI.v4, hI.v5, hI.v6, fun _ => rfl, hI.v8, hI.v9, hI.v10, hI.v11, hI.v12, hI.v13, hI.v14, hI.v15, hI.v16, hI.v17, hI.v18, hI.v19, hI.v20, hI.v21, hI.v22, hI.v23, hI.v24, hI.v25⟩
                case sz8 =>
                  intro xs done y hI hd0 hup hdn K hK
                  have e7 := hI.v7 (hdn 7 (by kernel_rfl))
                  have e5 := hI.v5 (hdn 5 (by kernel_rfl))
                  simp only [putsF, List.foldl_cons, List.foldl_nil, Act.put, List.setIfInBounds_toArray, List.set_cons_zero, List.set_cons_succ] at hK ⊢
                  refine wpOp_run (o := ⟨some 32, _, _, _, _, _⟩) rfl rfl rfl (congrArg some e5) ?_
                  simp only [e7, e5] at hK ⊢
                  have hY := hI.bl
                  go_wp2_with (go_at_call 45; refine (HP.out y).mono ?_; rintro e z ⟨rfl, hb4⟩)
                  exact hK.out _ _ ⟨(hI.bl.trans (hb4.mono hI.bl.size)), (fun _ h => Bool.noConfusion ((hdn 3 (by kernel_rfl)).symm.trans h)), hI.v0, hI.v1, hI.v3, hI.v4, hI.v5, hI.v6, hI.v7, fun _ => rfl, hI.v9, hI.v10, hI.v11, hI.v12, hI.v13, hI.v14, hI.v15, hI.v16, hI.v17, hI.v18, hI.v19, hI.v20, hI.v21, hI.v22, hI.v23, hI.v24, hI.v25⟩
                case sz9 =>
                  intro xs done y hI hd0 hup hdn K hK
                  have e8 := hI.v8 (hdn 8 (by kernel_rfl))
                  have e5 := hI.v5 (hdn 5 (by kernel_rfl))
                  simp only [putsF, List.foldl_cons, List.foldl_nil, Act.put, List.setIfInBounds_toArray, List.set_cons_zero, List.set_cons_succ] at hK ⊢
                  refine wpOp_run (o := ⟨some 33, _, _, _, _, _⟩) rfl rfl rfl (congrArg some e5) ?_
                  simp only [e8, e5] at hK ⊢
                  go_wp2_with fail
                  exact hK.out _ _ ⟨hI.bl, hI.m2, hI.v0, hI.v1, hI.v3, hI.v4, hI.v5, hI.v6, hI.v7, hI.v8, fun _ => rfl, hI.v10, hI.v11, hI.v12, hI.v13, hI.v14, hI.v15, hI.v16, hI.v17, hI.v18, hI.v19, hI.v20, hI.v21, hI.v22, hI.v23, hI.v24, hI.v25⟩
                case sz10 =>
                  intro xs done y hI hd0 hup hdn K hK
                  refine wpOp_go (o := ⟨some 34, _, _, _, _, _⟩) rfl rfl ?_
                  have e5 := hI.v5 (hdn 5 (by kernel_rfl))
                  have e9 := hI.v9 (hdn 9 (by kernel_rfl))
                  simp only [putsF, List.foldl_cons, List.foldl_nil, Act.put, List.setIfInBounds_toArray, List.set_cons_zero, List.set_cons_succ] at hK ⊢
                  simp only [e5, e9] at hK ⊢
                  go_wp2_with fail
                  exact hK.out _ _ ⟨hI.bl, hI.m2, hI.v0, hI.v1, hI.v3, hI.v4, hI.v5, hI.v6, hI.v7, hI.v8, hI.v9, fun _ => rfl, hI.v11, hI.v12, hI.v13, hI.v14, hI.v15, hI.v16, hI.v17, hI.v18, hI.v19, hI.v20, hI.v21, hI.v22, hI.v23, hI.v24, hI.v25⟩
                case sz11 =>
                  intro xs done y hI hd0 hup hdn K hK
                  refine wpOp_go (o := ⟨some 35, _, _, _, _, _⟩) rfl rfl ?_
                  have e10 := hI.v10 (hdn 10 (by kernel_rfl))
                  simp only [putsF, List.foldl_cons, List.foldl_nil, Act.put, List.setIfInBounds_toArray, List.set_cons_zero, List.set_cons_succ] at hK ⊢
                  simp only [e10] at hK ⊢
                  go_wp2_with fail
                  exact hK.out _ _ ⟨hI.bl, hI.m2, hI.v0, hI.v1, hI.v3, hI.v4, hI.v5, hI.v6, hI.v7, hI.v8, hI.v9, hI.v10, fun _ => rfl, hI.v12, hI.v13, hI.v14, hI.v15, hI.v16, hI.v17, hI.v18, hI.v19, hI.v20, hI.v21, hI.v22, hI.v23, hI.v24, hI.v25⟩
                case sz12 =>
                  intro xs done y hI hd0 hup hdn K hK
                  have e11 := hI.v11 (hdn 11 (by kernel_rfl))
                  simp only [putsF, List.foldl_cons, List.foldl_nil, Act.put, List.setIfInBounds_toArray, List.set_cons_zero, List.set_cons_succ] at hK ⊢
                  refine wpOp_run (o := ⟨some 36, _, _, _, _, _⟩) rfl rfl rfl (congrArg some e11) ?_
                  simp only [e11] at hK ⊢
                  go_wp2_with fail
                  exact hK.out _ _ ⟨hI.bl, hI.m2, hI.v0, hI.v1, hI.v3, hI.v4, hI.v5, hI.v6, hI.v7, hI.v8, hI.v9, hI.v10, hI.v11, fun _ => rfl, hI.v13, hI.v14, hI.v15, hI.v16, hI.v17, hI.v18, hI.v19, hI.v20, hI.v21, hI.v22, hI.v23, hI.v24, hI.v25⟩
                case sz13 =>
                  intro xs done y hI hd0 hup hdn K hK
                  have e12 := hI.v12 (hdn 12 (by kernel_rfl))
                  have e11 := hI.v11 (hdn 11 (by kernel_rfl))
                  simp only [putsF, List.foldl_cons, List.foldl_nil, Act.put, List.setIfInBounds_toArray, List.set_cons_zero, List.set_cons_succ] at hK ⊢
                  refine wpOp_run (o := ⟨some 37, _, _, _, _, _⟩) rfl rfl rfl (congrArg some e11) ?_
                  simp only [e12, e11] at hK ⊢
                  go_wp2_with fail
                  exact hK.out _ _ ⟨hI.bl, hI.m2, hI.v0, hI.v1, hI.v3, hI.v4, hI.v5, hI.v6, hI.v7, hI.v8, hI.v9, hI.v10, hI.v11, hI.v12, fun _ => rfl, hI.v14, hI.v15, hI.v16, hI.v17, hI.v18, hI.v19, hI.v20, hI.v21, hI.v22, hI.v23, hI.v24, hI.v25⟩
                case sz14 =>
                  intro xs done y hI hd0 hup hdn K hK
                  have e13 := hI.v13 (hdn 13 (by kernel_rfl))
                  have e11 := hI.v11 (hdn 11 (by kernel_rfl))
                  simp only [putsF, List.foldl_cons, List.foldl_nil, Act.put, List.setIfInBounds_toArray, List.set_cons_zero, List.set_cons_succ] at hK ⊢
                  refine wpOp_run (o := ⟨some 38, _, _, _, _, _⟩) rfl rfl rfl (congrArg some e11) ?_
                  simp only [e13, e11] at hK ⊢
                  go_wp2_with fail
                  exact hK.out _ _ ⟨hI.bl, hI.m2, hI.v0, hI.v1, hI.v3, hI.v4, hI.v5, hI.v6, hI.v7, hI.v8, hI.v9, hI.v10, hI.v11, hI.v12, hI.v13, fun _ => rfl, hI.v15, hI.v16, hI.v17, hI.v18, hI.v19, hI.v20, hI.v21, hI.v22, hI.v23, hI.v24, hI.v25⟩
                case sz15 =>
                  intro xs done y hI hd0 hup hdn K hK
                  have e14 := hI.v14 (hdn 14 (by kernel_rfl))
                  simp only [putsF, List.foldl_cons, List.foldl_nil, Act.put, List.setIfInBounds_toArray, List.set_cons_zero, List.set_cons_succ] at hK ⊢
                  refine wpOp_run (o := ⟨some 39, _, _, _, _, _⟩) rfl rfl rfl (congrArg some e14) ?_
                  simp only [e14] at hK ⊢
                  have rG := RG.out.below hI.bl RG.out.lt
                  have g0 : y.cell? ⟨wr.heap.size, 0, none⟩ = some (.int .i64 f) := rG.cell (j := 0) (by simp)
                  have g1 : y.cell? ⟨wr.heap.size, 1, none⟩ = some (.int .i64 p) := rG.cell (j := 1) (by simp)
                  have lG := rG.lt
                  go_wp2_with fail
                  exact hK.out _ _ ⟨hI.bl, hI.m2, hI.v0, hI.v1, hI.v3, hI.v4, hI.v5, hI.v6, hI.v7, hI.v8, hI.v9, hI.v10, hI.v11, hI.v12, hI.v13, hI.v14, fun _ => rfl, hI.v16, hI.v17, hI.v18, hI.v19, hI.v20, hI.v21, hI.v22, hI.v23, hI.v24, hI.v25⟩
                case sz16 =>
                  intro xs done y hI hd0 hup hdn K hK
                  have e15 := hI.v15 (hdn 15 (by kernel_rfl))
                  have e14 := hI.v14 (hdn 14 (by kernel_rfl))
                  simp only [putsF, List.foldl_cons, List.foldl_nil, Act.put, List.setIfInBounds_toArray, List.set_cons_zero, List.set_cons_succ] at hK ⊢
                  refine wpOp_run (o := ⟨some 40, _, _, _, _, _⟩) rfl rfl rfl (congrArg some e14) ?_
                  simp only [e15, e14] at hK ⊢
                  have rG := RG.out.below hI.bl RG.out.lt
                  have g0 : y.cell? ⟨wr.heap.size, 0, none⟩ = some (.int .i64 f) := rG.cell (j := 0) (by simp)
                  have g1 : y.cell? ⟨wr.heap.size, 1, none⟩ = some (.int .i64 p) := rG.cell (j := 1) (by simp)
                  have lG := rG.lt
                  go_wp2_with fail
                  exact hK.out _ _ ⟨hI.bl, hI.m2, hI.v0, hI.v1, hI.v3, hI.v4, hI.v5, hI.v6, hI.v7, hI.v8, hI.v9, hI.v10, hI.v11, hI.v12, hI.v13, hI.v14, hI.v15, fun _ => rfl, hI.v17, hI.v18, hI.v19, hI.v20, hI.v21, hI.v22, hI.v23, hI.v24, hI.v25⟩
                case sz17 =>
                  intro xs done y hI hd0 hup hdn K hK
                  have e14 := hI.v14 (hdn 14 (by kernel_rfl))
                  simp only [putsF, List.foldl_cons, List.foldl_nil, Act.put, List.setIfInBounds_toArray, List.set_cons_zero, List.set_cons_succ] at hK ⊢
                  refine wpOp_run (o := ⟨some 41, _, _, _, _, _⟩) rfl rfl rfl (congrArg some e14) ?_
                  simp only [e14] at hK ⊢
                  go_wp2_with fail
                  exact hK.out _ _ ⟨hI.bl, hI.m2, hI.v0, hI.v1, hI.v3, hI.v4, hI.v5, hI.v6, hI.v7, hI.v8, hI.v9, hI.v10, hI.v11, hI.v12, hI.v13, hI.v14, hI.v15, hI.v16, fun _ => rfl, hI.v18, hI.v19, hI.v20, hI.v21, hI.v22, hI.v23, hI.v24, hI.v25⟩
                case sz18 =>
                  intro xs done y hI hd0 hup hdn K hK
                  have e14 := hI.v14 (hdn 14 (by kernel_rfl))
                  simp only [putsF, List.foldl_cons, List.foldl_nil, Act.put, List.setIfInBounds_toArray, List.set_cons_zero, List.set_cons_succ] at hK ⊢
                  refine wpOp_run (o := ⟨some 42, _, _, _, _, _⟩) rfl rfl rfl (congrArg some e14) ?_
                  simp only [e14] at hK ⊢
                  go_wp2_with fail
                  exact hK.out _ _ ⟨hI.bl, hI.m2, hI.v0, hI.v1, hI.v3, hI.v4, hI.v5, hI.v6, hI.v7, hI.v8, hI.v9, hI.v10, hI.v11, hI.v12, hI.v13, hI.v14, hI.v15, hI.v16, hI.v17, fun _ => rfl, hI.v19, hI.v20, hI.v21, hI.v22, hI.v23, hI.v24, hI.v25⟩
                case sz19 =>
                  intro xs done y hI hd0 hup hdn K hK
                  have e18 := hI.v18 (hdn 18 (by kernel_rfl))
                  have e14 := hI.v14 (hdn 14 (by kernel_rfl))
                  simp only [putsF, List.foldl_cons, List.foldl_nil, Act.put, List.setIfInBounds_toArray, List.set_cons_zero, List.set_cons_succ] at hK ⊢
                  refine wpOp_run (o := ⟨some 43, _, _, _, _, _⟩) rfl rfl rfl (congrArg some e14) ?_
                  simp only [e18, e14] at hK ⊢
                  go_wp2_with fail
                  exact hK.out _ _ ⟨hI.bl, hI.m2, hI.v0, hI.v1, hI.v3, hI.v4, hI.v5, hI.v6, hI.v7, hI.v8, hI.v9, hI.v10, hI.v11, hI.v12, hI.v13, hI.v14, hI.v15, hI.v16, hI.v17, hI.v18, fun _ => rfl, hI.v20, hI.v21, hI.v22, hI.v23, hI.v24, hI.v25⟩
                case sz20 =>
                  intro xs done y hI hd0 hup hdn K hK
                  have e17 := hI.v17 (hdn 17 (by kernel_rfl))
                  have e19 := hI.v19 (hdn 19 (by kernel_rfl))
                  have e14 := hI.v14 (hdn 14 (by kernel_rfl))
                  simp only [putsF, List.foldl_cons, List.foldl_nil, Act.put, List.setIfInBounds_toArray, List.set_cons_zero, List.set_cons_succ] at hK ⊢
                  refine wpOp_run (o := ⟨some 44, _, _, _, _, _⟩) rfl rfl rfl (congrArg some e14) ?_
                  simp only [e17, e19, e14] at hK ⊢
                  have ly : b < y.heap.size := Nat.lt_of_lt_of_le lbY hI.bl.size
                  go_wp2_with fail
                  exact hK.out _ _ ⟨hI.bl, hI.m2, hI.v0, hI.v1, hI.v3, hI.v4, hI.v5, hI.v6, hI.v7, hI.v8, hI.v9, hI.v10, hI.v11, hI.v12, hI.v13, hI.v14, hI.v15, hI.v16, hI.v17, hI.v18, hI.v19, fun _ => rfl, hI.v21, hI.v22, hI.v23, hI.v24, hI.v25⟩
                case sz21 =>
                  intro xs done y hI hd0 hup hdn K hK
                  have e20 := hI.v20 (hdn 20 (by kernel_rfl))
                  have e14 := hI.v14 (hdn 14 (by kernel_rfl))
                  simp only [putsF, List.foldl_cons, List.foldl_nil, Act.put, List.setIfInBounds_toArray, List.set_cons_zero, List.set_cons_succ] at hK ⊢
                  refine wpOp_run (o := ⟨some 45, _, _, _, _, _⟩) rfl rfl rfl (congrArg some e14) ?_
                  simp only [e20, e14] at hK ⊢
                  go_wp2_with fail
                  exact hK.out _ _ ⟨hI.bl, hI.m2, hI.v0, hI.v1, hI.v3, hI.v4, hI.v5, hI.v6, hI.v7, hI.v8, hI.v9, hI.v10, hI.v11, hI.v12, hI.v13, hI.v14, hI.v15, hI.v16, hI.v17, hI.v18, hI.v19, hI.v20, fun _ => rfl, hI.v22, hI.v23, hI.v24, hI.v25⟩
                case sz22 =>
                  intro xs done y hI hd0 hup hdn K hK
                  have e21 := hI.v21 (hdn 21 (by kernel_rfl))
                  have e14 := hI.v14 (hdn 14 (by kernel_rfl))
                  simp only [putsF, List.foldl_cons, List.foldl_nil, Act.put, List.setIfInBounds_toArray, List.set_cons_zero, List.set_cons_succ] at hK ⊢
                  refine wpOp_run (o := ⟨some 46, _, _, _, _, _⟩) rfl rfl rfl (congrArg some e14) ?_
                  simp only [e21, e14] at hK ⊢
                  have y0 : y.cell? ⟨b, o + (k - 1) * 2, none⟩ = some (.int .i64 f2) := by rw [hI.bl.cell (p := ⟨b, o + (k - 1) * 2, none⟩) lbY]; exact c2
                  have ly : b < y.heap.size := Nat.lt_of_lt_of_le lbY hI.bl.size
                  go_wp2_with fail
                  exact hK.out _ _ ⟨hI.bl, hI.m2, hI.v0, hI.v1, hI.v3, hI.v4, hI.v5, hI.v6, hI.v7, hI.v8, hI.v9, hI.v10, hI.v11, hI.v12, hI.v13, hI.v14, hI.v15, hI.v16, hI.v17, hI.v18, hI.v19, hI.v20, hI.v21, fun _ => rfl, hI.v23, hI.v24, hI.v25⟩
                case sz23 =>
                  intro xs done y hI hd0 hup hdn K hK
                  have e16 := hI.v16 (hdn 16 (by kernel_rfl))
                  have e22 := hI.v22 (hdn 22 (by kernel_rfl))
                  have e14 := hI.v14 (hdn 14 (by kernel_rfl))
                  simp only [putsF, List.foldl_cons, List.foldl_nil, Act.put, List.setIfInBounds_toArray, List.set_cons_zero, List.set_cons_succ] at hK ⊢
                  refine wpOp_run (o := ⟨some 47, _, _, _, _, _⟩) rfl rfl rfl (congrArg some e14) ?_
                  simp only [e16, e22, e14] at hK ⊢
                  go_wp2_with fail
                  exact hK.out _ _ ⟨hI.bl, hI.m2, hI.v0, hI.v1, hI.v3, hI.v4, hI.v5, hI.v6, hI.v7, hI.v8, hI.v9, hI.v10, hI.v11, hI.v12, hI.v13, hI.v14, hI.v15, hI.v16, hI.v17, hI.v18, hI.v19, hI.v20, hI.v21, hI.v22, fun _ => rfl, hI.v24, hI.v25⟩
                case sz24 =>
                  intro xs done y hI hd0 hup hdn K hK
                  have e14 := hI.v14 (hdn 14 (by kernel_rfl))
                  have e23 := hI.v23 (hdn 23 (by kernel_rfl))
                  have e11 := hI.v11 (hdn 11 (by kernel_rfl))
                  simp only [putsF, List.foldl_cons, List.foldl_nil, Act.put, List.setIfInBounds_toArray, List.set_cons_zero, List.set_cons_succ] at hK ⊢
                  refine wpOp_run (o := ⟨some 48, _, _, _, _, _⟩) rfl rfl rfl (congrArg some e11) ?_
                  simp only [e14, e23, e11] at hK ⊢
                  go_wp2_with fail
                  exact hK.out _ _ ⟨hI.bl, hI.m2, hI.v0, hI.v1, hI.v3, hI.v4, hI.v5, hI.v6, hI.v7, hI.v8, hI.v9, hI.v10, hI.v11, hI.v12, hI.v13, hI.v14, hI.v15, hI.v16, hI.v17, hI.v18, hI.v19, hI.v20, hI.v21, hI.v22, hI.v23, fun _ => rfl, hI.v25⟩
                case sz25 =>
                  intro xs done y hI hd0 hup hdn K hK
                  refine wpOp_go (o := ⟨some 49, _, _, _, _, _⟩) rfl rfl ?_
                  have e11 := hI.v11 (hdn 11 (by kernel_rfl))
                  have e24 := hI.v24 (hdn 24 (by kernel_rfl))
                  simp only [putsF, List.foldl_cons, List.foldl_nil, Act.put, List.setIfInBounds_toArray, List.set_cons_zero, List.set_cons_succ] at hK ⊢
                  simp only [e11, e24] at hK ⊢
                  go_wp2_with fail
                  exact hK.out _ _ ⟨hI.bl, hI.m2, hI.v0, hI.v1, hI.v3, hI.v4, hI.v5, hI.v6, hI.v7, hI.v8, hI.v9, hI.v10, hI.v11, hI.v12, hI.v13, hI.v14, hI.v15, hI.v16, hI.v17, hI.v18, hI.v19, hI.v20, hI.v21, hI.v22, hI.v23, hI.v24, fun _ => rfl⟩
                case finz =>
                intro xs done y hI hd
                have hb6 := hI.bl
                have e25 := hI.v25 (hd 25 (by decide))
                simp only [putsF, List.foldl_cons, List.foldl_nil, Act.put, List.setIfInBounds_toArray, List.set_cons_zero, List.set_cons_succ]
                simp only [e25]
                have HB6 := Lib.hid (HY.out.trans (hb6.mono HY.out.size))
                clear hI hb6
                by_cases hff : f ≤ f2
                · have HFF := Lib.hid hff
                  go_wp2_with fail
                  go_ret
                  exact ⟨ret_boolT (by rw [HV.out, brAll_out (k := k) (by rw [HO.out]; have := HFF.out; have := HK0.out; simp; omega) n HK.out]; simp), HB6.out⟩
                · have HFF := Lib.hid hff
                  go_wp2_with fail
                  go_roundw
                  case rel => exact ⟨k + 1, by omega, by go_num, HB6.out, by simp only [brAll, Bool.and_eq_true]; exact ⟨Hall.out, by rw [HO.out]; have := HFF.out; simp; omega⟩⟩
                  case measure => simp [intOf]; omega
        · have e : k = n := by omega
          have HE := Lib.hid e
          clear e
          go_wp2_with fail
          go_ret
          exact ⟨ret_boolT (by rw [HV.out, ← HE.out, Hall.out, HZ.out]; rfl), hbel⟩
    · go_enter Try.func78, Try.ntmps78
      go_wp2_with (go_at_call 49; refine (H1.out _).mono ?_; rintro e w' ⟨rfl, rfl⟩)
      go_ret
      exact ⟨ret_boolT (by rw [HV.out]; simp [hz]), HB1.out⟩
end Go.Proofs.Ytdechfjlbdbbnaa
