/- Contracts of the library's Search over any told function, and of takings' net. Conditions: brackets that read as data and are right; an amount. -/
import Derived.Test.YtdechfjlbdbbnaaTkd
import Derived.Test.YtdechfjlbdbbnaaYr
import Derived.Shelf.Abstract
namespace Go.Proofs.Ytdechfjlbdbbnaa
open Go.RowKit Go.Shelf

/-- What a search between 0 and n returns. -/
def SrchR (p : Int → Bool) (n r : Int) : Prop := 0 ≤ r ∧ r ≤ n ∧ (r < n → p r = true) ∧ (0 < r → p (r - 1) = false)
set_option maxHeartbeats 1000000 in
set_option maxRecDepth 100000 in
theorem Search_any (n : Int) (h0 : 0 ≤ n) (h1 : n ≤ 1000000001) (g : FuncId) (cb : Array Value) (p : Int → Bool) (w : World)
    (eg : ∀ a w, Sem.run Try.prog (callFunc g a) w = Result.ok (Next.enter g a) w)
    (hf : ∀ h X, 0 ≤ h → h < n → Below w.heap.size w X → Calls Try.prog g (#[.int .i64 h] ++ cb) X fun e Y => e = .returned (.bool (p h)) ∧ Below X.heap.size X Y) :
    Calls Try.prog 79 #[.int .i64 n, .func (.func g) #[] cb] w fun e w' => ∃ r, e = .returned (.int .i64 r) ∧ SrchR p n r ∧ Below w.heap.size w w' := by
  have Hf := Lib.hid hf
  clear hf
  go_enter Try.func79, Try.ntmps79
  go_wp2_with fail
  go_loopw [5, 6] (fun vi vj wr => ∃ i j : Int, vi = .int .i64 i ∧ vj = .int .i64 j ∧ 0 ≤ i ∧ i ≤ j ∧ j ≤ n ∧ (j < n → p j = true) ∧ (0 < i → p (i - 1) = false) ∧ Below w.heap.size w wr) (fun vi vj _ => (intOf vj - intOf vi).toNat)
  case atStart => exact ⟨0, n, rfl, rfl, by omega, h0, by omega, fun h => by omega, fun h => by omega, Below.refl _ _⟩
  case round =>
    obtain ⟨i, j, rfl, rfl, hi, hij, hj, hpj, hpi, hbel⟩ := hrel
    have HJ := Lib.hid hpj
    have HI := Lib.hid hpi
    have Hb := Lib.hid hbel
    clear hpj hpi hbel
    by_cases hlt : i < j
    · obtain ⟨m, hm⟩ : ∃ m : Int, m = (i + j) / 2 := ⟨_, rfl⟩
      have m1 : i ≤ m := by omega
      have m2 : m < j := by omega
      have hc := (Hf.out m wr (by omega) (by omega) Hb.out)
      have HC := Lib.hid hc
      clear hc
      have HM := Lib.hid hm
      clear hm
      go_upto_region 4 with fail
      rw [← HM.out]
      go_wp2_with fail
      refine HC.out.mono ?_
      rintro e Y ⟨rfl, hY⟩
      have hb := Hb.out.trans (hY.mono Hb.out.size)
      clear hY HC
      cases hp : p m with
      | false =>
        have HP := Lib.hid hp
        clear hp
        go_wp2_with fail
        go_roundw
        case rel => exact ⟨m + 1, j, by go_num, rfl, by omega, by omega, hj, HJ.out, fun _ => by rw [show m + 1 - 1 = m by omega]; exact HP.out, hb⟩
        case measure => simp [intOf]; omega
      | true =>
        have HP := Lib.hid hp
        clear hp
        go_wp2_with fail
        go_roundw
        case rel => exact ⟨i, m, rfl, rfl, hi, m1, by omega, fun _ => HP.out, HI.out, hb⟩
        case measure => simp [intOf]; omega
    · have e : i = j := by omega
      subst e
      go_wp2_with fail
      go_ret
      exact ⟨i, rfl, ⟨hi, hj, HJ.out, HI.out⟩, Hb.out⟩
/-- Is so much left of an amount? -/
def leftP (l : List BrZ) (want : Int) (c : Int) : Bool := decide (want ≤ c - taxZ c l)
structure NcI (U : World) (c t want : Int) (A : Option Addr) (n ca : Nat) (done : Nat → Bool) (xs : Nat → Value) (y : World) : Prop where
  b : Below U.heap.size U y
  v0 : done 0 = true → xs 0 = .int .i64 c
  v1 : done 1 = true → xs 1 = .int .i64 c
  v2 : done 2 = true → xs 2 = .slice A n ca
  v3 : done 3 = true → xs 3 = .int .i64 t
  v4 : done 4 = true → xs 4 = .int .i64 (c - t)
  v5 : done 5 = true → xs 5 = .int .i64 want
  v6 : done 6 = true → xs 6 = .bool (decide (want ≤ c - t))
  v7 : done 7 = true → xs 7 = .bool (decide (want ≤ c - t))
set_option maxHeartbeats 1000000 in
set_option maxRecDepth 100000 in
theorem netC_any (l : List BrZ) (h : BrOk l) (A : Option Addr) (ca B gl gw : Nat) (want c : Int) (h0 : 0 ≤ c) (h1 : c ≤ 1000000000) (w : World) (hB : B ≤ w.heap.size) (hr : Reads w B 2 A l.length (brCells l))
    (q1 : w.cell? ⟨gl, 0, none⟩ = some (.slice A l.length ca)) (q2 : w.cell? ⟨gw, 0, none⟩ = some (.int .i64 want)) (l1 : gl < w.heap.size) (l2 : gw < w.heap.size) :
    Calls Try.prog 80 #[.int .i64 c, .pointer (some ⟨gl, 0, none⟩), .pointer (some ⟨gw, 0, none⟩)] w fun e w' => e = .returned (.bool (leftP l want c)) ∧ Below w.heap.size w w' := by
  have HT : Hid (∀ X, Below w.heap.size w X → Calls Try.prog 62 #[.int .i64 c, .slice A l.length ca] X fun e w' => e = .returned (.int .i64 (taxZ c l)) ∧ Below X.heap.size X w') := fun X hX => tax_any l h A ca B c h0 h1 X (Nat.le_trans hB hX.size) (hr.below (hX.mono hB))
  have hb := tax_le h h0
  have ew : IntKind.i64.wrap (c - taxZ c l) = c - taxZ c l := IntWalk.i64_in _ (by omega)
  have HV : Hid (leftP l want c = decide (want ≤ c - taxZ c l)) := rfl
  generalize taxZ c l = t at HT hb ew HV
  generalize l.length = n at q1 HT
  clear h hr hb h0 h1
  go_enter Try.func80, Try.ntmps80
  go_upto_region 1 with fail
  refine wp_region_stepsY 8 (ord := [0, 1, 2, 3, 4, 5, 6, 7]) (ds := [(0, 5), (1, 6), (2, 7), (3, 8), (4, 9), (5, 10), (6, 11), (7, 4)]) (I := NcI w c t want A n ca) (by kernel_rfl) (by kernel_rfl) rfl ?iz (StepsY.cons (k := 0) (k' := 1) (o := ⟨some 5, _, _, _, _, _⟩) rfl rfl ?sz0 (StepsY.cons (k := 1) (k' := 2) (o := ⟨some 6, _, _, _, _, _⟩) rfl rfl ?sz1 (StepsY.cons (k := 2) (k' := 3) (o := ⟨some 7, _, _, _, _, _⟩) rfl rfl ?sz2 (StepsY.cons (k := 3) (k' := 4) (o := ⟨some 8, _, _, _, _, _⟩) rfl rfl ?sz3 (StepsY.cons (k := 4) (k' := 5) (o := ⟨some 9, _, _, _, _, _⟩) rfl rfl ?sz4 (StepsY.cons (k := 5) (k' := 6) (o := ⟨some 10, _, _, _, _, _⟩) rfl rfl ?sz5 (StepsY.cons (k := 6) (k' := 7) (o := ⟨some 11, _, _, _, _, _⟩) rfl rfl ?sz6 (StepsY.cons (k := 7) (k' := 8) (o := ⟨some 4, _, _, _, _, _⟩) rfl rfl ?sz7 StepsY.nil)))))))) ?finz
  case iz => exact fun xs => ⟨(Below.refl _ _).drew, fun h => Bool.noConfusion h, fun h => Bool.noConfusion h, fun h => Bool.noConfusion h, fun h => Bool.noConfusion h, fun h => Bool.noConfusion h, fun h => Bool.noConfusion h, fun h => Bool.noConfusion h, fun h => Bool.noConfusion h⟩
  case sz0 =>
    intro xs done y hI hd0 hup hdn K hK
    refine wpOp_go (o := ⟨some 5, _, _, _, _, _⟩) rfl rfl ?_
    simp only [putsF, List.foldl_cons, List.foldl_nil, Act.put, List.setIfInBounds_toArray, List.set_cons_zero, List.set_cons_succ] at hK ⊢
    go_wp2_with fail
    exact hK.out _ _ ⟨hI.b, fun _ => rfl, hI.v1, hI.v2, hI.v3, hI.v4, hI.v5, hI.v6, hI.v7⟩
  case sz1 =>
    intro xs done y hI hd0 hup hdn K hK
    refine wpOp_go (o := ⟨some 6, _, _, _, _, _⟩) rfl rfl ?_
    simp only [putsF, List.foldl_cons, List.foldl_nil, Act.put, List.setIfInBounds_toArray, List.set_cons_zero, List.set_cons_succ] at hK ⊢
    go_wp2_with fail
    exact hK.out _ _ ⟨hI.b, hI.v0, fun _ => rfl, hI.v2, hI.v3, hI.v4, hI.v5, hI.v6, hI.v7⟩
  case sz2 =>
    intro xs done y hI hd0 hup hdn K hK
    refine wpOp_go (o := ⟨some 7, _, _, _, _, _⟩) rfl rfl ?_
    simp only [putsF, List.foldl_cons, List.foldl_nil, Act.put, List.setIfInBounds_toArray, List.set_cons_zero, List.set_cons_succ] at hK ⊢
    have y0 : y.cell? ⟨gl, 0, none⟩ = some (.slice A n ca) := by rw [hI.b.cell (p := ⟨gl, 0, none⟩) l1]; exact q1
    have ly : gl < y.heap.size := Nat.lt_of_lt_of_le l1 hI.b.size
    go_wp2_with fail
    exact hK.out _ _ ⟨hI.b, hI.v0, hI.v1, fun _ => rfl, hI.v3, hI.v4, hI.v5, hI.v6, hI.v7⟩
  case sz3 =>
    intro xs done y hI hd0 hup hdn K hK
    refine wpOp_go (o := ⟨some 8, _, _, _, _, _⟩) rfl rfl ?_
    have e1 := hI.v1 (hdn 1 (by kernel_rfl))
    have e2 := hI.v2 (hdn 2 (by kernel_rfl))
    simp only [putsF, List.foldl_cons, List.foldl_nil, Act.put, List.setIfInBounds_toArray, List.set_cons_zero, List.set_cons_succ] at hK ⊢
    simp only [e1, e2] at hK ⊢
    go_wp2_with (go_at_call 62; refine (HT.out y hI.b).mono ?_; rintro e z ⟨rfl, hb4⟩)
    exact hK.out _ _ ⟨(hI.b.trans (hb4.mono hI.b.size)), hI.v0, hI.v1, hI.v2, fun _ => rfl, hI.v4, hI.v5, hI.v6, hI.v7⟩
  case sz4 =>
    intro xs done y hI hd0 hup hdn K hK
    refine wpOp_go (o := ⟨some 9, _, _, _, _, _⟩) rfl rfl ?_
    have e0 := hI.v0 (hdn 0 (by kernel_rfl))
    have e3 := hI.v3 (hdn 3 (by kernel_rfl))
    simp only [putsF, List.foldl_cons, List.foldl_nil, Act.put, List.setIfInBounds_toArray, List.set_cons_zero, List.set_cons_succ] at hK ⊢
    simp only [e0, e3] at hK ⊢
    go_wp2_with fail
    exact hK.out _ _ ⟨hI.b, hI.v0, hI.v1, hI.v2, hI.v3, fun _ => rfl, hI.v5, hI.v6, hI.v7⟩
  case sz5 =>
    intro xs done y hI hd0 hup hdn K hK
    refine wpOp_go (o := ⟨some 10, _, _, _, _, _⟩) rfl rfl ?_
    simp only [putsF, List.foldl_cons, List.foldl_nil, Act.put, List.setIfInBounds_toArray, List.set_cons_zero, List.set_cons_succ] at hK ⊢
    have y0 : y.cell? ⟨gw, 0, none⟩ = some (.int .i64 want) := by rw [hI.b.cell (p := ⟨gw, 0, none⟩) l2]; exact q2
    have ly : gw < y.heap.size := Nat.lt_of_lt_of_le l2 hI.b.size
    go_wp2_with fail
    exact hK.out _ _ ⟨hI.b, hI.v0, hI.v1, hI.v2, hI.v3, hI.v4, fun _ => rfl, hI.v6, hI.v7⟩
  case sz6 =>
    intro xs done y hI hd0 hup hdn K hK
    refine wpOp_go (o := ⟨some 11, _, _, _, _, _⟩) rfl rfl ?_
    have e4 := hI.v4 (hdn 4 (by kernel_rfl))
    have e5 := hI.v5 (hdn 5 (by kernel_rfl))
    simp only [putsF, List.foldl_cons, List.foldl_nil, Act.put, List.setIfInBounds_toArray, List.set_cons_zero, List.set_cons_succ] at hK ⊢
    simp only [e4, e5] at hK ⊢
    go_wp2_with fail
    exact hK.out _ _ ⟨hI.b, hI.v0, hI.v1, hI.v2, hI.v3, hI.v4, hI.v5, fun _ => rfl, hI.v7⟩
  case sz7 =>
    intro xs done y hI hd0 hup hdn K hK
    refine wpOp_go (o := ⟨some 4, _, _, _, _, _⟩) rfl rfl ?_
    have e6 := hI.v6 (hdn 6 (by kernel_rfl))
    simp only [putsF, List.foldl_cons, List.foldl_nil, Act.put, List.setIfInBounds_toArray, List.set_cons_zero, List.set_cons_succ] at hK ⊢
    simp only [e6] at hK ⊢
    go_wp2_with fail
    exact hK.out _ _ ⟨hI.b, hI.v0, hI.v1, hI.v2, hI.v3, hI.v4, hI.v5, hI.v6, fun _ => rfl⟩
  case finz =>
    intro xs done y hI hd
    have hb6 := hI.b
    have e6 := hI.v6 (hd 6 (by decide))
    have e7 := hI.v7 (hd 7 (by decide))
    simp only [putsF, List.foldl_cons, List.foldl_nil, Act.put, List.setIfInBounds_toArray, List.set_cons_zero, List.set_cons_succ]
    simp only [e7]
    go_wp2_with fail
    go_ret
    exact ⟨ret_boolT HV.out.symm, hb6⟩
set_option maxHeartbeats 1000000 in
set_option maxRecDepth 100000 in
theorem net_any (l : List BrZ) (h : BrOk l) (A : Option Addr) (ca B : Nat) (want : Int) (w : World) (hB : B ≤ w.heap.size) (hr : Reads w B 2 A l.length (brCells l)) :
    Calls Try.prog 65 #[.int .i64 want, .slice A l.length ca] w fun e w' => ∃ n e', e = .returned (.tuple #[.int .i64 n, .int .i64 e']) ∧ (∃ r, NetIs l want r ∧ ((1000000000 < r ∧ n = 0 ∧ e' = 3) ∨ (r ≤ 1000000000 ∧ n = r ∧ e' = 0))) ∧ Below w.heap.size w w' := by
  obtain ⟨W, hW⟩ : ∃ W, W = (w.alloc (.cells #[.int .i64 want] 3)).alloc (.cells #[.slice A l.length ca] 46) := ⟨_, rfl⟩
  have bW : Below w.heap.size w W := by subst hW; exact ((Below.refl _ _).alloc (Nat.le_refl _) _).alloc (by simp) _
  have r0 : Row W w.heap.size 3 [.int .i64 want] := by subst hW; exact (Row.new w _ _).alloc _
  have r1 : Row W (w.heap.size + 1) 46 [.slice A l.length ca] := by
    subst hW
    have h := Row.new (w.alloc (.cells #[.int .i64 want] 3)) 46 #[.slice A l.length ca]
    rw [World.size_alloc] at h
    exact h
  have HS := Lib.hid (Search_any 1000000001 (by decide) (by decide) 80 #[.pointer (some ⟨w.heap.size + 1, 0, none⟩), .pointer (some ⟨w.heap.size, 0, none⟩)] (leftP l want) W (fun a X => enters_of Try.func80 (by kernel_rfl) rfl a X)
    (fun c X h0 h1 hX => netC_any l h A ca B (w.heap.size + 1) w.heap.size want c h0 (by omega) X (Nat.le_trans hB (Nat.le_trans bW.size hX.size)) (hr.below ((bW.trans (hX.mono bW.size)).mono hB))
      (by rw [hX.cell (p := ⟨w.heap.size + 1, 0, none⟩) r1.lt]; exact r1.cell (j := 0) (by simp)) (by rw [hX.cell (p := ⟨w.heap.size, 0, none⟩) r0.lt]; exact r0.cell (j := 0) (by simp)) (Nat.lt_of_lt_of_le r1.lt hX.size) (Nat.lt_of_lt_of_le r0.lt hX.size)))
  have HB := Lib.hid bW
  clear bW r0 r1 hr
  go_enter Try.func65, Try.ntmps65
  go_upto_region 1 with fail
  rw [← hW]
  clear hW
  go_upto_region 2 with (go_at_call 79; refine HS.out.mono ?_; rintro e X ⟨r, rfl, hr, hX⟩)
  have HR : Hid (NetIs l want r) := by
    obtain ⟨a, b, c, d⟩ := hr
    exact ⟨a, b, fun h => by have := c (by omega); unfold leftP at this; simpa using this, fun h => by have := d h; unfold leftP at this; simp at this; omega⟩
  have HX := Lib.hid (HB.out.trans (hX.mono HB.out.size))
  clear hr hX HS
  go_wp2_with fail
  all_goals go_ret2
  · have h1 : 1000000000 < r := by assumption
    exact ⟨0, 3, rfl, ⟨r, HR.out, .inl ⟨h1, rfl, rfl⟩⟩, HX.out⟩
  · exact ⟨r, 0, rfl, ⟨r, HR.out, .inr ⟨by omega, rfl, rfl⟩⟩, HX.out⟩
end Go.Proofs.Ytdechfjlbdbbnaa
