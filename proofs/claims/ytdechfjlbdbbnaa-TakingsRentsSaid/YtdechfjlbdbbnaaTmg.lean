/- Contract of the specification's Rents, and the walk of TakingsRents. Conditions: numbers that read as data. -/
import Derived.Test.YtdechfjlbdbbnaaTkt
import Derived.Test.YtdechfjlbdbbnaaTkq
import Derived.Test.YtdechfjlbdbbnaaYr
namespace Go.Proofs.Ytdechfjlbdbbnaa
open Go.RowKit Go.Shelf

/-- The rule for the first m operations of a drawn region, whose invariant speaks of all that has come up; the others come in order. -/
theorem wp_region_partY {P : Program} {ops : Array Oper} {Q : Exit → Act → World → Prop} {a : Act} {ds : List (Nat × Tmp)} {I : (Nat → Bool) → (Nat → Value) → World → Prop} {id : Nat} {w : World} {ord : List Nat} (m : Nat) (hmx : P.follows .mixedOrders = true) (hok : rgB ops ord m ds = true) (hm : decide (m ≤ ops.size) = true) (hI : ∀ xs, I (fun _ => false) xs w.drew)
    (hs : StepsY P ops Q a ds I 0 m)
    (hend : ∀ xs done y, I done xs y → (∀ j, j < m → done j = true) → opsE (wpOp P ops Q) (Q .normal) (List.range' m (ops.size - m)) (putsF a ds xs) y) : (Code.region id ops true).wp P Q a w :=
  wp_region_any hmx (anyE_wp _ _ _ _ (rg_startX (E := wpOp P ops Q) (w := w.drew) (m := m) (V := fun _ _ _ => True) (I := I) (fun _ _ _ _ _ h => wpOp_mono h) hok (of_decide_eq_true hm) hI (fun i o him ho xs done y hy hd hup hdn _ K hK =>
    hs.at m 0 i o (Nat.zero_le _) (by omega) ho xs done y hy hd hup hdn K fun v z hz => hK v z hz trivial fun _ _ _ _ _ _ => trivial) fun xs done y hy hd _ _ => hend xs done y hy hd))
theorem owns_drew1 {w : World} {base : Nat} {e : TypeId} {size n : Nat} {v : Value} {xs : List Value} (h : w.ownsRow base e size v n xs) : w.drew.ownsRow base e size v n xs := owns_drewN h 1
structure RnI (W0 : World) (v : Value) (k : Nat) (L : List Value) (t p least q r : Int) (b o n ca : Nat) (done : Nat → Bool) (xs : Nat → Value) (y : World) : Prop where
  bl : Below W0.heap.size W0 y
  o0 : done 16 = false → y.ownsRow W0.heap.size 3 1 v k L
  m15 : done 15 = true → done 16 = false → ∃ g, xs 15 = .slice (some ⟨g, 0, none⟩) 1 1 ∧ Row y g 3 [.int .i64 r]
  o1 : done 16 = true → y.ownsRow W0.heap.size 3 1 (xs 16) (k + 1) (L ++ [.int .i64 r])
  v0 : done 0 = true → xs 0 = v
  v1 : done 1 = true → xs 1 = .slice (some ⟨b, o, none⟩) n ca
  v2 : done 2 = true → xs 2 = .int .i64 (k : Int)
  v3 : done 3 = true → xs 3 = .pointer (some ⟨b, o + k, none⟩)
  v4 : done 4 = true → xs 4 = .int .i64 t
  v5 : done 5 = true → xs 5 = .int .i64 least
  v6 : done 6 = true → xs 6 = .slice (some ⟨b, o, none⟩) n ca
  v7 : done 7 = true → xs 7 = .int .i64 (k : Int)
  v8 : done 8 = true → xs 8 = .pointer (some ⟨b, o + k, none⟩)
  v9 : done 9 = true → xs 9 = .int .i64 t
  v10 : done 10 = true → xs 10 = .int .i64 p
  v11 : done 11 = true → xs 11 = .int .i64 (t * p)
  v12 : done 12 = true → xs 12 = .int .i64 q
  v13 : done 13 = true → xs 13 = .int .i64 (max least q)
  v14 : done 14 = true → xs 14 = .int .i64 r

set_option maxHeartbeats 4000000 in
set_option maxRecDepth 100000 in
theorem rRents_any (l : List Int) (p least : Int) (A : Option Addr) (ca B : Nat) (w : World) (hB : B ≤ w.heap.size) (hr : Reads w B 1 A l.length (l.map (Value.int .i64))) (hm : l.length ≤ maxLen) :
    Calls Try.prog 22 #[.slice A l.length ca, .int .i64 p, .int .i64 least] w (TkTo3 w (rentsR l p least).1 (rentsR l p least).2.1 (rentsR l p least).2.2) := by
  obtain ⟨i0t, hi, hz0, hz1, hz2⟩ := info_parts Try.info_intT
  have HV : Hid (rentsR l p least = if 60 < l.length then ([], 0, 2) else if rentsB l p least = false then ([], 0, 1) else (rentsL l p least, sumW (rentsL l p least), 0)) := rfl
  have HVB : Hid (rentsB l p least = (allB l 0 1000000000 && inB least 0 1000000000 && inB p 0 100)) := rfl
  have HA : Hid (∀ x X, Calls Try.prog 41 #[.int .i64 x] X fun e w' => e = .returned (.bool (inB x 0 1000000000)) ∧ X = w') := fun x X => (ramount_any _ X).mono fun e w' h => ⟨h.1, h.2.symm⟩
  have HP : Hid (∀ X, Calls Try.prog 48 #[.int .i64 p, .int .i64 0, .int .i64 100] X fun e w' => e = .returned (.bool (inB p 0 100)) ∧ X = w') := fun X => (rwithin_any _ _ _ X).mono fun e w' h => ⟨h.1, h.2.symm⟩
  have hrd := Lib.hid hr
  unfold maxLen at hm
  clear hr
  by_cases h60 : 60 < l.length
  · rw [show rentsR l p least = ([], 0, 2) by rw [HV.out, if_pos h60]]
    have hz : (60 : Int) < (l.length : Int) := by omega
    go_enter Try.func22, Try.ntmps22
    go_wp2_with fail
    go_ret3
    exact ⟨none, 0, rfl, Reads.none_, Below.refl _ _⟩
  have hz : ¬ (60 : Int) < (l.length : Int) := by omega
  rw [if_neg h60] at HV
  generalize rentsR l p least = R at HV ⊢
  have Hl := Lib.hid (HA.out least)
  go_enter Try.func22, Try.ntmps22
  go_upto_region 3 with fail
  go_wp2_with fail
  go_loop [9] (fun i => ∃ k : Nat, k ≤ l.length ∧ i = .int .i64 k ∧ Hid (allB (l.take k) 0 1000000000 = true)) (fun i => l.length - (intOf i).toNat)
  case atStart => exact ⟨0, Nat.zero_le _, rfl, rfl⟩
  case round =>
    obtain ⟨k, hk, rfl, Hall⟩ := hrel
    by_cases hlt : k < l.length
    · have i1 : (k : Int) < (l.length : Int) := by omega
      have i0' : ¬ (k : Int) < 0 := by omega
      have ew : IntKind.i64.wrap ((k : Int) + 1) = (k : Int) + 1 := IntWalk.i64_in _ (by omega)
      obtain ⟨b, o, rfl, hb, hcc⟩ := hrd.out.at1 hlt
      have cw := hcc k hlt
      have lb : b < w.heap.size := by omega
      have Han : Hid (allB (l.take (k + 1)) 0 1000000000 = (allB (l.take k) 0 1000000000 && inB (l[k]?.getD 0) 0 1000000000)) := allT_snoc l k 0 1000000000 hlt
      have Hno := Lib.hid (allT_out l k 0 1000000000 hlt)
      have HAx := Lib.hid (HA.out (l[k]?.getD 0))
      generalize l[k]?.getD 0 = x at cw Han Hno HAx
      clear hcc
      cases hin : inB x 0 1000000000 with
      | false =>
        have HN := Lib.hid (Hno.out hin)
        rw [hin] at HAx
        clear hin Hno Han
        have HR : Hid (R = ([], 0, 1)) := by show _ = _; rw [HV.out, if_pos (by rw [HVB.out, HN.out]; rfl)]
        go_wp2_with (go_at_call 41; refine (HAx.out _).mono ?_; rintro e w' ⟨rfl, rfl⟩)
        go_ret3
        rw [HR.out]
        exact ⟨none, 0, rfl, Reads.none_, Below.refl _ _⟩
      | true =>
        rw [hin] at HAx Han
        clear hin Hno
        go_wp2_with (go_at_call 41; refine (HAx.out _).mono ?_; rintro e w' ⟨rfl, rfl⟩)
        refine ⟨⟨k + 1, by omega, by go_num, by show _ = _; rw [Han.out, Hall.out]; rfl⟩, by simp [intOf]; omega⟩
    · have ek : k = l.length := by omega
      have hge : ¬ (k : Int) < (l.length : Int) := by omega
      have hall : allB l 0 1000000000 = true := by have := Hall.out; rw [ek, List.take_length] at this; exact this
      rw [hall] at HVB
      clear ek
      by_cases h2 : inB least 0 1000000000 = false
      · rw [h2] at Hl HVB
        have HR : Hid (R = ([], 0, 1)) := by show _ = _; rw [HV.out, if_pos (by rw [HVB.out]; rfl)]
        go_wp2_with (go_at_call 41; refine (Hl.out _).mono ?_; rintro e w' ⟨rfl, rfl⟩)
        go_ret3
        rw [HR.out]
        exact ⟨none, 0, rfl, Reads.none_, Below.refl _ _⟩
      have h2t : inB least 0 1000000000 = true := by simpa using h2
      rw [h2t] at Hl HVB
      by_cases h3 : inB p 0 100 = false
      · rw [h3] at HP HVB
        have HR : Hid (R = ([], 0, 1)) := by show _ = _; rw [HV.out, if_pos (by rw [HVB.out]; rfl)]
        go_wp2_with (first | (go_at_call 41; refine (Hl.out _).mono ?_; rintro e w' ⟨rfl, rfl⟩) | (go_at_call 48; refine (HP.out _).mono ?_; rintro e w' ⟨rfl, rfl⟩))
        go_ret3
        rw [HR.out]
        exact ⟨none, 0, rfl, Reads.none_, Below.refl _ _⟩
      have h3t : inB p 0 100 = true := by simpa using h3
      rw [h3t] at HP HVB
      rw [if_neg (by rw [HVB.out]; simp)] at HV
      have HLa := Lib.hid (fun i hi => allB_at (i := i) hall hi)
      have HPb := Lib.hid (inB_le h3t)
      clear h2 h2t h3 h3t hall Hall HVB
      go_upto_region 11 with (first | (go_at_call 41; refine (Hl.out _).mono ?_; rintro e w' ⟨rfl, rfl⟩) | (go_at_call 48; refine (HP.out _).mono ?_; rintro e w' ⟨rfl, rfl⟩))
      go_wp2_with fail
      go_loopw [10, 11] (fun v i wr => ∃ k : Nat, k ≤ l.length ∧ i = .int .i64 k ∧ wr.ownsRow w.heap.size 3 1 v k ((rentsL (l.take k) p least).map (Value.int .i64)) ∧ Below w.heap.size w wr) (fun _ i _ => l.length - (intOf i).toNat)
      case atStart => exact ⟨0, Nat.zero_le _, rfl, owns_nil _ _ _ _, Below.refl _ _⟩
      case round =>
        obtain ⟨k, hk, rfl, hown, hbel⟩ := hrel
        by_cases hlt : k < l.length
        · have hlt' : (k : Int) < (l.length : Int) := by omega
          have i0' : ¬ (k : Int) < 0 := by omega
          obtain ⟨b, o, rfl, hbB, hc⟩ := hrd.out.at1 hlt
          have hck := hc k hlt
          have lbW : b < w.heap.size := by omega
          have cw0 : w.cell? ⟨b, o + k, none⟩ = some (.int .i64 (wAt l k)) := hck
          have ew : IntKind.i64.wrap ((k : Int) + 1) = (k : Int) + 1 := IntWalk.i64_in _ (by omega)
          have Hsn := Lib.hid (rents_snoc l p least k hlt)
          have ht := HLa.out k hlt
          have hp := HPb.out
          have HZ : Hid (rentZ (wAt l k) p least = min (max (wAt l k * p / 100) least) (wAt l k)) := rfl
          have g0 : 0 ≤ wAt l k * p := Int.mul_nonneg ht.1 hp.1
          have g1 : wAt l k * p ≤ 1000000000 * 100 := Int.mul_le_mul ht.2 hp.2 hp.1 (by decide)
          have e1 : IntKind.i64.wrap (wAt l k * p) = wAt l k * p := IntWalk.i64_in _ (by omega)
          have e2 : IntKind.i64.wrap ((wAt l k * p).tdiv 100) = wAt l k * p / 100 := by
            rw [Int.tdiv_eq_ediv_of_nonneg g0]; exact IntWalk.i64_in _ (by omega)
          generalize wAt l k * p / 100 = q at e2 HZ
          generalize rentZ (wAt l k) p least = r at HZ Hsn
          generalize wAt l k = t at cw0 e1 e2 HZ
          have HRZ : Hid (r = min t (max least q)) := by show _ = _; rw [HZ.out]; omega
          have HownR := Lib.hid (owns_drew1 hown)
          have HbeR := Lib.hid hbel
          have hn60 : l.length ≤ 60 := by omega
          clear hc hck ht hp g0 g1 hown hbel HZ
          go_upto_region 14 with fail
          refine wp_region_partY 17 (ord := [0, 1, 2, 3, 4, 5, 6, 7, 8, 9, 10, 11, 12, 13, 14, 15, 16, 17]) (ds := [(0, 41), (1, 42), (2, 43), (3, 44), (4, 45), (5, 46), (6, 47), (7, 48), (8, 49), (9, 50), (10, 51), (11, 52), (12, 53), (13, 54), (14, 55), (15, 56), (16, 57)]) (I := RnI w u10 k ((rentsL (l.take k) p least).map (Value.int .i64)) t p least q r b o l.length ca) (by kernel_rfl) (by kernel_rfl) (by kernel_rfl) ?iz (StepsY.cons (k := 0) (k' := 1) (o := ⟨some 41, _, _, _, _, _⟩) rfl rfl ?sz0 (StepsY.cons (k := 1) (k' := 2) (o := ⟨some 42, _, _, _, _, _⟩) rfl rfl ?sz1 (StepsY.cons (k := 2) (k' := 3) (o := ⟨some 43, _, _, _, _, _⟩) rfl rfl ?sz2 (StepsY.cons (k := 3) (k' := 4) (o := ⟨some 44, _, _, _, _, _⟩) rfl rfl ?sz3 (StepsY.cons (k := 4) (k' := 5) (o := ⟨some 45, _, _, _, _, _⟩) rfl rfl ?sz4 (StepsY.cons (k := 5) (k' := 6) (o := ⟨some 46, _, _, _, _, _⟩) rfl rfl ?sz5 (StepsY.cons (k := 6) (k' := 7) (o := ⟨some 47, _, _, _, _, _⟩) rfl rfl ?sz6 (StepsY.cons (k := 7) (k' := 8) (o := ⟨some 48, _, _, _, _, _⟩) rfl rfl ?sz7 (StepsY.cons (k := 8) (k' := 9) (o := ⟨some 49, _, _, _, _, _⟩) rfl rfl ?sz8 (StepsY.cons (k := 9) (k' := 10) (o := ⟨some 50, _, _, _, _, _⟩) rfl rfl ?sz9 (StepsY.cons (k := 10) (k' := 11) (o := ⟨some 51, _, _, _, _, _⟩) rfl rfl ?sz10 (StepsY.cons (k := 11) (k' := 12) (o := ⟨some 52, _, _, _, _, _⟩) rfl rfl ?sz11 (StepsY.cons (k := 12) (k' := 13) (o := ⟨some 53, _, _, _, _, _⟩) rfl rfl ?sz12 (StepsY.cons (k := 13) (k' := 14) (o := ⟨some 54, _, _, _, _, _⟩) rfl rfl ?sz13 (StepsY.cons (k := 14) (k' := 15) (o := ⟨some 55, _, _, _, _, _⟩) rfl rfl ?sz14 (StepsY.cons (k := 15) (k' := 16) (o := ⟨some 56, _, _, _, _, _⟩) rfl rfl ?sz15 (StepsY.cons (k := 16) (k' := 17) (o := ⟨some 57, _, _, _, _, _⟩) rfl rfl ?sz16 StepsY.nil))))))))))))))))) ?finz
          case iz => exact fun xs => ⟨HbeR.out.drew, fun _ => HownR.out, fun h => Bool.noConfusion h, fun h => Bool.noConfusion h, fun h => Bool.noConfusion h, fun h => Bool.noConfusion h, fun h => Bool.noConfusion h, fun h => Bool.noConfusion h, fun h => Bool.noConfusion h, fun h => Bool.noConfusion h, fun h => Bool.noConfusion h, fun h => Bool.noConfusion h, fun h => Bool.noConfusion h, fun h => Bool.noConfusion h, fun h => Bool.noConfusion h, fun h => Bool.noConfusion h, fun h => Bool.noConfusion h, fun h => Bool.noConfusion h, fun h => Bool.noConfusion h⟩
          case sz0 =>
            intro xs done y hI hd0 hup hdn K hK
            refine wpOp_go (o := ⟨some 41, _, _, _, _, _⟩) rfl rfl ?_
            simp only [putsF, List.foldl_cons, List.foldl_nil, Act.put, List.setIfInBounds_toArray, List.set_cons_zero, List.set_cons_succ] at hK ⊢
            go_wp2_with fail
            exact hK.out _ _ ⟨hI.bl, hI.o0, hI.m15, hI.o1, fun _ => rfl, hI.v1, hI.v2, hI.v3, hI.v4, hI.v5, hI.v6, hI.v7, hI.v8, hI.v9, hI.v10, hI.v11, hI.v12, hI.v13, hI.v14⟩
          case sz1 =>
            intro xs done y hI hd0 hup hdn K hK
            refine wpOp_go (o := ⟨some 42, _, _, _, _, _⟩) rfl rfl ?_
            simp only [putsF, List.foldl_cons, List.foldl_nil, Act.put, List.setIfInBounds_toArray, List.set_cons_zero, List.set_cons_succ] at hK ⊢
            go_wp2_with fail
            exact hK.out _ _ ⟨hI.bl, hI.o0, hI.m15, hI.o1, hI.v0, fun _ => rfl, hI.v2, hI.v3, hI.v4, hI.v5, hI.v6, hI.v7, hI.v8, hI.v9, hI.v10, hI.v11, hI.v12, hI.v13, hI.v14⟩
          case sz2 =>
            intro xs done y hI hd0 hup hdn K hK
            refine wpOp_go (o := ⟨some 43, _, _, _, _, _⟩) rfl rfl ?_
            simp only [putsF, List.foldl_cons, List.foldl_nil, Act.put, List.setIfInBounds_toArray, List.set_cons_zero, List.set_cons_succ] at hK ⊢
            go_wp2_with fail
            exact hK.out _ _ ⟨hI.bl, hI.o0, hI.m15, hI.o1, hI.v0, hI.v1, fun _ => rfl, hI.v3, hI.v4, hI.v5, hI.v6, hI.v7, hI.v8, hI.v9, hI.v10, hI.v11, hI.v12, hI.v13, hI.v14⟩
          case sz3 =>
            intro xs done y hI hd0 hup hdn K hK
            refine wpOp_go (o := ⟨some 44, _, _, _, _, _⟩) rfl rfl ?_
            have e1 := hI.v1 (hdn 1 (by kernel_rfl))
            have e2 := hI.v2 (hdn 2 (by kernel_rfl))
            simp only [putsF, List.foldl_cons, List.foldl_nil, Act.put, List.setIfInBounds_toArray, List.set_cons_zero, List.set_cons_succ] at hK ⊢
            simp only [e1, e2] at hK ⊢
            have ly : b < y.heap.size := Nat.lt_of_lt_of_le lbW hI.bl.size
            go_wp2_with fail
            exact hK.out _ _ ⟨hI.bl, hI.o0, hI.m15, hI.o1, hI.v0, hI.v1, hI.v2, fun _ => rfl, hI.v4, hI.v5, hI.v6, hI.v7, hI.v8, hI.v9, hI.v10, hI.v11, hI.v12, hI.v13, hI.v14⟩
          case sz4 =>
            intro xs done y hI hd0 hup hdn K hK
            refine wpOp_go (o := ⟨some 45, _, _, _, _, _⟩) rfl rfl ?_
            have e3 := hI.v3 (hdn 3 (by kernel_rfl))
            simp only [putsF, List.foldl_cons, List.foldl_nil, Act.put, List.setIfInBounds_toArray, List.set_cons_zero, List.set_cons_succ] at hK ⊢
            simp only [e3] at hK ⊢
            have y0 : y.cell? ⟨b, o + k, none⟩ = some (.int .i64 t) := by rw [hI.bl.cell (p := ⟨b, o + k, none⟩) lbW]; exact cw0
            have ly : b < y.heap.size := Nat.lt_of_lt_of_le lbW hI.bl.size
            go_wp2_with fail
            exact hK.out _ _ ⟨hI.bl, hI.o0, hI.m15, hI.o1, hI.v0, hI.v1, hI.v2, hI.v3, fun _ => rfl, hI.v5, hI.v6, hI.v7, hI.v8, hI.v9, hI.v10, hI.v11, hI.v12, hI.v13, hI.v14⟩
          case sz5 =>
            intro xs done y hI hd0 hup hdn K hK
            refine wpOp_go (o := ⟨some 46, _, _, _, _, _⟩) rfl rfl ?_
            simp only [putsF, List.foldl_cons, List.foldl_nil, Act.put, List.setIfInBounds_toArray, List.set_cons_zero, List.set_cons_succ] at hK ⊢
            go_wp2_with fail
            exact hK.out _ _ ⟨hI.bl, hI.o0, hI.m15, hI.o1, hI.v0, hI.v1, hI.v2, hI.v3, hI.v4, fun _ => rfl, hI.v6, hI.v7, hI.v8, hI.v9, hI.v10, hI.v11, hI.v12, hI.v13, hI.v14⟩
          case sz6 =>
            intro xs done y hI hd0 hup hdn K hK
            refine wpOp_go (o := ⟨some 47, _, _, _, _, _⟩) rfl rfl ?_
            simp only [putsF, List.foldl_cons, List.foldl_nil, Act.put, List.setIfInBounds_toArray, List.set_cons_zero, List.set_cons_succ] at hK ⊢
            go_wp2_with fail
            exact hK.out _ _ ⟨hI.bl, hI.o0, hI.m15, hI.o1, hI.v0, hI.v1, hI.v2, hI.v3, hI.v4, hI.v5, fun _ => rfl, hI.v7, hI.v8, hI.v9, hI.v10, hI.v11, hI.v12, hI.v13, hI.v14⟩
          case sz7 =>
            intro xs done y hI hd0 hup hdn K hK
            refine wpOp_go (o := ⟨some 48, _, _, _, _, _⟩) rfl rfl ?_
            simp only [putsF, List.foldl_cons, List.foldl_nil, Act.put, List.setIfInBounds_toArray, List.set_cons_zero, List.set_cons_succ] at hK ⊢
            go_wp2_with fail
            exact hK.out _ _ ⟨hI.bl, hI.o0, hI.m15, hI.o1, hI.v0, hI.v1, hI.v2, hI.v3, hI.v4, hI.v5, hI.v6, fun _ => rfl, hI.v8, hI.v9, hI.v10, hI.v11, hI.v12, hI.v13, hI.v14⟩
          case sz8 =>
            intro xs done y hI hd0 hup hdn K hK
            refine wpOp_go (o := ⟨some 49, _, _, _, _, _⟩) rfl rfl ?_
            have e6 := hI.v6 (hdn 6 (by kernel_rfl))
            have e7 := hI.v7 (hdn 7 (by kernel_rfl))
            simp only [putsF, List.foldl_cons, List.foldl_nil, Act.put, List.setIfInBounds_toArray, List.set_cons_zero, List.set_cons_succ] at hK ⊢
            simp only [e6, e7] at hK ⊢
            have ly : b < y.heap.size := Nat.lt_of_lt_of_le lbW hI.bl.size
            go_wp2_with fail
            exact hK.out _ _ ⟨hI.bl, hI.o0, hI.m15, hI.o1, hI.v0, hI.v1, hI.v2, hI.v3, hI.v4, hI.v5, hI.v6, hI.v7, fun _ => rfl, hI.v9, hI.v10, hI.v11, hI.v12, hI.v13, hI.v14⟩
          case sz9 =>
            intro xs done y hI hd0 hup hdn K hK
            refine wpOp_go (o := ⟨some 50, _, _, _, _, _⟩) rfl rfl ?_
            have e8 := hI.v8 (hdn 8 (by kernel_rfl))
            simp only [putsF, List.foldl_cons, List.foldl_nil, Act.put, List.setIfInBounds_toArray, List.set_cons_zero, List.set_cons_succ] at hK ⊢
            simp only [e8] at hK ⊢
            have y0 : y.cell? ⟨b, o + k, none⟩ = some (.int .i64 t) := by rw [hI.bl.cell (p := ⟨b, o + k, none⟩) lbW]; exact cw0
            have ly : b < y.heap.size := Nat.lt_of_lt_of_le lbW hI.bl.size
            go_wp2_with fail
            exact hK.out _ _ ⟨hI.bl, hI.o0, hI.m15, hI.o1, hI.v0, hI.v1, hI.v2, hI.v3, hI.v4, hI.v5, hI.v6, hI.v7, hI.v8, fun _ => rfl, hI.v10, hI.v11, hI.v12, hI.v13, hI.v14⟩
          case sz10 =>
            intro xs done y hI hd0 hup hdn K hK
            refine wpOp_go (o := ⟨some 51, _, _, _, _, _⟩) rfl rfl ?_
            simp only [putsF, List.foldl_cons, List.foldl_nil, Act.put, List.setIfInBounds_toArray, List.set_cons_zero, List.set_cons_succ] at hK ⊢
            go_wp2_with fail
            exact hK.out _ _ ⟨hI.bl, hI.o0, hI.m15, hI.o1, hI.v0, hI.v1, hI.v2, hI.v3, hI.v4, hI.v5, hI.v6, hI.v7, hI.v8, hI.v9, fun _ => rfl, hI.v11, hI.v12, hI.v13, hI.v14⟩
          case sz11 =>
            intro xs done y hI hd0 hup hdn K hK
            refine wpOp_go (o := ⟨some 52, _, _, _, _, _⟩) rfl rfl ?_
            have e9 := hI.v9 (hdn 9 (by kernel_rfl))
            have e10 := hI.v10 (hdn 10 (by kernel_rfl))
            simp only [putsF, List.foldl_cons, List.foldl_nil, Act.put, List.setIfInBounds_toArray, List.set_cons_zero, List.set_cons_succ] at hK ⊢
            simp only [e9, e10] at hK ⊢
            go_wp2_with fail
            exact hK.out _ _ ⟨hI.bl, hI.o0, hI.m15, hI.o1, hI.v0, hI.v1, hI.v2, hI.v3, hI.v4, hI.v5, hI.v6, hI.v7, hI.v8, hI.v9, hI.v10, fun _ => rfl, hI.v12, hI.v13, hI.v14⟩
          case sz12 =>
            intro xs done y hI hd0 hup hdn K hK
            refine wpOp_go (o := ⟨some 53, _, _, _, _, _⟩) rfl rfl ?_
            have e11 := hI.v11 (hdn 11 (by kernel_rfl))
            simp only [putsF, List.foldl_cons, List.foldl_nil, Act.put, List.setIfInBounds_toArray, List.set_cons_zero, List.set_cons_succ] at hK ⊢
            simp only [e11] at hK ⊢
            go_wp2_with fail
            exact hK.out _ _ ⟨hI.bl, hI.o0, hI.m15, hI.o1, hI.v0, hI.v1, hI.v2, hI.v3, hI.v4, hI.v5, hI.v6, hI.v7, hI.v8, hI.v9, hI.v10, hI.v11, fun _ => rfl, hI.v13, hI.v14⟩
          case sz13 =>
            intro xs done y hI hd0 hup hdn K hK
            refine wpOp_go (o := ⟨some 54, _, _, _, _, _⟩) rfl rfl ?_
            have e5 := hI.v5 (hdn 5 (by kernel_rfl))
            have e12 := hI.v12 (hdn 12 (by kernel_rfl))
            simp only [putsF, List.foldl_cons, List.foldl_nil, Act.put, List.setIfInBounds_toArray, List.set_cons_zero, List.set_cons_succ] at hK ⊢
            simp only [e5, e12] at hK ⊢
            go_wp2_with fail
            exact hK.out _ _ ⟨hI.bl, hI.o0, hI.m15, hI.o1, hI.v0, hI.v1, hI.v2, hI.v3, hI.v4, hI.v5, hI.v6, hI.v7, hI.v8, hI.v9, hI.v10, hI.v11, hI.v12, (fun _ => congrArg (Value.int .i64) (by first | rfl | omega | (split <;> omega))), hI.v14⟩
          case sz14 =>
            intro xs done y hI hd0 hup hdn K hK
            refine wpOp_go (o := ⟨some 55, _, _, _, _, _⟩) rfl rfl ?_
            have e4 := hI.v4 (hdn 4 (by kernel_rfl))
            have e13 := hI.v13 (hdn 13 (by kernel_rfl))
            simp only [putsF, List.foldl_cons, List.foldl_nil, Act.put, List.setIfInBounds_toArray, List.set_cons_zero, List.set_cons_succ] at hK ⊢
            simp only [e4, e13] at hK ⊢
            go_wp2_with fail
            exact hK.out _ _ ⟨hI.bl, hI.o0, hI.m15, hI.o1, hI.v0, hI.v1, hI.v2, hI.v3, hI.v4, hI.v5, hI.v6, hI.v7, hI.v8, hI.v9, hI.v10, hI.v11, hI.v12, hI.v13, (fun _ => congrArg (Value.int .i64) (by exact HRZ.out.symm))⟩
          case sz15 =>
            intro xs done y hI hd0 hup hdn K hK
            refine wpOp_go (o := ⟨some 56, _, _, _, _, _⟩) rfl rfl ?_
            have e14 := hI.v14 (hdn 14 (by kernel_rfl))
            simp only [putsF, List.foldl_cons, List.foldl_nil, Act.put, List.setIfInBounds_toArray, List.set_cons_zero, List.set_cons_succ] at hK ⊢
            have e14b := hI.v14 (hdn 14 (by kernel_rfl))
            have ho := hI.o0 (hup 16 (by kernel_rfl))
            simp only [e14] at hK ⊢
            go_wp2_with fail
            exact hK.out _ _ ⟨(hI.bl.alloc hI.bl.size _), (fun _ => owns_alloc ho _), (fun _ _ => ⟨y.heap.size, rfl, Row.new y 3 #[.int .i64 r]⟩), (fun h => Bool.noConfusion ((hup 16 (by kernel_rfl)).symm.trans h)), hI.v0, hI.v1, hI.v2, hI.v3, hI.v4, hI.v5, hI.v6, hI.v7, hI.v8, hI.v9, hI.v10, hI.v11, hI.v12, hI.v13, hI.v14⟩
          case sz16 =>
            intro xs done y hI hd0 hup hdn K hK
            refine wpOp_go (o := ⟨some 57, _, _, _, _, _⟩) rfl rfl ?_
            have e0 := hI.v0 (hdn 0 (by kernel_rfl))
            have hm := hI.m15 (hdn 15 (by kernel_rfl)) hd0
            have ho := hI.o0 hd0
            simp only [putsF, List.foldl_cons, List.foldl_nil, Act.put, List.setIfInBounds_toArray, List.set_cons_zero, List.set_cons_succ] at hK ⊢
            obtain ⟨g, e15, hr15⟩ := hm
            simp only [e0, e15] at hK ⊢
            refine wp_appAt y (.tmp 41) (.tmp 56) 22 (by rfl) w.heap.size 3 i0t _ 1 8 Try.underlying22 hi hz0 hz1 hz2 rfl (by decide) u10 k ((rentsL (l.take k) p least).map (Value.int .i64)) (by rfl) ho ⟨g, 0, none⟩ 1 1 [.int .i64 r] (by rfl) rfl (row_news hr15) (by intro u hu; simp at hu; subst hu; rfl) (by unfold maxLen; omega) (by omega) hI.bl.size ?_
            intro v2 w2 hown2 hgr _
            exact hK.out _ _ ⟨(hI.bl.trans ((owns_below ho hgr hI.bl.size))), (fun h => Bool.noConfusion h), (fun _ h => Bool.noConfusion h), (fun _ => hown2), hI.v0, hI.v1, hI.v2, hI.v3, hI.v4, hI.v5, hI.v6, hI.v7, hI.v8, hI.v9, hI.v10, hI.v11, hI.v12, hI.v13, hI.v14⟩
          case finz =>
            intro xs done y hI hd
            have hb6 := hI.bl
            have hown6 := hI.o1 (hd 16 (by decide))
            simp only [putsF, List.foldl_cons, List.foldl_nil, Act.put, List.setIfInBounds_toArray, List.set_cons_zero, List.set_cons_succ]
            have HO6 := Lib.hid hown6
            have HB6 := Lib.hid hb6
            clear hI hown6 hb6
            refine wpOp_go (o := ⟨some 10, _, _, _, _, _⟩) rfl rfl ?_
            go_wp2_with fail
            refine opsE_nil ?_
            go_wp2_with fail
            go_roundw
            case rel => exact ⟨k + 1, by omega, by go_num, by rw [Hsn.out, List.map_append]; exact HO6.out, HB6.out⟩
            case measure => simp [intOf]; omega
        · have ek : k = l.length := by omega
          have Hk := Lib.hid ek
          have hlen : k = (rentsL l p least).length := by rw [ek]; simp [rentsL]
          obtain ⟨A', c', hv, hrd'⟩ := nown_rdT hown
          subst hv
          have hrd2 : Reads wr wr.heap.size 1 A' k ((rentsL l p least).map (Value.int .i64)) := by
            rw [Hk.out, List.take_length] at hrd'
            rw [Hk.out]
            exact hrd'
          have HTot := Lib.hid (rSum_any (rentsL l p least) A' k c' wr.heap.size wr hrd2 (by unfold maxLen; omega))
          have HRd := Lib.hid hrd2
          have Hbe := Lib.hid hbel
          have HLn := Lib.hid hlen
          have hge : ¬ (k : Int) < (l.length : Int) := by omega
          clear hrd' hrd2 hbel hown hlen ek
          go_wp2_with (go_at_call 27; refine HTot.out.mono ?_; rintro e w' ⟨rfl, rfl⟩)
          go_ret3
          rw [HV.out]
          refine ⟨A', c', by rw [← HLn.out]; rfl, ?_, Hbe.out⟩
          rw [← HLn.out]
          exact HRd.out
set_option maxHeartbeats 4000000 in
set_option maxRecDepth 100000 in
theorem rents_walk {w : World} (l : List Int) (A : Option Addr) (ca : Nat) (hr : Reads w w.heap.size 1 A l.length (l.map (Value.int .i64))) (hm : l.length ≤ maxLen) (p least : Int) :
    Calls Try.prog 4 #[.slice A l.length ca, .int .i64 p, .int .i64 least] w (TrueT w) := by
  have HW : Hid (∀ X, Below w.heap.size w X → Calls Try.prog 20 #[] X fun e w' => e = .returned (.bool true) ∧ Below w.heap.size w w') := fun X hX => (works_any X).mono fun e w' h => ⟨h.1, hX.trans (h.2.mono hX.size)⟩
  have h1 := Rents_any l p least A ca w.heap.size w (Nat.le_refl _) hr hm
  have h2 : ∀ X, Below w.heap.size w X → Calls Try.prog 22 #[.slice A l.length ca, .int .i64 p, .int .i64 least] X (TkTo3 X (rentsR l p least).1 (rentsR l p least).2.1 (rentsR l p least).2.2) := fun X hX => rRents_any l p least A ca w.heap.size X hX.size (hr.below hX) hm
  have hl : (rentsR l p least).1.length ≤ 1000 := by
    rcases rentsR_cases l p least with ⟨h, _⟩ | ⟨h, hok⟩
    · rw [h]; simp
    · rw [h]; simp only [rents_len]; have := hok.len; omega
  generalize rentsR l p least = R at h1 h2 hl
  obtain ⟨L, n, e0⟩ := R
  dsimp only at h1 h2 hl
  have H1 := Lib.hid h1
  have H2 := Lib.hid h2
  clear hr h1 h2
  go_enter Try.func4, Try.ntmps4
  go_upto_region 2 with (go_at_call 21; refine H1.out.mono ?_; rintro e X ⟨A3, c3, rfl, hr3, hX⟩)
  have HX := Lib.hid hX
  have HR3 := Lib.hid hr3
  clear hX hr3 H1
  go_upto_region 3 with (go_at_call 22; refine (H2.out X HX.out).mono ?_; rintro e Y ⟨A4, c4, rfl, hr4, hY⟩)
  have HY := Lib.hid (HX.out.trans (hY.mono HX.out.size))
  have HS1 := Lib.hid (tsame_eq L A3 A4 c3 c4 Y.heap.size Y.heap.size Y ((HR3.out.below hY).more hY.size) hr4 (Nat.le_refl _) (Nat.le_refl _) hl)
  clear hY hr4 H2 HR3
  go_wp2_with (first | (go_at_call 17; refine HS1.out.mono ?_; rintro e Z ⟨rfl, hZ⟩; have HZ := Lib.hid (HY.out.trans (hZ.mono HY.out.size)); clear hZ HS1) | (go_at_call 20; refine (HW.out _ HZ.out).mono ?_; rintro e w' ⟨rfl, hb⟩; have BW := Lib.hid hb; clear hb))
  go_ret
  exact ⟨ret_boolT (by simp), BW.out⟩
end Go.Proofs.Ytdechfjlbdbbnaa
