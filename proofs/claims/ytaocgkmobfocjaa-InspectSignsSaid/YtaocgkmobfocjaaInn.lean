/- Contract of inspect's canEnter. Conditions: a log that reads as data. -/
import Derived.Test.YtaocgkmobfocjaaInm
import Derived.Test.YtaocgkmobfocjaaTkg
namespace Go.Proofs.Ytaocgkmobfocjaa
open Go.RowKit

set_option maxRecDepth 100000 in
theorem any_any (x : EntZ) (w : World) : Calls Try.prog 86 #[entV x] w fun e w' => e = .returned (.bool true) ∧ Below w.heap.size w w' := by
  have HB := Lib.hid ((Below.refl _ w).alloc (Nat.le_refl _) (.cells #[.int .i64 x.day, .int .i64 x.kind, .int .i64 x.a, .int .i64 x.b, .int .i64 x.c] 54))
  unfold entV
  go_enter Try.func86, Try.ntmps86
  go_wp2_with fail
  go_ret
  exact ⟨rfl, HB.out⟩
theorem all_snocD {k : BookZ} {l : List EntZ} {x : EntZ} (h : inB x.day 0 10000 = false) : canB k l x = false := by unfold canB; rw [h]; rfl
theorem can_early {k : BookZ} {l : List EntZ} {x : EntZ} (h : x.day < lastDay l) : canB k l x = false := by unfold canB; rw [decide_eq_true h]; simp
theorem can_late {k : BookZ} {l : List EntZ} {x : EntZ} (h0 : inB x.day 0 10000 = true) (h : ¬ x.day < lastDay l) : canB k l x = kindB k l x := by unfold canB; rw [h0, decide_eq_false h]; rfl
theorem rules_at {k : BookZ} {i : Nat} (h : i < k.rules.length) : k.rules.getD i default = k.rules[i] := by rw [List.getD_eq_getElem?_getD, List.getElem?_eq_getElem h]; rfl
structure CnA (U : World) (k : BookZ) (R : BkR) (zg ze : Nat) (xa xb xc : Int) (b o i : Nat) (u : RuZ) (s : Bool) (done : Nat → Bool) (xs : Nat → Value) (y : World) : Prop where
  bl : Below U.heap.size U y
  v0 : done 0 = true → xs 0 = .pointer (some ⟨zg, 0, none⟩)
  v1 : done 1 = true → xs 1 = .agg #[.slice R.A1 k.rules.length R.c1, .slice R.A2 k.ranks.length R.c2, .slice R.A3 k.insured.length R.c3]
  v2 : done 2 = true → xs 2 = .pointer (some ⟨ze, 2, none⟩)
  v3 : done 3 = true → xs 3 = .int .i64 xa
  v4 : done 4 = true → xs 4 = .bool false
  v5 : done 5 = true → xs 5 = .bool false
  v6 : done 6 = true → xs 6 = undef
  v7 : done 7 = true → xs 7 = undef
  v8 : done 8 = true → xs 8 = undef
  v9 : done 9 = true → xs 9 = undef
  v10 : done 10 = true → xs 10 = undef
  v11 : done 11 = true → xs 11 = undef
  v12 : done 12 = true → xs 12 = undef
  v13 : done 13 = true → xs 13 = undef
  v14 : done 14 = true → xs 14 = undef
  v15 : done 15 = true → xs 15 = undef
  v16 : done 16 = true → xs 16 = undef
  v17 : done 17 = true → xs 17 = undef
  v18 : done 18 = true → xs 18 = undef
  v19 : done 19 = true → xs 19 = undef
  v20 : done 20 = true → xs 20 = .bool false
  v21 : done 21 = true → xs 21 = .bool false

structure CnB (U : World) (k : BookZ) (R : BkR) (zg ze : Nat) (xa xb xc : Int) (b o i : Nat) (u : RuZ) (s : Bool) (done : Nat → Bool) (xs : Nat → Value) (y : World) : Prop where
  bl : Below U.heap.size U y
  v0 : done 0 = true → xs 0 = .pointer (some ⟨zg, 0, none⟩)
  v1 : done 1 = true → xs 1 = .agg #[.slice R.A1 k.rules.length R.c1, .slice R.A2 k.ranks.length R.c2, .slice R.A3 k.insured.length R.c3]
  v2 : done 2 = true → xs 2 = .pointer (some ⟨ze, 2, none⟩)
  v3 : done 3 = true → xs 3 = .int .i64 xa
  v4 : done 4 = true → xs 4 = .bool true
  v5 : done 5 = true → xs 5 = .bool true
  v6 : done 6 = true → xs 6 = .pointer (some ⟨zg, 0, none⟩)
  v7 : done 7 = true → xs 7 = .agg #[.slice R.A1 k.rules.length R.c1, .slice R.A2 k.ranks.length R.c2, .slice R.A3 k.insured.length R.c3]
  v8 : done 8 = true → xs 8 = .pointer (some ⟨zg, 0, none⟩)
  v9 : done 9 = true → xs 9 = .pointer (some ⟨zg, 0, none⟩)
  v10 : done 10 = true → xs 10 = .slice R.A1 k.rules.length R.c1
  v11 : done 11 = true → xs 11 = .pointer (some ⟨ze, 2, none⟩)
  v12 : done 12 = true → xs 12 = .int .i64 xa
  v13 : done 13 = true → xs 13 = .pointer (some ⟨b, o + i * 4, none⟩)
  v14 : done 14 = true → xs 14 = .agg #[.int .i64 u.ride, .int .i64 u.every, .int .i64 u.rank, .bool u.two]
  v15 : done 15 = true → xs 15 = .pointer (some ⟨ze, 3, none⟩)
  v16 : done 16 = true → xs 16 = .int .i64 xb
  v17 : done 17 = true → xs 17 = .pointer (some ⟨ze, 4, none⟩)
  v18 : done 18 = true → xs 18 = .int .i64 xc
  v19 : done 19 = true → xs 19 = .bool s
  v20 : done 20 = true → xs 20 = .bool s
  v21 : done 21 = true → xs 21 = .bool s

set_option maxRecDepth 100000 in
set_option maxHeartbeats 4000000 in
theorem can_any (k : BookZ) (R : BkR) (l : List EntZ) (A : Option Addr) (c B : Nat) (x : EntZ) (w : World) (hB : B ≤ w.heap.size) (hl : l.length ≤ maxLen) (hr : Reads w B 5 A l.length (entCells l)) (hk : BkIn w B k R) :
    Calls Try.prog 72 #[logV k R l A c, entV x] w fun e w' => e = .returned (.bool (canB k l x)) ∧ Below w.heap.size w w' := by
  obtain ⟨W, hW⟩ : ∃ W, W = (w.alloc (.cells #[.slice R.A1 k.rules.length R.c1, .slice R.A2 k.ranks.length R.c2, .slice R.A3 k.insured.length R.c3, .slice A l.length c] 66)).alloc (.cells #[.int .i64 x.day, .int .i64 x.kind, .int .i64 x.a, .int .i64 x.b, .int .i64 x.c] 54) := ⟨_, rfl⟩
  have bW : Below w.heap.size w W := by subst hW; exact ((Below.refl _ _).alloc (Nat.le_refl _) _).alloc (by simp) _
  have gW : Row W w.heap.size 66 [.slice R.A1 k.rules.length R.c1, .slice R.A2 k.ranks.length R.c2, .slice R.A3 k.insured.length R.c3, .slice A l.length c] := by subst hW; exact (Row.new w _ _).alloc _
  have eW : Row W (w.heap.size + 1) 54 [.int .i64 x.day, .int .i64 x.kind, .int .i64 x.a, .int .i64 x.b, .int .i64 x.c] := by
    subst hW
    have h := Row.new (w.alloc (.cells #[.slice R.A1 k.rules.length R.c1, .slice R.A2 k.ranks.length R.c2, .slice R.A3 k.insured.length R.c3, .slice A l.length c] 66)) 54 #[.int .i64 x.day, .int .i64 x.kind, .int .i64 x.a, .int .i64 x.b, .int .i64 x.c]
    rw [World.size_alloc] at h
    exact h
  have HBW := Lib.hid bW
  have HLa := Lib.hid (last_any l (fun _ => true) R.A1 R.A2 R.A3 A k.rules.length k.ranks.length k.insured.length R.c1 R.c2 R.c3 c B 86 #[] W hl (Nat.le_trans hB bW.size) (hr.below (bW.mono hB)) (fun a X => enters_of Try.func86 (by kernel_rfl) rfl a X) (fun x X _ => any_any x X))
  have HDay : Hid (∀ (n : Int) (X : World), Calls Try.prog 63 #[.int .i64 n] X fun e w' => e = .returned (.bool (inB n 0 10000)) ∧ Below X.heap.size X w') := isDay_any
  have HRi : Hid (∀ (n : Int) (X : World), Calls Try.prog 62 #[bookV k R, .int .i64 n] X fun e w' => e = .returned (.bool (inB n 0 ((k.insured.length : Int) - 1))) ∧ Below X.heap.size X w') := fun n X => isRide_any k R n hk.l3 X
  have HRu : Hid (∀ (n : Int) (X : World), Calls Try.prog 69 #[bookV k R, .int .i64 n] X fun e w' => e = .returned (.bool (inB n 0 ((k.rules.length : Int) - 1))) ∧ Below X.heap.size X w') := fun n X => isRule_any k R n hk.l1 X
  have HPe : Hid (∀ (n : Int) (X : World), Calls Try.prog 87 #[bookV k R, .int .i64 n] X fun e w' => e = .returned (.bool (inB n 0 ((k.ranks.length : Int) - 1))) ∧ Below X.heap.size X w') := fun n X => isPerson_any k R n hk.l2 X
  have HSi : Hid (∀ (u : RuZ) (X : World), Below w.heap.size w X → Calls Try.prog 85 #[bookV k R, ruV u, .int .i64 x.b, .int .i64 x.c] X fun e w' => e = .returned (.bool (signB k u x.b x.c)) ∧ Below X.heap.size X w') := fun u X hX => maySign_any k R u x.b x.c B X (Nat.le_trans hB hX.size) (hk.below (hX.mono hB))
  have HOp : Hid (∀ (X : World), Below w.heap.size w X → Calls Try.prog 53 #[logV k R l A c, .int .i64 x.a] X fun e w' => e = .returned (.bool (openS l x.a)) ∧ Below X.heap.size X w') := fun X hX => isOpen_any k R l A c B x.a X (Nat.le_trans hB hX.size) hl (hr.below (hX.mono hB))
  have HAl : Hid (∀ (X : World) (cc : Nat), Calls Try.prog 64 #[.int .i64 1, .int .i64 3, .slice (some ⟨X.heap.size, 0, none⟩) 1 cc] (X.alloc (.cells #[.int .i64 x.b] 3)) fun e w' => e = .returned (.bool (inB x.b 1 3)) ∧ w' = X.alloc (.cells #[.int .i64 x.b] 3)) := fun X cc => (iall_one _ _ cc x.b 1 3 (Row.new X 3 #[.int .i64 x.b])).mono fun e w' h => ⟨h.1, h.2.symm⟩
  have HRd : Hid (∀ (i : Nat) (hi : i < k.rules.length) (X : World), Below w.heap.size w X → ∃ b o, R.A1 = some ⟨b, o, none⟩ ∧ b < X.heap.size ∧ X.cell? ⟨b, o + i * 4, none⟩ = some (.int .i64 k.rules[i].ride) ∧ X.cell? ⟨b, o + i * 4 + 1, none⟩ = some (.int .i64 k.rules[i].every) ∧ X.cell? ⟨b, o + i * 4 + 2, none⟩ = some (.int .i64 k.rules[i].rank) ∧ X.cell? ⟨b, o + i * 4 + 3, none⟩ = some (.bool k.rules[i].two)) := fun i hi X hX => by
    obtain ⟨b, o, h1, h2, h3⟩ := ru_at (hk.rules.below (hX.mono hB)) hi
    exact ⟨b, o, h1, by have := hX.size; omega, h3⟩
  have hlast : ((lastS (fun _ => true) l).getD default).day = lastDay l := rfl
  generalize (lastS (fun _ => true) l).getD default = le at HLa hlast
  generalize (lastS (fun _ => true) l).isSome = ls at HLa
  obtain ⟨ed, ek, ea, eb, ec⟩ := le
  dsimp only at hlast
  have hK0 : canB k l x = canB k l x := rfl
  have HK1 := Lib.hid (fun h => all_snocD (k := k) (l := l) (x := x) h)
  have HK2 := Lib.hid (fun h => can_early (k := k) (l := l) (x := x) h)
  have HK3 := Lib.hid (fun h h' => can_late (k := k) (l := l) (x := x) h h')
  rw [← hlast] at HK2 HK3
  generalize hV : canB k l x = V at HK1 HK2 HK3 ⊢
  obtain ⟨zg, hzg⟩ : ∃ z, z = w.heap.size := ⟨_, rfl⟩
  obtain ⟨ze, hze⟩ : ∃ z, z = w.heap.size + 1 := ⟨_, rfl⟩
  rw [← hzg] at gW
  rw [← hze] at eW
  have gcW0 : W.cell? ⟨zg, 0, none⟩ = some (.slice R.A1 k.rules.length R.c1) := gW.cell (j := 0) (by simp)
  have gcW1 : W.cell? ⟨zg, 1, none⟩ = some (.slice R.A2 k.ranks.length R.c2) := gW.cell (j := 1) (by simp)
  have gcW2 : W.cell? ⟨zg, 2, none⟩ = some (.slice R.A3 k.insured.length R.c3) := gW.cell (j := 2) (by simp)
  have gcW3 : W.cell? ⟨zg, 3, none⟩ = some (.slice A l.length c) := gW.cell (j := 3) (by simp)
  have ecW0 : W.cell? ⟨ze, 0, none⟩ = some (.int .i64 x.day) := eW.cell (j := 0) (by simp)
  have ecW1 : W.cell? ⟨ze, 1, none⟩ = some (.int .i64 x.kind) := eW.cell (j := 1) (by simp)
  have ecW2 : W.cell? ⟨ze, 2, none⟩ = some (.int .i64 x.a) := eW.cell (j := 2) (by simp)
  have ecW3 : W.cell? ⟨ze, 3, none⟩ = some (.int .i64 x.b) := eW.cell (j := 3) (by simp)
  have ecW4 : W.cell? ⟨ze, 4, none⟩ = some (.int .i64 x.c) := eW.cell (j := 4) (by simp)
  have glW := gW.lt
  have elW := eW.lt
  have HGW := Lib.hid gW
  have HEW := Lib.hid eW
  clear gW eW
  unfold logV entV bookV at *
  clear hK0 hV hlast bW hr hk hB hl
  go_enter Try.func72, Try.ntmps72
  go_upto_region 1 with fail
  rw [← hW, ← hze, ← hzg]
  clear hW hze hzg
  go_upto_region 2 with (go_at_call 74; refine HLa.out.mono ?_; rintro e X ⟨rfl, hX⟩)
  have hbX := hX.alloc hX.size (.cells #[.int .i64 ed, .int .i64 ek, .int .i64 ea, .int .i64 eb, .int .i64 ec] 54)
  have lY := Row.new X 54 #[.int .i64 ed, .int .i64 ek, .int .i64 ea, .int .i64 eb, .int .i64 ec]
  generalize X.alloc (.cells #[.int .i64 ed, .int .i64 ek, .int .i64 ea, .int .i64 eb, .int .i64 ec] 54) = Y at hbX lY ⊢
  generalize X.heap.size = xs at lY ⊢
  have HBY := Lib.hid (HBW.out.trans (hbX.mono HBW.out.size))
  have HLY := Lib.hid lY
  have gY := HGW.out.below hbX HGW.out.lt
  have eY := HEW.out.below hbX HEW.out.lt
  have gcY0 : Y.cell? ⟨zg, 0, none⟩ = some (.slice R.A1 k.rules.length R.c1) := gY.cell (j := 0) (by simp)
  have gcY1 : Y.cell? ⟨zg, 1, none⟩ = some (.slice R.A2 k.ranks.length R.c2) := gY.cell (j := 1) (by simp)
  have gcY2 : Y.cell? ⟨zg, 2, none⟩ = some (.slice R.A3 k.insured.length R.c3) := gY.cell (j := 2) (by simp)
  have gcY3 : Y.cell? ⟨zg, 3, none⟩ = some (.slice A l.length c) := gY.cell (j := 3) (by simp)
  have ecY0 : Y.cell? ⟨ze, 0, none⟩ = some (.int .i64 x.day) := eY.cell (j := 0) (by simp)
  have ecY1 : Y.cell? ⟨ze, 1, none⟩ = some (.int .i64 x.kind) := eY.cell (j := 1) (by simp)
  have ecY2 : Y.cell? ⟨ze, 2, none⟩ = some (.int .i64 x.a) := eY.cell (j := 2) (by simp)
  have ecY3 : Y.cell? ⟨ze, 3, none⟩ = some (.int .i64 x.b) := eY.cell (j := 3) (by simp)
  have ecY4 : Y.cell? ⟨ze, 4, none⟩ = some (.int .i64 x.c) := eY.cell (j := 4) (by simp)
  have glY := gY.lt
  have elY := eY.lt
  have HGY := Lib.hid gY
  have HEY := Lib.hid eY
  clear gY eY
  clear hX hbX lY HLa
  cases hd : inB x.day 0 10000 with
  | false =>
    have HVv := Lib.hid (HK1.out hd)
    clear HK1 HK2 HK3
    go_wp2_with (go_at_call 63; refine (HDay.out x.day Y).mono ?_; rintro e Z ⟨rfl, hZ⟩; have BZ := Lib.hid (HBY.out.trans (hZ.mono HBY.out.size)); rw [hd]; clear hZ)
    go_ret
    exact ⟨ret_boolI HVv.out.symm, BZ.out⟩
  | true =>
    have HD1 := Lib.hid hd
    clear hd
    by_cases hlt : x.day < ed
    · have HVv := Lib.hid (HK2.out hlt)
      clear HK1 HK2 HK3
      go_wp2_with (go_at_call 63; refine (HDay.out x.day Y).mono ?_; rintro e Z ⟨rfl, hZ⟩; have BZ := Lib.hid (HBY.out.trans (hZ.mono HBY.out.size)); rw [HD1.out]; have gZ := HGY.out.below hZ HGY.out.lt; have eZ := HEY.out.below hZ HEY.out.lt; have gcZ0 : Z.cell? ⟨zg, 0, none⟩ = some (.slice R.A1 k.rules.length R.c1) := gZ.cell (j := 0) (by simp); have gcZ1 : Z.cell? ⟨zg, 1, none⟩ = some (.slice R.A2 k.ranks.length R.c2) := gZ.cell (j := 1) (by simp); have gcZ2 : Z.cell? ⟨zg, 2, none⟩ = some (.slice R.A3 k.insured.length R.c3) := gZ.cell (j := 2) (by simp); have gcZ3 : Z.cell? ⟨zg, 3, none⟩ = some (.slice A l.length c) := gZ.cell (j := 3) (by simp); have ecZ0 : Z.cell? ⟨ze, 0, none⟩ = some (.int .i64 x.day) := eZ.cell (j := 0) (by simp); have ecZ1 : Z.cell? ⟨ze, 1, none⟩ = some (.int .i64 x.kind) := eZ.cell (j := 1) (by simp); have ecZ2 : Z.cell? ⟨ze, 2, none⟩ = some (.int .i64 x.a) := eZ.cell (j := 2) (by simp); have ecZ3 : Z.cell? ⟨ze, 3, none⟩ = some (.int .i64 x.b) := eZ.cell (j := 3) (by simp); have ecZ4 : Z.cell? ⟨ze, 4, none⟩ = some (.int .i64 x.c) := eZ.cell (j := 4) (by simp); have glZ := gZ.lt; have elZ := eZ.lt; have HGZ := Lib.hid gZ; have HEZ := Lib.hid eZ; clear gZ eZ; have lz := HLY.out.below hZ HLY.out.lt; have d0 : Z.cell? ⟨xs, 0, none⟩ = some (.int .i64 ed) := lz.cell (j := 0) (by simp); have ll := lz.lt; clear hZ lz)
      go_ret
      exact ⟨ret_boolI HVv.out.symm, BZ.out⟩
    · have HV := Lib.hid (HK3.out HD1.out (by first | exact hlt | omega))
      clear HK1 HK2 HK3
      go_upto_region 4 with (go_at_call 63; refine (HDay.out x.day Y).mono ?_; rintro e Z ⟨rfl, hZ⟩; have BZ := Lib.hid (HBY.out.trans (hZ.mono HBY.out.size)); rw [HD1.out]; have gZ := HGY.out.below hZ HGY.out.lt; have eZ := HEY.out.below hZ HEY.out.lt; have gcZ0 : Z.cell? ⟨zg, 0, none⟩ = some (.slice R.A1 k.rules.length R.c1) := gZ.cell (j := 0) (by simp); have gcZ1 : Z.cell? ⟨zg, 1, none⟩ = some (.slice R.A2 k.ranks.length R.c2) := gZ.cell (j := 1) (by simp); have gcZ2 : Z.cell? ⟨zg, 2, none⟩ = some (.slice R.A3 k.insured.length R.c3) := gZ.cell (j := 2) (by simp); have gcZ3 : Z.cell? ⟨zg, 3, none⟩ = some (.slice A l.length c) := gZ.cell (j := 3) (by simp); have ecZ0 : Z.cell? ⟨ze, 0, none⟩ = some (.int .i64 x.day) := eZ.cell (j := 0) (by simp); have ecZ1 : Z.cell? ⟨ze, 1, none⟩ = some (.int .i64 x.kind) := eZ.cell (j := 1) (by simp); have ecZ2 : Z.cell? ⟨ze, 2, none⟩ = some (.int .i64 x.a) := eZ.cell (j := 2) (by simp); have ecZ3 : Z.cell? ⟨ze, 3, none⟩ = some (.int .i64 x.b) := eZ.cell (j := 3) (by simp); have ecZ4 : Z.cell? ⟨ze, 4, none⟩ = some (.int .i64 x.c) := eZ.cell (j := 4) (by simp); have glZ := gZ.lt; have elZ := eZ.lt; have HGZ := Lib.hid gZ; have HEZ := Lib.hid eZ; clear gZ eZ; have lz := HLY.out.below hZ HLY.out.lt; have d0 : Z.cell? ⟨xs, 0, none⟩ = some (.int .i64 ed) := lz.cell (j := 0) (by simp); have ll := lz.lt; clear hZ lz)
      clear d0 ll hlt HLY HBY HGW HEW HGY HEY HBW
      by_cases hk1 : x.kind = 1
      · have HX : Hid (V = ((inB x.a 0 ((k.rules.length : Int) - 1) && signB k (k.rules.getD x.a.toNat default) x.b x.c))) := by show _ = _; rw [HV.out]; unfold kindB; rw [if_pos hk1]
        rw [hk1] at ecZ1
        have HEZ2 : Hid (Row Z ze 54 [.int .i64 x.day, .int .i64 1, .int .i64 x.a, .int .i64 x.b, .int .i64 x.c]) := by show Row _ _ _ _; rw [← hk1]; exact HEZ.out
        clear HEZ
        have HEZ := HEZ2
        clear HEZ2 HV hk1
        cases h1 : inB x.a 0 ((k.rules.length : Int) - 1) with
        | false =>
          have HVv : Hid (V = false) := HX.out.trans (by rw [h1]; rfl)
          have H1 := Lib.hid h1
          clear HX h1
          have HRu1 : Hid (∀ X, Calls Try.prog 69 #[.agg #[.slice R.A1 k.rules.length R.c1, .slice R.A2 k.ranks.length R.c2, .slice R.A3 k.insured.length R.c3], .int .i64 x.a] X fun e w' => e = .returned (.bool false) ∧ Below X.heap.size X w') := by intro X; have h := HRu.out x.a X; rw [H1.out] at h; exact h
          clear HRu
          go_upto_region 6 with fail
          clear gcZ0 gcZ1 gcZ2 gcZ3 ecZ0 ecZ1 ecZ2 ecZ3 ecZ4
          refine wp_region_stepsY 22 (ord := [0, 1, 2, 3, 4, 5, 6, 7, 8, 9, 10, 11, 12, 13, 14, 15, 16, 17, 18, 19, 20, 21]) (ds := [(0, 27), (1, 28), (2, 29), (3, 30), (4, 31), (5, 32), (6, 33), (7, 34), (8, 35), (9, 36), (10, 37), (11, 38), (12, 39), (13, 40), (14, 41), (15, 42), (16, 43), (17, 44), (18, 45), (19, 46), (20, 47), (21, 4)]) (I := CnA Z k R zg ze x.a x.b x.c 0 0 0 default false) (by kernel_rfl) (by kernel_rfl) rfl ?iz (StepsY.cons (k := 0) (k' := 1) (o := ⟨some 27, _, _, _, _, _⟩) rfl rfl ?sz0 (StepsY.cons (k := 1) (k' := 2) (o := ⟨some 28, _, _, _, _, _⟩) rfl rfl ?sz1 (StepsY.cons (k := 2) (k' := 3) (o := ⟨some 29, _, _, _, _, _⟩) rfl rfl ?sz2 (StepsY.cons (k := 3) (k' := 4) (o := ⟨some 30, _, _, _, _, _⟩) rfl rfl ?sz3 (StepsY.cons (k := 4) (k' := 5) (o := ⟨some 31, _, _, _, _, _⟩) rfl rfl ?sz4 (StepsY.cons (k := 5) (k' := 6) (o := ⟨some 32, _, _, _, _, _⟩) rfl rfl ?sz5 (StepsY.cons (k := 6) (k' := 7) (o := ⟨some 33, _, _, _, _, _⟩) rfl rfl ?sz6 (StepsY.cons (k := 7) (k' := 8) (o := ⟨some 34, _, _, _, _, _⟩) rfl rfl ?sz7 (StepsY.cons (k := 8) (k' := 9) (o := ⟨some 35, _, _, _, _, _⟩) rfl rfl ?sz8 (StepsY.cons (k := 9) (k' := 10) (o := ⟨some 36, _, _, _, _, _⟩) rfl rfl ?sz9 (StepsY.cons (k := 10) (k' := 11) (o := ⟨some 37, _, _, _, _, _⟩) rfl rfl ?sz10 (StepsY.cons (k := 11) (k' := 12) (o := ⟨some 38, _, _, _, _, _⟩) rfl rfl ?sz11 (StepsY.cons (k := 12) (k' := 13) (o := ⟨some 39, _, _, _, _, _⟩) rfl rfl ?sz12 (StepsY.cons (k := 13) (k' := 14) (o := ⟨some 40, _, _, _, _, _⟩) rfl rfl ?sz13 (StepsY.cons (k := 14) (k' := 15) (o := ⟨some 41, _, _, _, _, _⟩) rfl rfl ?sz14 (StepsY.cons (k := 15) (k' := 16) (o := ⟨some 42, _, _, _, _, _⟩) rfl rfl ?sz15 (StepsY.cons (k := 16) (k' := 17) (o := ⟨some 43, _, _, _, _, _⟩) rfl rfl ?sz16 (StepsY.cons (k := 17) (k' := 18) (o := ⟨some 44, _, _, _, _, _⟩) rfl rfl ?sz17 (StepsY.cons (k := 18) (k' := 19) (o := ⟨some 45, _, _, _, _, _⟩) rfl rfl ?sz18 (StepsY.cons (k := 19) (k' := 20) (o := ⟨some 46, _, _, _, _, _⟩) rfl rfl ?sz19 (StepsY.cons (k := 20) (k' := 21) (o := ⟨some 47, _, _, _, _, _⟩) rfl rfl ?sz20 (StepsY.cons (k := 21) (k' := 22) (o := ⟨some 4, _, _, _, _, _⟩) rfl rfl ?sz21 StepsY.nil)))))))))))))))))))))) ?finz
          case iz => exact fun xs => ⟨(Below.refl _ _).drew, fun h => Bool.noConfusion h, fun h => Bool.noConfusion h, fun h => Bool.noConfusion h, fun h => Bool.noConfusion h, fun h => Bool.noConfusion h, fun h => Bool.noConfusion h, fun h => Bool.noConfusion h, fun h => Bool.noConfusion h, fun h => Bool.noConfusion h, fun h => Bool.noConfusion h, fun h => Bool.noConfusion h, fun h => Bool.noConfusion h, fun h => Bool.noConfusion h, fun h => Bool.noConfusion h, fun h => Bool.noConfusion h, fun h => Bool.noConfusion h, fun h => Bool.noConfusion h, fun h => Bool.noConfusion h, fun h => Bool.noConfusion h, fun h => Bool.noConfusion h, fun h => Bool.noConfusion h, fun h => Bool.noConfusion h⟩
          case sz0 =>
            intro xs done y hI hd0 hup hdn K hK
            refine wpOp_go (o := ⟨some 27, _, _, _, _, _⟩) rfl rfl ?_
            simp only [putsF, List.foldl_cons, List.foldl_nil, Act.put, List.setIfInBounds_toArray, List.set_cons_zero, List.set_cons_succ] at hK ⊢
            have rG := HGZ.out.below hI.bl HGZ.out.lt
            have lG := rG.lt
            have g0 : y.cell? ⟨zg, 0, none⟩ = some (.slice R.A1 k.rules.length R.c1) := rG.cell (j := 0) (by simp)
            have g1 : y.cell? ⟨zg, 1, none⟩ = some (.slice R.A2 k.ranks.length R.c2) := rG.cell (j := 1) (by simp)
            have g2 : y.cell? ⟨zg, 2, none⟩ = some (.slice R.A3 k.insured.length R.c3) := rG.cell (j := 2) (by simp)
            have g3 : y.cell? ⟨zg, 3, none⟩ = some (.slice A l.length c) := rG.cell (j := 3) (by simp)
            go_wp2_with fail
            exact hK.out _ _ ⟨hI.bl, fun _ => rfl, hI.v1, hI.v2, hI.v3, hI.v4, hI.v5, hI.v6, hI.v7, hI.v8, hI.v9, hI.v10, hI.v11, hI.v12, hI.v13, hI.v14, hI.v15, hI.v16, hI.v17, hI.v18, hI.v19, hI.v20, hI.v21⟩
          case sz1 =>
            intro xs done y hI hd0 hup hdn K hK
            refine wpOp_go (o := ⟨some 28, _, _, _, _, _⟩) rfl rfl ?_
            have e0 := hI.v0 (hdn 0 (by kernel_rfl))
            simp only [putsF, List.foldl_cons, List.foldl_nil, Act.put, List.setIfInBounds_toArray, List.set_cons_zero, List.set_cons_succ] at hK ⊢
            simp only [e0] at hK ⊢
            have rG := HGZ.out.below hI.bl HGZ.out.lt
            have lG := rG.lt
            have g0 : y.cell? ⟨zg, 0, none⟩ = some (.slice R.A1 k.rules.length R.c1) := rG.cell (j := 0) (by simp)
            have g1 : y.cell? ⟨zg, 1, none⟩ = some (.slice R.A2 k.ranks.length R.c2) := rG.cell (j := 1) (by simp)
            have g2 : y.cell? ⟨zg, 2, none⟩ = some (.slice R.A3 k.insured.length R.c3) := rG.cell (j := 2) (by simp)
            have g3 : y.cell? ⟨zg, 3, none⟩ = some (.slice A l.length c) := rG.cell (j := 3) (by simp)
            go_wp2_with fail
            exact hK.out _ _ ⟨hI.bl, hI.v0, fun _ => rfl, hI.v2, hI.v3, hI.v4, hI.v5, hI.v6, hI.v7, hI.v8, hI.v9, hI.v10, hI.v11, hI.v12, hI.v13, hI.v14, hI.v15, hI.v16, hI.v17, hI.v18, hI.v19, hI.v20, hI.v21⟩
          case sz2 =>
            intro xs done y hI hd0 hup hdn K hK
            refine wpOp_go (o := ⟨some 29, _, _, _, _, _⟩) rfl rfl ?_
            simp only [putsF, List.foldl_cons, List.foldl_nil, Act.put, List.setIfInBounds_toArray, List.set_cons_zero, List.set_cons_succ] at hK ⊢
            have rE := HEZ.out.below hI.bl HEZ.out.lt
            have lE := rE.lt
            have f2 : y.cell? ⟨ze, 2, none⟩ = some (.int .i64 x.a) := rE.cell (j := 2) (by simp)
            have f3 : y.cell? ⟨ze, 3, none⟩ = some (.int .i64 x.b) := rE.cell (j := 3) (by simp)
            have f4 : y.cell? ⟨ze, 4, none⟩ = some (.int .i64 x.c) := rE.cell (j := 4) (by simp)
            go_wp2_with fail
            exact hK.out _ _ ⟨hI.bl, hI.v0, hI.v1, fun _ => rfl, hI.v3, hI.v4, hI.v5, hI.v6, hI.v7, hI.v8, hI.v9, hI.v10, hI.v11, hI.v12, hI.v13, hI.v14, hI.v15, hI.v16, hI.v17, hI.v18, hI.v19, hI.v20, hI.v21⟩
          case sz3 =>
            intro xs done y hI hd0 hup hdn K hK
            refine wpOp_go (o := ⟨some 30, _, _, _, _, _⟩) rfl rfl ?_
            have e2 := hI.v2 (hdn 2 (by kernel_rfl))
            simp only [putsF, List.foldl_cons, List.foldl_nil, Act.put, List.setIfInBounds_toArray, List.set_cons_zero, List.set_cons_succ] at hK ⊢
            simp only [e2] at hK ⊢
            have rE := HEZ.out.below hI.bl HEZ.out.lt
            have lE := rE.lt
            have f2 : y.cell? ⟨ze, 2, none⟩ = some (.int .i64 x.a) := rE.cell (j := 2) (by simp)
            have f3 : y.cell? ⟨ze, 3, none⟩ = some (.int .i64 x.b) := rE.cell (j := 3) (by simp)
            have f4 : y.cell? ⟨ze, 4, none⟩ = some (.int .i64 x.c) := rE.cell (j := 4) (by simp)
            go_wp2_with fail
            exact hK.out _ _ ⟨hI.bl, hI.v0, hI.v1, hI.v2, fun _ => rfl, hI.v4, hI.v5, hI.v6, hI.v7, hI.v8, hI.v9, hI.v10, hI.v11, hI.v12, hI.v13, hI.v14, hI.v15, hI.v16, hI.v17, hI.v18, hI.v19, hI.v20, hI.v21⟩
          case sz4 =>
            intro xs done y hI hd0 hup hdn K hK
            refine wpOp_go (o := ⟨some 31, _, _, _, _, _⟩) rfl rfl ?_
            have e1 := hI.v1 (hdn 1 (by kernel_rfl))
            have e3 := hI.v3 (hdn 3 (by kernel_rfl))
            simp only [putsF, List.foldl_cons, List.foldl_nil, Act.put, List.setIfInBounds_toArray, List.set_cons_zero, List.set_cons_succ] at hK ⊢
            simp only [e1, e3] at hK ⊢
            go_wp2_with (go_at_call 69; refine (HRu1.out y).mono ?_; rintro e z ⟨rfl, hb4⟩)
            exact hK.out _ _ ⟨(hI.bl.trans (hb4.mono hI.bl.size)), hI.v0, hI.v1, hI.v2, hI.v3, fun _ => rfl, hI.v5, hI.v6, hI.v7, hI.v8, hI.v9, hI.v10, hI.v11, hI.v12, hI.v13, hI.v14, hI.v15, hI.v16, hI.v17, hI.v18, hI.v19, hI.v20, hI.v21⟩
          case sz5 =>
            intro xs done y hI hd0 hup hdn K hK
            refine wpOp_go (o := ⟨some 32, _, _, _, _, _⟩) rfl rfl ?_
            have e4 := hI.v4 (hdn 4 (by kernel_rfl))
            simp only [putsF, List.foldl_cons, List.foldl_nil, Act.put, List.setIfInBounds_toArray, List.set_cons_zero, List.set_cons_succ] at hK ⊢
            simp only [e4] at hK ⊢
            go_wp2_with fail
            exact hK.out _ _ ⟨hI.bl, hI.v0, hI.v1, hI.v2, hI.v3, hI.v4, fun _ => rfl, hI.v6, hI.v7, hI.v8, hI.v9, hI.v10, hI.v11, hI.v12, hI.v13, hI.v14, hI.v15, hI.v16, hI.v17, hI.v18, hI.v19, hI.v20, hI.v21⟩
          case sz6 =>
            intro xs done y hI hd0 hup hdn K hK
            have e5 := hI.v5 (hdn 5 (by kernel_rfl))
            simp only [putsF, List.foldl_cons, List.foldl_nil, Act.put, List.setIfInBounds_toArray, List.set_cons_zero, List.set_cons_succ] at hK ⊢
            refine wpOp_skip (o := ⟨some 33, _, _, _, _, _⟩) rfl rfl rfl (congrArg some e5) (by first | (unfold undef; simp; done) | simp) ?_
            exact hK.out undef _ ⟨hI.bl, hI.v0, hI.v1, hI.v2, hI.v3, hI.v4, hI.v5, fun _ => rfl, hI.v7, hI.v8, hI.v9, hI.v10, hI.v11, hI.v12, hI.v13, hI.v14, hI.v15, hI.v16, hI.v17, hI.v18, hI.v19, hI.v20, hI.v21⟩
          case sz7 =>
            intro xs done y hI hd0 hup hdn K hK
            have e6 := hI.v6 (hdn 6 (by kernel_rfl))
            have e5 := hI.v5 (hdn 5 (by kernel_rfl))
            simp only [putsF, List.foldl_cons, List.foldl_nil, Act.put, List.setIfInBounds_toArray, List.set_cons_zero, List.set_cons_succ] at hK ⊢
            refine wpOp_skip (o := ⟨some 34, _, _, _, _, _⟩) rfl rfl rfl (congrArg some e5) (by first | (unfold undef; simp; done) | simp) ?_
            exact hK.out undef _ ⟨hI.bl, hI.v0, hI.v1, hI.v2, hI.v3, hI.v4, hI.v5, hI.v6, fun _ => rfl, hI.v8, hI.v9, hI.v10, hI.v11, hI.v12, hI.v13, hI.v14, hI.v15, hI.v16, hI.v17, hI.v18, hI.v19, hI.v20, hI.v21⟩
          case sz8 =>
            intro xs done y hI hd0 hup hdn K hK
            have e5 := hI.v5 (hdn 5 (by kernel_rfl))
            simp only [putsF, List.foldl_cons, List.foldl_nil, Act.put, List.setIfInBounds_toArray, List.set_cons_zero, List.set_cons_succ] at hK ⊢
            refine wpOp_skip (o := ⟨some 35, _, _, _, _, _⟩) rfl rfl rfl (congrArg some e5) (by first | (unfold undef; simp; done) | simp) ?_
            exact hK.out undef _ ⟨hI.bl, hI.v0, hI.v1, hI.v2, hI.v3, hI.v4, hI.v5, hI.v6, hI.v7, fun _ => rfl, hI.v9, hI.v10, hI.v11, hI.v12, hI.v13, hI.v14, hI.v15, hI.v16, hI.v17, hI.v18, hI.v19, hI.v20, hI.v21⟩
          case sz9 =>
            intro xs done y hI hd0 hup hdn K hK
            have e8 := hI.v8 (hdn 8 (by kernel_rfl))
            have e5 := hI.v5 (hdn 5 (by kernel_rfl))
            simp only [putsF, List.foldl_cons, List.foldl_nil, Act.put, List.setIfInBounds_toArray, List.set_cons_zero, List.set_cons_succ] at hK ⊢
            refine wpOp_skip (o := ⟨some 36, _, _, _, _, _⟩) rfl rfl rfl (congrArg some e5) (by first | (unfold undef; simp; done) | simp) ?_
            exact hK.out undef _ ⟨hI.bl, hI.v0, hI.v1, hI.v2, hI.v3, hI.v4, hI.v5, hI.v6, hI.v7, hI.v8, fun _ => rfl, hI.v10, hI.v11, hI.v12, hI.v13, hI.v14, hI.v15, hI.v16, hI.v17, hI.v18, hI.v19, hI.v20, hI.v21⟩
          case sz10 =>
            intro xs done y hI hd0 hup hdn K hK
            have e9 := hI.v9 (hdn 9 (by kernel_rfl))
            have e5 := hI.v5 (hdn 5 (by kernel_rfl))
            simp only [putsF, List.foldl_cons, List.foldl_nil, Act.put, List.setIfInBounds_toArray, List.set_cons_zero, List.set_cons_succ] at hK ⊢
            refine wpOp_skip (o := ⟨some 37, _, _, _, _, _⟩) rfl rfl rfl (congrArg some e5) (by first | (unfold undef; simp; done) | simp) ?_
            exact hK.out undef _ ⟨hI.bl, hI.v0, hI.v1, hI.v2, hI.v3, hI.v4, hI.v5, hI.v6, hI.v7, hI.v8, hI.v9, fun _ => rfl, hI.v11, hI.v12, hI.v13, hI.v14, hI.v15, hI.v16, hI.v17, hI.v18, hI.v19, hI.v20, hI.v21⟩
          case sz11 =>
            intro xs done y hI hd0 hup hdn K hK
            have e5 := hI.v5 (hdn 5 (by kernel_rfl))
            simp only [putsF, List.foldl_cons, List.foldl_nil, Act.put, List.setIfInBounds_toArray, List.set_cons_zero, List.set_cons_succ] at hK ⊢
            refine wpOp_skip (o := ⟨some 38, _, _, _, _, _⟩) rfl rfl rfl (congrArg some e5) (by first | (unfold undef; simp; done) | simp) ?_
            exact hK.out undef _ ⟨hI.bl, hI.v0, hI.v1, hI.v2, hI.v3, hI.v4, hI.v5, hI.v6, hI.v7, hI.v8, hI.v9, hI.v10, fun _ => rfl, hI.v12, hI.v13, hI.v14, hI.v15, hI.v16, hI.v17, hI.v18, hI.v19, hI.v20, hI.v21⟩
          case sz12 =>
            intro xs done y hI hd0 hup hdn K hK
            have e11 := hI.v11 (hdn 11 (by kernel_rfl))
            have e5 := hI.v5 (hdn 5 (by kernel_rfl))
            simp only [putsF, List.foldl_cons, List.foldl_nil, Act.put, List.setIfInBounds_toArray, List.set_cons_zero, List.set_cons_succ] at hK ⊢
            refine wpOp_skip (o := ⟨some 39, _, _, _, _, _⟩) rfl rfl rfl (congrArg some e5) (by first | (unfold undef; simp; done) | simp) ?_
            exact hK.out undef _ ⟨hI.bl, hI.v0, hI.v1, hI.v2, hI.v3, hI.v4, hI.v5, hI.v6, hI.v7, hI.v8, hI.v9, hI.v10, hI.v11, fun _ => rfl, hI.v13, hI.v14, hI.v15, hI.v16, hI.v17, hI.v18, hI.v19, hI.v20, hI.v21⟩
          case sz13 =>
            intro xs done y hI hd0 hup hdn K hK
            have e10 := hI.v10 (hdn 10 (by kernel_rfl))
            have e12 := hI.v12 (hdn 12 (by kernel_rfl))
            have e5 := hI.v5 (hdn 5 (by kernel_rfl))
            simp only [putsF, List.foldl_cons, List.foldl_nil, Act.put, List.setIfInBounds_toArray, List.set_cons_zero, List.set_cons_succ] at hK ⊢
            refine wpOp_skip (o := ⟨some 40, _, _, _, _, _⟩) rfl rfl rfl (congrArg some e5) (by first | (unfold undef; simp; done) | simp) ?_
            exact hK.out undef _ ⟨hI.bl, hI.v0, hI.v1, hI.v2, hI.v3, hI.v4, hI.v5, hI.v6, hI.v7, hI.v8, hI.v9, hI.v10, hI.v11, hI.v12, fun _ => rfl, hI.v14, hI.v15, hI.v16, hI.v17, hI.v18, hI.v19, hI.v20, hI.v21⟩
          case sz14 =>
            intro xs done y hI hd0 hup hdn K hK
            have e13 := hI.v13 (hdn 13 (by kernel_rfl))
            have e5 := hI.v5 (hdn 5 (by kernel_rfl))
            simp only [putsF, List.foldl_cons, List.foldl_nil, Act.put, List.setIfInBounds_toArray, List.set_cons_zero, List.set_cons_succ] at hK ⊢
            refine wpOp_skip (o := ⟨some 41, _, _, _, _, _⟩) rfl rfl rfl (congrArg some e5) (by first | (unfold undef; simp; done) | simp) ?_
            exact hK.out undef _ ⟨hI.bl, hI.v0, hI.v1, hI.v2, hI.v3, hI.v4, hI.v5, hI.v6, hI.v7, hI.v8, hI.v9, hI.v10, hI.v11, hI.v12, hI.v13, fun _ => rfl, hI.v15, hI.v16, hI.v17, hI.v18, hI.v19, hI.v20, hI.v21⟩
          case sz15 =>
            intro xs done y hI hd0 hup hdn K hK
            have e5 := hI.v5 (hdn 5 (by kernel_rfl))
            simp only [putsF, List.foldl_cons, List.foldl_nil, Act.put, List.setIfInBounds_toArray, List.set_cons_zero, List.set_cons_succ] at hK ⊢
            refine wpOp_skip (o := ⟨some 42, _, _, _, _, _⟩) rfl rfl rfl (congrArg some e5) (by first | (unfold undef; simp; done) | simp) ?_
            exact hK.out undef _ ⟨hI.bl, hI.v0, hI.v1, hI.v2, hI.v3, hI.v4, hI.v5, hI.v6, hI.v7, hI.v8, hI.v9, hI.v10, hI.v11, hI.v12, hI.v13, hI.v14, fun _ => rfl, hI.v16, hI.v17, hI.v18, hI.v19, hI.v20, hI.v21⟩
          case sz16 =>
            intro xs done y hI hd0 hup hdn K hK
            have e15 := hI.v15 (hdn 15 (by kernel_rfl))
            have e5 := hI.v5 (hdn 5 (by kernel_rfl))
            simp only [putsF, List.foldl_cons, List.foldl_nil, Act.put, List.setIfInBounds_toArray, List.set_cons_zero, List.set_cons_succ] at hK ⊢
            refine wpOp_skip (o := ⟨some 43, _, _, _, _, _⟩) rfl rfl rfl (congrArg some e5) (by first | (unfold undef; simp; done) | simp) ?_
            exact hK.out undef _ ⟨hI.bl, hI.v0, hI.v1, hI.v2, hI.v3, hI.v4, hI.v5, hI.v6, hI.v7, hI.v8, hI.v9, hI.v10, hI.v11, hI.v12, hI.v13, hI.v14, hI.v15, fun _ => rfl, hI.v17, hI.v18, hI.v19, hI.v20, hI.v21⟩
          case sz17 =>
            intro xs done y hI hd0 hup hdn K hK
            have e5 := hI.v5 (hdn 5 (by kernel_rfl))
            simp only [putsF, List.foldl_cons, List.foldl_nil, Act.put, List.setIfInBounds_toArray, List.set_cons_zero, List.set_cons_succ] at hK ⊢
            refine wpOp_skip (o := ⟨some 44, _, _, _, _, _⟩) rfl rfl rfl (congrArg some e5) (by first | (unfold undef; simp; done) | simp) ?_
            exact hK.out undef _ ⟨hI.bl, hI.v0, hI.v1, hI.v2, hI.v3, hI.v4, hI.v5, hI.v6, hI.v7, hI.v8, hI.v9, hI.v10, hI.v11, hI.v12, hI.v13, hI.v14, hI.v15, hI.v16, fun _ => rfl, hI.v18, hI.v19, hI.v20, hI.v21⟩
          case sz18 =>
            intro xs done y hI hd0 hup hdn K hK
            have e17 := hI.v17 (hdn 17 (by kernel_rfl))
            have e5 := hI.v5 (hdn 5 (by kernel_rfl))
            simp only [putsF, List.foldl_cons, List.foldl_nil, Act.put, List.setIfInBounds_toArray, List.set_cons_zero, List.set_cons_succ] at hK ⊢
            refine wpOp_skip (o := ⟨some 45, _, _, _, _, _⟩) rfl rfl rfl (congrArg some e5) (by first | (unfold undef; simp; done) | simp) ?_
            exact hK.out undef _ ⟨hI.bl, hI.v0, hI.v1, hI.v2, hI.v3, hI.v4, hI.v5, hI.v6, hI.v7, hI.v8, hI.v9, hI.v10, hI.v11, hI.v12, hI.v13, hI.v14, hI.v15, hI.v16, hI.v17, fun _ => rfl, hI.v19, hI.v20, hI.v21⟩
          case sz19 =>
            intro xs done y hI hd0 hup hdn K hK
            have e7 := hI.v7 (hdn 7 (by kernel_rfl))
            have e14 := hI.v14 (hdn 14 (by kernel_rfl))
            have e16 := hI.v16 (hdn 16 (by kernel_rfl))
            have e18 := hI.v18 (hdn 18 (by kernel_rfl))
            have e5 := hI.v5 (hdn 5 (by kernel_rfl))
            simp only [putsF, List.foldl_cons, List.foldl_nil, Act.put, List.setIfInBounds_toArray, List.set_cons_zero, List.set_cons_succ] at hK ⊢
            refine wpOp_skip (o := ⟨some 46, _, _, _, _, _⟩) rfl rfl rfl (congrArg some e5) (by first | (unfold undef; simp; done) | simp) ?_
            exact hK.out undef _ ⟨hI.bl, hI.v0, hI.v1, hI.v2, hI.v3, hI.v4, hI.v5, hI.v6, hI.v7, hI.v8, hI.v9, hI.v10, hI.v11, hI.v12, hI.v13, hI.v14, hI.v15, hI.v16, hI.v17, hI.v18, fun _ => rfl, hI.v20, hI.v21⟩
          case sz20 =>
            intro xs done y hI hd0 hup hdn K hK
            refine wpOp_go (o := ⟨some 47, _, _, _, _, _⟩) rfl rfl ?_
            have e5 := hI.v5 (hdn 5 (by kernel_rfl))
            have e19 := hI.v19 (hdn 19 (by kernel_rfl))
            simp only [putsF, List.foldl_cons, List.foldl_nil, Act.put, List.setIfInBounds_toArray, List.set_cons_zero, List.set_cons_succ] at hK ⊢
            simp only [e5, e19] at hK ⊢
            go_wp2_with fail
            exact hK.out _ _ ⟨hI.bl, hI.v0, hI.v1, hI.v2, hI.v3, hI.v4, hI.v5, hI.v6, hI.v7, hI.v8, hI.v9, hI.v10, hI.v11, hI.v12, hI.v13, hI.v14, hI.v15, hI.v16, hI.v17, hI.v18, hI.v19, fun _ => rfl, hI.v21⟩
          case sz21 =>
            intro xs done y hI hd0 hup hdn K hK
            refine wpOp_go (o := ⟨some 4, _, _, _, _, _⟩) rfl rfl ?_
            have e20 := hI.v20 (hdn 20 (by kernel_rfl))
            simp only [putsF, List.foldl_cons, List.foldl_nil, Act.put, List.setIfInBounds_toArray, List.set_cons_zero, List.set_cons_succ] at hK ⊢
            simp only [e20] at hK ⊢
            go_wp2_with fail
            exact hK.out _ _ ⟨hI.bl, hI.v0, hI.v1, hI.v2, hI.v3, hI.v4, hI.v5, hI.v6, hI.v7, hI.v8, hI.v9, hI.v10, hI.v11, hI.v12, hI.v13, hI.v14, hI.v15, hI.v16, hI.v17, hI.v18, hI.v19, hI.v20, fun _ => rfl⟩
          case finz =>
            intro xs done y hI hd
            have hb6 := hI.bl
            have e21 := hI.v21 (hd 21 (by decide))
            simp only [putsF, List.foldl_cons, List.foldl_nil, Act.put, List.setIfInBounds_toArray, List.set_cons_zero, List.set_cons_succ]
            simp only [e21]
            have HB6 := Lib.hid (BZ.out.trans (hb6.mono BZ.out.size))
            clear hI hb6
            go_wp2_with fail
            go_ret
            exact ⟨ret_boolI HVv.out.symm, HB6.out⟩
        | true =>
          have hb := inI_le h1
          obtain ⟨i, hi⟩ : ∃ i, i = x.a.toNat := ⟨_, rfl⟩
          have hn : x.a = (i : Int) := by omega
          have hil : i < k.rules.length := by omega
          have i0 : ¬ (i : Int) < 0 := by omega
          have i1 : (i : Int) < (k.rules.length : Int) := by omega
          have H1 := Lib.hid h1
          have HX2 : Hid (V = signB k k.rules[i] x.b x.c) := by show _ = _; rw [HX.out, h1, ← hi, rules_at hil]; rfl
          have HRD2 := Lib.hid (HRd.out i hil)
          have HN := Lib.hid hn
          have HSi2 := Lib.hid (HSi.out k.rules[i])
          generalize k.rules[i] = u at HX2 HRD2 HSi2
          generalize signB k u x.b x.c = s at HX2 HSi2
          unfold ruV at HSi2
          have HVv := HX2
          clear HX h1 hb hi hn hil HSi HRd
          have HRu1 : Hid (∀ X, Calls Try.prog 69 #[.agg #[.slice R.A1 k.rules.length R.c1, .slice R.A2 k.ranks.length R.c2, .slice R.A3 k.insured.length R.c3], .int .i64 (i : Int)] X fun e w' => e = .returned (.bool true) ∧ Below X.heap.size X w') := by intro X; have h := HRu.out x.a X; rw [H1.out, HN.out] at h; exact h
          obtain ⟨b, o, hA, lb, q0, q1, q2, q3⟩ := HRD2.out Z BZ.out
          have HA := Lib.hid hA
          have HLb := Lib.hid lb
          have Q0 := Lib.hid q0
          have Q1 := Lib.hid q1
          have Q2 := Lib.hid q2
          have Q3 := Lib.hid q3
          have HEZ3 : Hid (Row Z ze 54 [.int .i64 x.day, .int .i64 1, .int .i64 (i : Int), .int .i64 x.b, .int .i64 x.c]) := by show Row _ _ _ _; rw [← HN.out]; exact HEZ.out
          clear HEZ
          have HEZ := HEZ3
          rw [HN.out] at ecZ2
          clear HEZ3 hA lb q0 q1 q2 q3 HRu HRD2 HN
          go_upto_region 6 with fail
          clear gcZ0 gcZ1 gcZ2 gcZ3 ecZ0 ecZ1 ecZ2 ecZ3 ecZ4
          refine wp_region_stepsY 22 (ord := [0, 1, 2, 3, 4, 5, 6, 7, 8, 9, 10, 11, 12, 13, 14, 15, 16, 17, 18, 19, 20, 21]) (ds := [(0, 27), (1, 28), (2, 29), (3, 30), (4, 31), (5, 32), (6, 33), (7, 34), (8, 35), (9, 36), (10, 37), (11, 38), (12, 39), (13, 40), (14, 41), (15, 42), (16, 43), (17, 44), (18, 45), (19, 46), (20, 47), (21, 4)]) (I := CnB Z k R zg ze (i : Int) x.b x.c b o i u s) (by kernel_rfl) (by kernel_rfl) rfl ?iz (StepsY.cons (k := 0) (k' := 1) (o := ⟨some 27, _, _, _, _, _⟩) rfl rfl ?sz0 (StepsY.cons (k := 1) (k' := 2) (o := ⟨some 28, _, _, _, _, _⟩) rfl rfl ?sz1 (StepsY.cons (k := 2) (k' := 3) (o := ⟨some 29, _, _, _, _, _⟩) rfl rfl ?sz2 (StepsY.cons (k := 3) (k' := 4) (o := ⟨some 30, _, _, _, _, _⟩) rfl rfl ?sz3 (StepsY.cons (k := 4) (k' := 5) (o := ⟨some 31, _, _, _, _, _⟩) rfl rfl ?sz4 (StepsY.cons (k := 5) (k' := 6) (o := ⟨some 32, _, _, _, _, _⟩) rfl rfl ?sz5 (StepsY.cons (k := 6) (k' := 7) (o := ⟨some 33, _, _, _, _, _⟩) rfl rfl ?sz6 (StepsY.cons (k := 7) (k' := 8) (o := ⟨some 34, _, _, _, _, _⟩) rfl rfl ?sz7 (StepsY.cons (k := 8) (k' := 9) (o := ⟨some 35, _, _, _, _, _⟩) rfl rfl ?sz8 (StepsY.cons (k := 9) (k' := 10) (o := ⟨some 36, _, _, _, _, _⟩) rfl rfl ?sz9 (StepsY.cons (k := 10) (k' := 11) (o := ⟨some 37, _, _, _, _, _⟩) rfl rfl ?sz10 (StepsY.cons (k := 11) (k' := 12) (o := ⟨some 38, _, _, _, _, _⟩) rfl rfl ?sz11 (StepsY.cons (k := 12) (k' := 13) (o := ⟨some 39, _, _, _, _, _⟩) rfl rfl ?sz12 (StepsY.cons (k := 13) (k' := 14) (o := ⟨some 40, _, _, _, _, _⟩) rfl rfl ?sz13 (StepsY.cons (k := 14) (k' := 15) (o := ⟨some 41, _, _, _, _, _⟩) rfl rfl ?sz14 (StepsY.cons (k := 15) (k' := 16) (o := ⟨some 42, _, _, _, _, _⟩) rfl rfl ?sz15 (StepsY.cons (k := 16) (k' := 17) (o := ⟨some 43, _, _, _, _, _⟩) rfl rfl ?sz16 (StepsY.cons (k := 17) (k' := 18) (o := ⟨some 44, _, _, _, _, _⟩) rfl rfl ?sz17 (StepsY.cons (k := 18) (k' := 19) (o := ⟨some 45, _, _, _, _, _⟩) rfl rfl ?sz18 (StepsY.cons (k := 19) (k' := 20) (o := ⟨some 46, _, _, _, _, _⟩) rfl rfl ?sz19 (StepsY.cons (k := 20) (k' := 21) (o := ⟨some 47, _, _, _, _, _⟩) rfl rfl ?sz20 (StepsY.cons (k := 21) (k' := 22) (o := ⟨some 4, _, _, _, _, _⟩) rfl rfl ?sz21 StepsY.nil)))))))))))))))))))))) ?finz
          case iz => exact fun xs => ⟨(Below.refl _ _).drew, fun h => Bool.noConfusion h, fun h => Bool.noConfusion h, fun h => Bool.noConfusion h, fun h => Bool.noConfusion h, fun h => Bool.noConfusion h, fun h => Bool.noConfusion h, fun h => Bool.noConfusion h, fun h => Bool.noConfusion h, fun h => Bool.noConfusion h, fun h => Bool.noConfusion h, fun h => Bool.noConfusion h, fun h => Bool.noConfusion h, fun h => Bool.noConfusion h, fun h => Bool.noConfusion h, fun h => Bool.noConfusion h, fun h => Bool.noConfusion h, fun h => Bool.noConfusion h, fun h => Bool.noConfusion h, fun h => Bool.noConfusion h, fun h => Bool.noConfusion h, fun h => Bool.noConfusion h, fun h => Bool.noConfusion h⟩
          case sz0 =>
            intro xs done y hI hd0 hup hdn K hK
            refine wpOp_go (o := ⟨some 27, _, _, _, _, _⟩) rfl rfl ?_
            simp only [putsF, List.foldl_cons, List.foldl_nil, Act.put, List.setIfInBounds_toArray, List.set_cons_zero, List.set_cons_succ] at hK ⊢
            have rG := HGZ.out.below hI.bl HGZ.out.lt
            have lG := rG.lt
            have g0 : y.cell? ⟨zg, 0, none⟩ = some (.slice R.A1 k.rules.length R.c1) := rG.cell (j := 0) (by simp)
            have g1 : y.cell? ⟨zg, 1, none⟩ = some (.slice R.A2 k.ranks.length R.c2) := rG.cell (j := 1) (by simp)
            have g2 : y.cell? ⟨zg, 2, none⟩ = some (.slice R.A3 k.insured.length R.c3) := rG.cell (j := 2) (by simp)
            have g3 : y.cell? ⟨zg, 3, none⟩ = some (.slice A l.length c) := rG.cell (j := 3) (by simp)
            go_wp2_with fail
            exact hK.out _ _ ⟨hI.bl, fun _ => rfl, hI.v1, hI.v2, hI.v3, hI.v4, hI.v5, hI.v6, hI.v7, hI.v8, hI.v9, hI.v10, hI.v11, hI.v12, hI.v13, hI.v14, hI.v15, hI.v16, hI.v17, hI.v18, hI.v19, hI.v20, hI.v21⟩
          case sz1 =>
            intro xs done y hI hd0 hup hdn K hK
            refine wpOp_go (o := ⟨some 28, _, _, _, _, _⟩) rfl rfl ?_
            have e0 := hI.v0 (hdn 0 (by kernel_rfl))
            simp only [putsF, List.foldl_cons, List.foldl_nil, Act.put, List.setIfInBounds_toArray, List.set_cons_zero, List.set_cons_succ] at hK ⊢
            simp only [e0] at hK ⊢
            have rG := HGZ.out.below hI.bl HGZ.out.lt
            have lG := rG.lt
            have g0 : y.cell? ⟨zg, 0, none⟩ = some (.slice R.A1 k.rules.length R.c1) := rG.cell (j := 0) (by simp)
            have g1 : y.cell? ⟨zg, 1, none⟩ = some (.slice R.A2 k.ranks.length R.c2) := rG.cell (j := 1) (by simp)
            have g2 : y.cell? ⟨zg, 2, none⟩ = some (.slice R.A3 k.insured.length R.c3) := rG.cell (j := 2) (by simp)
            have g3 : y.cell? ⟨zg, 3, none⟩ = some (.slice A l.length c) := rG.cell (j := 3) (by simp)
            go_wp2_with fail
            exact hK.out _ _ ⟨hI.bl, hI.v0, fun _ => rfl, hI.v2, hI.v3, hI.v4, hI.v5, hI.v6, hI.v7, hI.v8, hI.v9, hI.v10, hI.v11, hI.v12, hI.v13, hI.v14, hI.v15, hI.v16, hI.v17, hI.v18, hI.v19, hI.v20, hI.v21⟩
          case sz2 =>
            intro xs done y hI hd0 hup hdn K hK
            refine wpOp_go (o := ⟨some 29, _, _, _, _, _⟩) rfl rfl ?_
            simp only [putsF, List.foldl_cons, List.foldl_nil, Act.put, List.setIfInBounds_toArray, List.set_cons_zero, List.set_cons_succ] at hK ⊢
            have rE := HEZ.out.below hI.bl HEZ.out.lt
            have lE := rE.lt
            have f2 : y.cell? ⟨ze, 2, none⟩ = some (.int .i64 (i : Int)) := rE.cell (j := 2) (by simp)
            have f3 : y.cell? ⟨ze, 3, none⟩ = some (.int .i64 x.b) := rE.cell (j := 3) (by simp)
            have f4 : y.cell? ⟨ze, 4, none⟩ = some (.int .i64 x.c) := rE.cell (j := 4) (by simp)
            go_wp2_with fail
            exact hK.out _ _ ⟨hI.bl, hI.v0, hI.v1, fun _ => rfl, hI.v3, hI.v4, hI.v5, hI.v6, hI.v7, hI.v8, hI.v9, hI.v10, hI.v11, hI.v12, hI.v13, hI.v14, hI.v15, hI.v16, hI.v17, hI.v18, hI.v19, hI.v20, hI.v21⟩
          case sz3 =>
            intro xs done y hI hd0 hup hdn K hK
            refine wpOp_go (o := ⟨some 30, _, _, _, _, _⟩) rfl rfl ?_
            have e2 := hI.v2 (hdn 2 (by kernel_rfl))
            simp only [putsF, List.foldl_cons, List.foldl_nil, Act.put, List.setIfInBounds_toArray, List.set_cons_zero, List.set_cons_succ] at hK ⊢
            simp only [e2] at hK ⊢
            have rE := HEZ.out.below hI.bl HEZ.out.lt
            have lE := rE.lt
            have f2 : y.cell? ⟨ze, 2, none⟩ = some (.int .i64 (i : Int)) := rE.cell (j := 2) (by simp)
            have f3 : y.cell? ⟨ze, 3, none⟩ = some (.int .i64 x.b) := rE.cell (j := 3) (by simp)
            have f4 : y.cell? ⟨ze, 4, none⟩ = some (.int .i64 x.c) := rE.cell (j := 4) (by simp)
            go_wp2_with fail
            exact hK.out _ _ ⟨hI.bl, hI.v0, hI.v1, hI.v2, fun _ => rfl, hI.v4, hI.v5, hI.v6, hI.v7, hI.v8, hI.v9, hI.v10, hI.v11, hI.v12, hI.v13, hI.v14, hI.v15, hI.v16, hI.v17, hI.v18, hI.v19, hI.v20, hI.v21⟩
          case sz4 =>
            intro xs done y hI hd0 hup hdn K hK
            refine wpOp_go (o := ⟨some 31, _, _, _, _, _⟩) rfl rfl ?_
            have e1 := hI.v1 (hdn 1 (by kernel_rfl))
            have e3 := hI.v3 (hdn 3 (by kernel_rfl))
            simp only [putsF, List.foldl_cons, List.foldl_nil, Act.put, List.setIfInBounds_toArray, List.set_cons_zero, List.set_cons_succ] at hK ⊢
            simp only [e1, e3] at hK ⊢
            go_wp2_with (go_at_call 69; refine (HRu1.out y).mono ?_; rintro e z ⟨rfl, hb4⟩)
            exact hK.out _ _ ⟨(hI.bl.trans (hb4.mono hI.bl.size)), hI.v0, hI.v1, hI.v2, hI.v3, fun _ => rfl, hI.v5, hI.v6, hI.v7, hI.v8, hI.v9, hI.v10, hI.v11, hI.v12, hI.v13, hI.v14, hI.v15, hI.v16, hI.v17, hI.v18, hI.v19, hI.v20, hI.v21⟩
          case sz5 =>
            intro xs done y hI hd0 hup hdn K hK
            refine wpOp_go (o := ⟨some 32, _, _, _, _, _⟩) rfl rfl ?_
            have e4 := hI.v4 (hdn 4 (by kernel_rfl))
            simp only [putsF, List.foldl_cons, List.foldl_nil, Act.put, List.setIfInBounds_toArray, List.set_cons_zero, List.set_cons_succ] at hK ⊢
            simp only [e4] at hK ⊢
            go_wp2_with fail
            exact hK.out _ _ ⟨hI.bl, hI.v0, hI.v1, hI.v2, hI.v3, hI.v4, fun _ => rfl, hI.v6, hI.v7, hI.v8, hI.v9, hI.v10, hI.v11, hI.v12, hI.v13, hI.v14, hI.v15, hI.v16, hI.v17, hI.v18, hI.v19, hI.v20, hI.v21⟩
          case sz6 =>
            intro xs done y hI hd0 hup hdn K hK
            have e5 := hI.v5 (hdn 5 (by kernel_rfl))
            simp only [putsF, List.foldl_cons, List.foldl_nil, Act.put, List.setIfInBounds_toArray, List.set_cons_zero, List.set_cons_succ] at hK ⊢
            refine wpOp_run (o := ⟨some 33, _, _, _, _, _⟩) rfl rfl rfl (congrArg some e5) ?_
            simp only [e5] at hK ⊢
            have rG := HGZ.out.below hI.bl HGZ.out.lt
            have lG := rG.lt
            have g0 : y.cell? ⟨zg, 0, none⟩ = some (.slice R.A1 k.rules.length R.c1) := rG.cell (j := 0) (by simp)
            have g1 : y.cell? ⟨zg, 1, none⟩ = some (.slice R.A2 k.ranks.length R.c2) := rG.cell (j := 1) (by simp)
            have g2 : y.cell? ⟨zg, 2, none⟩ = some (.slice R.A3 k.insured.length R.c3) := rG.cell (j := 2) (by simp)
            have g3 : y.cell? ⟨zg, 3, none⟩ = some (.slice A l.length c) := rG.cell (j := 3) (by simp)
            go_wp2_with fail
            exact hK.out _ _ ⟨hI.bl, hI.v0, hI.v1, hI.v2, hI.v3, hI.v4, hI.v5, fun _ => rfl, hI.v7, hI.v8, hI.v9, hI.v10, hI.v11, hI.v12, hI.v13, hI.v14, hI.v15, hI.v16, hI.v17, hI.v18, hI.v19, hI.v20, hI.v21⟩
          case sz7 =>
            intro xs done y hI hd0 hup hdn K hK
            have e6 := hI.v6 (hdn 6 (by kernel_rfl))
            have e5 := hI.v5 (hdn 5 (by kernel_rfl))
            simp only [putsF, List.foldl_cons, List.foldl_nil, Act.put, List.setIfInBounds_toArray, List.set_cons_zero, List.set_cons_succ] at hK ⊢
            refine wpOp_run (o := ⟨some 34, _, _, _, _, _⟩) rfl rfl rfl (congrArg some e5) ?_
            simp only [e6, e5] at hK ⊢
            have rG := HGZ.out.below hI.bl HGZ.out.lt
            have lG := rG.lt
            have g0 : y.cell? ⟨zg, 0, none⟩ = some (.slice R.A1 k.rules.length R.c1) := rG.cell (j := 0) (by simp)
            have g1 : y.cell? ⟨zg, 1, none⟩ = some (.slice R.A2 k.ranks.length R.c2) := rG.cell (j := 1) (by simp)
            have g2 : y.cell? ⟨zg, 2, none⟩ = some (.slice R.A3 k.insured.length R.c3) := rG.cell (j := 2) (by simp)
            have g3 : y.cell? ⟨zg, 3, none⟩ = some (.slice A l.length c) := rG.cell (j := 3) (by simp)
            go_wp2_with fail
            exact hK.out _ _ ⟨hI.bl, hI.v0, hI.v1, hI.v2, hI.v3, hI.v4, hI.v5, hI.v6, fun _ => rfl, hI.v8, hI.v9, hI.v10, hI.v11, hI.v12, hI.v13, hI.v14, hI.v15, hI.v16, hI.v17, hI.v18, hI.v19, hI.v20, hI.v21⟩
          case sz8 =>
            intro xs done y hI hd0 hup hdn K hK
            have e5 := hI.v5 (hdn 5 (by kernel_rfl))
            simp only [putsF, List.foldl_cons, List.foldl_nil, Act.put, List.setIfInBounds_toArray, List.set_cons_zero, List.set_cons_succ] at hK ⊢
            refine wpOp_run (o := ⟨some 35, _, _, _, _, _⟩) rfl rfl rfl (congrArg some e5) ?_
            simp only [e5] at hK ⊢
            have rG := HGZ.out.below hI.bl HGZ.out.lt
            have lG := rG.lt
            have g0 : y.cell? ⟨zg, 0, none⟩ = some (.slice R.A1 k.rules.length R.c1) := rG.cell (j := 0) (by simp)
            have g1 : y.cell? ⟨zg, 1, none⟩ = some (.slice R.A2 k.ranks.length R.c2) := rG.cell (j := 1) (by simp)
            have g2 : y.cell? ⟨zg, 2, none⟩ = some (.slice R.A3 k.insured.length R.c3) := rG.cell (j := 2) (by simp)
            have g3 : y.cell? ⟨zg, 3, none⟩ = some (.slice A l.length c) := rG.cell (j := 3) (by simp)
            go_wp2_with fail
            exact hK.out _ _ ⟨hI.bl, hI.v0, hI.v1, hI.v2, hI.v3, hI.v4, hI.v5, hI.v6, hI.v7, fun _ => rfl, hI.v9, hI.v10, hI.v11, hI.v12, hI.v13, hI.v14, hI.v15, hI.v16, hI.v17, hI.v18, hI.v19, hI.v20, hI.v21⟩
          case sz9 =>
            intro xs done y hI hd0 hup hdn K hK
            have e8 := hI.v8 (hdn 8 (by kernel_rfl))
            have e5 := hI.v5 (hdn 5 (by kernel_rfl))
            simp only [putsF, List.foldl_cons, List.foldl_nil, Act.put, List.setIfInBounds_toArray, List.set_cons_zero, List.set_cons_succ] at hK ⊢
            refine wpOp_run (o := ⟨some 36, _, _, _, _, _⟩) rfl rfl rfl (congrArg some e5) ?_
            simp only [e8, e5] at hK ⊢
            have rG := HGZ.out.below hI.bl HGZ.out.lt
            have lG := rG.lt
            have g0 : y.cell? ⟨zg, 0, none⟩ = some (.slice R.A1 k.rules.length R.c1) := rG.cell (j := 0) (by simp)
            have g1 : y.cell? ⟨zg, 1, none⟩ = some (.slice R.A2 k.ranks.length R.c2) := rG.cell (j := 1) (by simp)
            have g2 : y.cell? ⟨zg, 2, none⟩ = some (.slice R.A3 k.insured.length R.c3) := rG.cell (j := 2) (by simp)
            have g3 : y.cell? ⟨zg, 3, none⟩ = some (.slice A l.length c) := rG.cell (j := 3) (by simp)
            go_wp2_with fail
            exact hK.out _ _ ⟨hI.bl, hI.v0, hI.v1, hI.v2, hI.v3, hI.v4, hI.v5, hI.v6, hI.v7, hI.v8, fun _ => rfl, hI.v10, hI.v11, hI.v12, hI.v13, hI.v14, hI.v15, hI.v16, hI.v17, hI.v18, hI.v19, hI.v20, hI.v21⟩
          case sz10 =>
            intro xs done y hI hd0 hup hdn K hK
            have e9 := hI.v9 (hdn 9 (by kernel_rfl))
            have e5 := hI.v5 (hdn 5 (by kernel_rfl))
            simp only [putsF, List.foldl_cons, List.foldl_nil, Act.put, List.setIfInBounds_toArray, List.set_cons_zero, List.set_cons_succ] at hK ⊢
            refine wpOp_run (o := ⟨some 37, _, _, _, _, _⟩) rfl rfl rfl (congrArg some e5) ?_
            simp only [e9, e5] at hK ⊢
            have rG := HGZ.out.below hI.bl HGZ.out.lt
            have lG := rG.lt
            have g0 : y.cell? ⟨zg, 0, none⟩ = some (.slice R.A1 k.rules.length R.c1) := rG.cell (j := 0) (by simp)
            have g1 : y.cell? ⟨zg, 1, none⟩ = some (.slice R.A2 k.ranks.length R.c2) := rG.cell (j := 1) (by simp)
            have g2 : y.cell? ⟨zg, 2, none⟩ = some (.slice R.A3 k.insured.length R.c3) := rG.cell (j := 2) (by simp)
            have g3 : y.cell? ⟨zg, 3, none⟩ = some (.slice A l.length c) := rG.cell (j := 3) (by simp)
            go_wp2_with fail
            exact hK.out _ _ ⟨hI.bl, hI.v0, hI.v1, hI.v2, hI.v3, hI.v4, hI.v5, hI.v6, hI.v7, hI.v8, hI.v9, fun _ => rfl, hI.v11, hI.v12, hI.v13, hI.v14, hI.v15, hI.v16, hI.v17, hI.v18, hI.v19, hI.v20, hI.v21⟩
          case sz11 =>
            intro xs done y hI hd0 hup hdn K hK
            have e5 := hI.v5 (hdn 5 (by kernel_rfl))
            simp only [putsF, List.foldl_cons, List.foldl_nil, Act.put, List.setIfInBounds_toArray, List.set_cons_zero, List.set_cons_succ] at hK ⊢
            refine wpOp_run (o := ⟨some 38, _, _, _, _, _⟩) rfl rfl rfl (congrArg some e5) ?_
            simp only [e5] at hK ⊢
            have rE := HEZ.out.below hI.bl HEZ.out.lt
            have lE := rE.lt
            have f2 : y.cell? ⟨ze, 2, none⟩ = some (.int .i64 (i : Int)) := rE.cell (j := 2) (by simp)
            have f3 : y.cell? ⟨ze, 3, none⟩ = some (.int .i64 x.b) := rE.cell (j := 3) (by simp)
            have f4 : y.cell? ⟨ze, 4, none⟩ = some (.int .i64 x.c) := rE.cell (j := 4) (by simp)
            go_wp2_with fail
            exact hK.out _ _ ⟨hI.bl, hI.v0, hI.v1, hI.v2, hI.v3, hI.v4, hI.v5, hI.v6, hI.v7, hI.v8, hI.v9, hI.v10, fun _ => rfl, hI.v12, hI.v13, hI.v14, hI.v15, hI.v16, hI.v17, hI.v18, hI.v19, hI.v20, hI.v21⟩
          case sz12 =>
            intro xs done y hI hd0 hup hdn K hK
            have e11 := hI.v11 (hdn 11 (by kernel_rfl))
            have e5 := hI.v5 (hdn 5 (by kernel_rfl))
            simp only [putsF, List.foldl_cons, List.foldl_nil, Act.put, List.setIfInBounds_toArray, List.set_cons_zero, List.set_cons_succ] at hK ⊢
            refine wpOp_run (o := ⟨some 39, _, _, _, _, _⟩) rfl rfl rfl (congrArg some e5) ?_
            simp only [e11, e5] at hK ⊢
            have rE := HEZ.out.below hI.bl HEZ.out.lt
            have lE := rE.lt
            have f2 : y.cell? ⟨ze, 2, none⟩ = some (.int .i64 (i : Int)) := rE.cell (j := 2) (by simp)
            have f3 : y.cell? ⟨ze, 3, none⟩ = some (.int .i64 x.b) := rE.cell (j := 3) (by simp)
            have f4 : y.cell? ⟨ze, 4, none⟩ = some (.int .i64 x.c) := rE.cell (j := 4) (by simp)
            go_wp2_with fail
            exact hK.out _ _ ⟨hI.bl, hI.v0, hI.v1, hI.v2, hI.v3, hI.v4, hI.v5, hI.v6, hI.v7, hI.v8, hI.v9, hI.v10, hI.v11, fun _ => rfl, hI.v13, hI.v14, hI.v15, hI.v16, hI.v17, hI.v18, hI.v19, hI.v20, hI.v21⟩
          case sz13 =>
            intro xs done y hI hd0 hup hdn K hK
            have e10 := hI.v10 (hdn 10 (by kernel_rfl))
            have e12 := hI.v12 (hdn 12 (by kernel_rfl))
            have e5 := hI.v5 (hdn 5 (by kernel_rfl))
            simp only [putsF, List.foldl_cons, List.foldl_nil, Act.put, List.setIfInBounds_toArray, List.set_cons_zero, List.set_cons_succ] at hK ⊢
            refine wpOp_run (o := ⟨some 40, _, _, _, _, _⟩) rfl rfl rfl (congrArg some e5) ?_
            simp only [e10, e12, e5, HA.out] at hK ⊢
            have ly : b < y.heap.size := Nat.lt_of_lt_of_le HLb.out hI.bl.size
            go_wp2_with fail
            exact hK.out _ _ ⟨hI.bl, hI.v0, hI.v1, hI.v2, hI.v3, hI.v4, hI.v5, hI.v6, hI.v7, hI.v8, hI.v9, hI.v10, hI.v11, hI.v12, fun _ => rfl, hI.v14, hI.v15, hI.v16, hI.v17, hI.v18, hI.v19, hI.v20, hI.v21⟩
          case sz14 =>
            intro xs done y hI hd0 hup hdn K hK
            have e13 := hI.v13 (hdn 13 (by kernel_rfl))
            have e5 := hI.v5 (hdn 5 (by kernel_rfl))
            simp only [putsF, List.foldl_cons, List.foldl_nil, Act.put, List.setIfInBounds_toArray, List.set_cons_zero, List.set_cons_succ] at hK ⊢
            refine wpOp_run (o := ⟨some 41, _, _, _, _, _⟩) rfl rfl rfl (congrArg some e5) ?_
            simp only [e13, e5] at hK ⊢
            have ly : b < y.heap.size := Nat.lt_of_lt_of_le HLb.out hI.bl.size
            have y0 : y.cell? ⟨b, o + i * 4, none⟩ = some (.int .i64 u.ride) := by rw [hI.bl.cell (p := ⟨b, o + i * 4, none⟩) HLb.out]; exact Q0.out
            have y1 : y.cell? ⟨b, o + i * 4 + 1, none⟩ = some (.int .i64 u.every) := by rw [hI.bl.cell (p := ⟨b, o + i * 4 + 1, none⟩) HLb.out]; exact Q1.out
            have y2 : y.cell? ⟨b, o + i * 4 + 2, none⟩ = some (.int .i64 u.rank) := by rw [hI.bl.cell (p := ⟨b, o + i * 4 + 2, none⟩) HLb.out]; exact Q2.out
            have y3 : y.cell? ⟨b, o + i * 4 + 3, none⟩ = some (.bool u.two) := by rw [hI.bl.cell (p := ⟨b, o + i * 4 + 3, none⟩) HLb.out]; exact Q3.out
            go_wp2_with fail
            exact hK.out _ _ ⟨hI.bl, hI.v0, hI.v1, hI.v2, hI.v3, hI.v4, hI.v5, hI.v6, hI.v7, hI.v8, hI.v9, hI.v10, hI.v11, hI.v12, hI.v13, fun _ => rfl, hI.v15, hI.v16, hI.v17, hI.v18, hI.v19, hI.v20, hI.v21⟩
          case sz15 =>
            intro xs done y hI hd0 hup hdn K hK
            have e5 := hI.v5 (hdn 5 (by kernel_rfl))
            simp only [putsF, List.foldl_cons, List.foldl_nil, Act.put, List.setIfInBounds_toArray, List.set_cons_zero, List.set_cons_succ] at hK ⊢
            refine wpOp_run (o := ⟨some 42, _, _, _, _, _⟩) rfl rfl rfl (congrArg some e5) ?_
            simp only [e5] at hK ⊢
            have rE := HEZ.out.below hI.bl HEZ.out.lt
            have lE := rE.lt
            have f2 : y.cell? ⟨ze, 2, none⟩ = some (.int .i64 (i : Int)) := rE.cell (j := 2) (by simp)
            have f3 : y.cell? ⟨ze, 3, none⟩ = some (.int .i64 x.b) := rE.cell (j := 3) (by simp)
            have f4 : y.cell? ⟨ze, 4, none⟩ = some (.int .i64 x.c) := rE.cell (j := 4) (by simp)
            go_wp2_with fail
            exact hK.out _ _ ⟨hI.bl, hI.v0, hI.v1, hI.v2, hI.v3, hI.v4, hI.v5, hI.v6, hI.v7, hI.v8, hI.v9, hI.v10, hI.v11, hI.v12, hI.v13, hI.v14, fun _ => rfl, hI.v16, hI.v17, hI.v18, hI.v19, hI.v20, hI.v21⟩
          case sz16 =>
            intro xs done y hI hd0 hup hdn K hK
            have e15 := hI.v15 (hdn 15 (by kernel_rfl))
            have e5 := hI.v5 (hdn 5 (by kernel_rfl))
            simp only [putsF, List.foldl_cons, List.foldl_nil, Act.put, List.setIfInBounds_toArray, List.set_cons_zero, List.set_cons_succ] at hK ⊢
            refine wpOp_run (o := ⟨some 43, _, _, _, _, _⟩) rfl rfl rfl (congrArg some e5) ?_
            simp only [e15, e5] at hK ⊢
            have rE := HEZ.out.below hI.bl HEZ.out.lt
            have lE := rE.lt
            have f2 : y.cell? ⟨ze, 2, none⟩ = some (.int .i64 (i : Int)) := rE.cell (j := 2) (by simp)
            have f3 : y.cell? ⟨ze, 3, none⟩ = some (.int .i64 x.b) := rE.cell (j := 3) (by simp)
            have f4 : y.cell? ⟨ze, 4, none⟩ = some (.int .i64 x.c) := rE.cell (j := 4) (by simp)
            go_wp2_with fail
            exact hK.out _ _ ⟨hI.bl, hI.v0, hI.v1, hI.v2, hI.v3, hI.v4, hI.v5, hI.v6, hI.v7, hI.v8, hI.v9, hI.v10, hI.v11, hI.v12, hI.v13, hI.v14, hI.v15, fun _ => rfl, hI.v17, hI.v18, hI.v19, hI.v20, hI.v21⟩
          case sz17 =>
            intro xs done y hI hd0 hup hdn K hK
            have e5 := hI.v5 (hdn 5 (by kernel_rfl))
            simp only [putsF, List.foldl_cons, List.foldl_nil, Act.put, List.setIfInBounds_toArray, List.set_cons_zero, List.set_cons_succ] at hK ⊢
            refine wpOp_run (o := ⟨some 44, _, _, _, _, _⟩) rfl rfl rfl (congrArg some e5) ?_
            simp only [e5] at hK ⊢
            have rE := HEZ.out.below hI.bl HEZ.out.lt
            have lE := rE.lt
            have f2 : y.cell? ⟨ze, 2, none⟩ = some (.int .i64 (i : Int)) := rE.cell (j := 2) (by simp)
            have f3 : y.cell? ⟨ze, 3, none⟩ = some (.int .i64 x.b) := rE.cell (j := 3) (by simp)
            have f4 : y.cell? ⟨ze, 4, none⟩ = some (.int .i64 x.c) := rE.cell (j := 4) (by simp)
            go_wp2_with fail
            exact hK.out _ _ ⟨hI.bl, hI.v0, hI.v1, hI.v2, hI.v3, hI.v4, hI.v5, hI.v6, hI.v7, hI.v8, hI.v9, hI.v10, hI.v11, hI.v12, hI.v13, hI.v14, hI.v15, hI.v16, fun _ => rfl, hI.v18, hI.v19, hI.v20, hI.v21⟩
          case sz18 =>
            intro xs done y hI hd0 hup hdn K hK
            have e17 := hI.v17 (hdn 17 (by kernel_rfl))
            have e5 := hI.v5 (hdn 5 (by kernel_rfl))
            simp only [putsF, List.foldl_cons, List.foldl_nil, Act.put, List.setIfInBounds_toArray, List.set_cons_zero, List.set_cons_succ] at hK ⊢
            refine wpOp_run (o := ⟨some 45, _, _, _, _, _⟩) rfl rfl rfl (congrArg some e5) ?_
            simp only [e17, e5] at hK ⊢
            have rE := HEZ.out.below hI.bl HEZ.out.lt
            have lE := rE.lt
            have f2 : y.cell? ⟨ze, 2, none⟩ = some (.int .i64 (i : Int)) := rE.cell (j := 2) (by simp)
            have f3 : y.cell? ⟨ze, 3, none⟩ = some (.int .i64 x.b) := rE.cell (j := 3) (by simp)
            have f4 : y.cell? ⟨ze, 4, none⟩ = some (.int .i64 x.c) := rE.cell (j := 4) (by simp)
            go_wp2_with fail
            exact hK.out _ _ ⟨hI.bl, hI.v0, hI.v1, hI.v2, hI.v3, hI.v4, hI.v5, hI.v6, hI.v7, hI.v8, hI.v9, hI.v10, hI.v11, hI.v12, hI.v13, hI.v14, hI.v15, hI.v16, hI.v17, fun _ => rfl, hI.v19, hI.v20, hI.v21⟩
          case sz19 =>
            intro xs done y hI hd0 hup hdn K hK
            have e7 := hI.v7 (hdn 7 (by kernel_rfl))
            have e14 := hI.v14 (hdn 14 (by kernel_rfl))
            have e16 := hI.v16 (hdn 16 (by kernel_rfl))
            have e18 := hI.v18 (hdn 18 (by kernel_rfl))
            have e5 := hI.v5 (hdn 5 (by kernel_rfl))
            simp only [putsF, List.foldl_cons, List.foldl_nil, Act.put, List.setIfInBounds_toArray, List.set_cons_zero, List.set_cons_succ] at hK ⊢
            refine wpOp_run (o := ⟨some 46, _, _, _, _, _⟩) rfl rfl rfl (congrArg some e5) ?_
            simp only [e7, e14, e16, e18, e5] at hK ⊢
            have hq := HSi2.out y (BZ.out.trans (hI.bl.mono BZ.out.size))
            go_wp2_with (go_at_call 85; refine hq.mono ?_; rintro e z ⟨rfl, hb4⟩)
            exact hK.out _ _ ⟨(hI.bl.trans (hb4.mono hI.bl.size)), hI.v0, hI.v1, hI.v2, hI.v3, hI.v4, hI.v5, hI.v6, hI.v7, hI.v8, hI.v9, hI.v10, hI.v11, hI.v12, hI.v13, hI.v14, hI.v15, hI.v16, hI.v17, hI.v18, fun _ => rfl, hI.v20, hI.v21⟩
          case sz20 =>
            intro xs done y hI hd0 hup hdn K hK
            refine wpOp_go (o := ⟨some 47, _, _, _, _, _⟩) rfl rfl ?_
            have e5 := hI.v5 (hdn 5 (by kernel_rfl))
            have e19 := hI.v19 (hdn 19 (by kernel_rfl))
            simp only [putsF, List.foldl_cons, List.foldl_nil, Act.put, List.setIfInBounds_toArray, List.set_cons_zero, List.set_cons_succ] at hK ⊢
            simp only [e5, e19] at hK ⊢
            go_wp2_with fail
            exact hK.out _ _ ⟨hI.bl, hI.v0, hI.v1, hI.v2, hI.v3, hI.v4, hI.v5, hI.v6, hI.v7, hI.v8, hI.v9, hI.v10, hI.v11, hI.v12, hI.v13, hI.v14, hI.v15, hI.v16, hI.v17, hI.v18, hI.v19, fun _ => rfl, hI.v21⟩
          case sz21 =>
            intro xs done y hI hd0 hup hdn K hK
            refine wpOp_go (o := ⟨some 4, _, _, _, _, _⟩) rfl rfl ?_
            have e20 := hI.v20 (hdn 20 (by kernel_rfl))
            simp only [putsF, List.foldl_cons, List.foldl_nil, Act.put, List.setIfInBounds_toArray, List.set_cons_zero, List.set_cons_succ] at hK ⊢
            simp only [e20] at hK ⊢
            go_wp2_with fail
            exact hK.out _ _ ⟨hI.bl, hI.v0, hI.v1, hI.v2, hI.v3, hI.v4, hI.v5, hI.v6, hI.v7, hI.v8, hI.v9, hI.v10, hI.v11, hI.v12, hI.v13, hI.v14, hI.v15, hI.v16, hI.v17, hI.v18, hI.v19, hI.v20, fun _ => rfl⟩
          case finz =>
            intro xs done y hI hd
            have hb6 := hI.bl
            have e21 := hI.v21 (hd 21 (by decide))
            simp only [putsF, List.foldl_cons, List.foldl_nil, Act.put, List.setIfInBounds_toArray, List.set_cons_zero, List.set_cons_succ]
            simp only [e21]
            have HB6 := Lib.hid (BZ.out.trans (hb6.mono BZ.out.size))
            clear hI hb6
            go_wp2_with fail
            go_ret
            exact ⟨ret_boolI HVv.out.symm, HB6.out⟩
      · skip
        by_cases hk2 : x.kind = 2
        · have HX : Hid (V = ((inB x.a 0 ((k.insured.length : Int) - 1) && inB x.b 1 3) && decide (x.c = 0))) := by show _ = _; rw [HV.out]; unfold kindB; rw [if_neg hk1, if_pos hk2]
          rw [hk2] at ecZ1
          have HEZ2 : Hid (Row Z ze 54 [.int .i64 x.day, .int .i64 2, .int .i64 x.a, .int .i64 x.b, .int .i64 x.c]) := by show Row _ _ _ _; rw [← hk2]; exact HEZ.out
          clear HEZ
          have HEZ := HEZ2
          clear HEZ2 HV hk1 hk2
          cases h1 : inB x.a 0 ((k.insured.length : Int) - 1) with
          | false =>
            have HVv : Hid (V = false) := HX.out.trans (by rw [h1]; rfl)
            have H1 := Lib.hid h1
            clear HX h1
            skip
            go_wp2_with (go_at_call 62; refine (HRi.out x.a Z).mono ?_; rintro e X1 ⟨rfl, hX1⟩; have BX1 := Lib.hid (BZ.out.trans (hX1.mono BZ.out.size)); rw [H1.out]; have gX1 := HGZ.out.below hX1 HGZ.out.lt; have eX1 := HEZ.out.below hX1 HEZ.out.lt; have gcX10 : X1.cell? ⟨zg, 0, none⟩ = some (.slice R.A1 k.rules.length R.c1) := gX1.cell (j := 0) (by simp); have gcX11 : X1.cell? ⟨zg, 1, none⟩ = some (.slice R.A2 k.ranks.length R.c2) := gX1.cell (j := 1) (by simp); have gcX12 : X1.cell? ⟨zg, 2, none⟩ = some (.slice R.A3 k.insured.length R.c3) := gX1.cell (j := 2) (by simp); have gcX13 : X1.cell? ⟨zg, 3, none⟩ = some (.slice A l.length c) := gX1.cell (j := 3) (by simp); have ecX10 : X1.cell? ⟨ze, 0, none⟩ = some (.int .i64 x.day) := eX1.cell (j := 0) (by simp); have ecX11 : X1.cell? ⟨ze, 1, none⟩ = some (.int .i64 2) := eX1.cell (j := 1) (by simp); have ecX12 : X1.cell? ⟨ze, 2, none⟩ = some (.int .i64 x.a) := eX1.cell (j := 2) (by simp); have ecX13 : X1.cell? ⟨ze, 3, none⟩ = some (.int .i64 x.b) := eX1.cell (j := 3) (by simp); have ecX14 : X1.cell? ⟨ze, 4, none⟩ = some (.int .i64 x.c) := eX1.cell (j := 4) (by simp); have glX1 := gX1.lt; have elX1 := eX1.lt; have HGX1 := Lib.hid gX1; have HEX1 := Lib.hid eX1; clear gX1 eX1; clear hX1)
            go_ret
            exact ⟨ret_boolI HVv.out.symm, BX1.out⟩
          | true =>
            have H1 := Lib.hid h1
            cases h2 : inB x.b 1 3 with
            | false =>
              have HVv : Hid (V = false) := HX.out.trans (by rw [h1, h2]; rfl)
              have H2 := Lib.hid h2
              clear HX h1 h2
              go_wp2_with (first | (go_at_call 62; refine (HRi.out x.a Z).mono ?_; rintro e X1 ⟨rfl, hX1⟩; have BX1 := Lib.hid (BZ.out.trans (hX1.mono BZ.out.size)); rw [H1.out]; have gX1 := HGZ.out.below hX1 HGZ.out.lt; have eX1 := HEZ.out.below hX1 HEZ.out.lt; have gcX10 : X1.cell? ⟨zg, 0, none⟩ = some (.slice R.A1 k.rules.length R.c1) := gX1.cell (j := 0) (by simp); have gcX11 : X1.cell? ⟨zg, 1, none⟩ = some (.slice R.A2 k.ranks.length R.c2) := gX1.cell (j := 1) (by simp); have gcX12 : X1.cell? ⟨zg, 2, none⟩ = some (.slice R.A3 k.insured.length R.c3) := gX1.cell (j := 2) (by simp); have gcX13 : X1.cell? ⟨zg, 3, none⟩ = some (.slice A l.length c) := gX1.cell (j := 3) (by simp); have ecX10 : X1.cell? ⟨ze, 0, none⟩ = some (.int .i64 x.day) := eX1.cell (j := 0) (by simp); have ecX11 : X1.cell? ⟨ze, 1, none⟩ = some (.int .i64 2) := eX1.cell (j := 1) (by simp); have ecX12 : X1.cell? ⟨ze, 2, none⟩ = some (.int .i64 x.a) := eX1.cell (j := 2) (by simp); have ecX13 : X1.cell? ⟨ze, 3, none⟩ = some (.int .i64 x.b) := eX1.cell (j := 3) (by simp); have ecX14 : X1.cell? ⟨ze, 4, none⟩ = some (.int .i64 x.c) := eX1.cell (j := 4) (by simp); have glX1 := gX1.lt; have elX1 := eX1.lt; have HGX1 := Lib.hid gX1; have HEX1 := Lib.hid eX1; clear gX1 eX1; clear hX1) | (go_at_call 64; refine (HAl.out X1 _).mono ?_; rintro e X2 ⟨rfl, hE2⟩; have BX2 := Lib.hid (BX1.out.alloc BX1.out.size (.cells #[.int .i64 x.b] 3)); have gX2 := HGX1.out.alloc (.cells #[.int .i64 x.b] 3); have eX2 := HEX1.out.alloc (.cells #[.int .i64 x.b] 3); rw [← hE2] at BX2 gX2 eX2; rw [H2.out]; have gcX20 : X2.cell? ⟨zg, 0, none⟩ = some (.slice R.A1 k.rules.length R.c1) := gX2.cell (j := 0) (by simp); have gcX21 : X2.cell? ⟨zg, 1, none⟩ = some (.slice R.A2 k.ranks.length R.c2) := gX2.cell (j := 1) (by simp); have gcX22 : X2.cell? ⟨zg, 2, none⟩ = some (.slice R.A3 k.insured.length R.c3) := gX2.cell (j := 2) (by simp); have gcX23 : X2.cell? ⟨zg, 3, none⟩ = some (.slice A l.length c) := gX2.cell (j := 3) (by simp); have ecX20 : X2.cell? ⟨ze, 0, none⟩ = some (.int .i64 x.day) := eX2.cell (j := 0) (by simp); have ecX21 : X2.cell? ⟨ze, 1, none⟩ = some (.int .i64 2) := eX2.cell (j := 1) (by simp); have ecX22 : X2.cell? ⟨ze, 2, none⟩ = some (.int .i64 x.a) := eX2.cell (j := 2) (by simp); have ecX23 : X2.cell? ⟨ze, 3, none⟩ = some (.int .i64 x.b) := eX2.cell (j := 3) (by simp); have ecX24 : X2.cell? ⟨ze, 4, none⟩ = some (.int .i64 x.c) := eX2.cell (j := 4) (by simp); have glX2 := gX2.lt; have elX2 := eX2.lt; have HGX2 := Lib.hid gX2; have HEX2 := Lib.hid eX2; clear gX2 eX2; clear hE2))
              go_ret
              exact ⟨ret_boolI HVv.out.symm, BX2.out⟩
            | true =>
              have HVv : Hid (V = decide (x.c = 0)) := HX.out.trans (by rw [h1, h2]; rfl)
              have H2 := Lib.hid h2
              clear HX h1 h2
              go_wp2_with (first | (go_at_call 62; refine (HRi.out x.a Z).mono ?_; rintro e X1 ⟨rfl, hX1⟩; have BX1 := Lib.hid (BZ.out.trans (hX1.mono BZ.out.size)); rw [H1.out]; have gX1 := HGZ.out.below hX1 HGZ.out.lt; have eX1 := HEZ.out.below hX1 HEZ.out.lt; have gcX10 : X1.cell? ⟨zg, 0, none⟩ = some (.slice R.A1 k.rules.length R.c1) := gX1.cell (j := 0) (by simp); have gcX11 : X1.cell? ⟨zg, 1, none⟩ = some (.slice R.A2 k.ranks.length R.c2) := gX1.cell (j := 1) (by simp); have gcX12 : X1.cell? ⟨zg, 2, none⟩ = some (.slice R.A3 k.insured.length R.c3) := gX1.cell (j := 2) (by simp); have gcX13 : X1.cell? ⟨zg, 3, none⟩ = some (.slice A l.length c) := gX1.cell (j := 3) (by simp); have ecX10 : X1.cell? ⟨ze, 0, none⟩ = some (.int .i64 x.day) := eX1.cell (j := 0) (by simp); have ecX11 : X1.cell? ⟨ze, 1, none⟩ = some (.int .i64 2) := eX1.cell (j := 1) (by simp); have ecX12 : X1.cell? ⟨ze, 2, none⟩ = some (.int .i64 x.a) := eX1.cell (j := 2) (by simp); have ecX13 : X1.cell? ⟨ze, 3, none⟩ = some (.int .i64 x.b) := eX1.cell (j := 3) (by simp); have ecX14 : X1.cell? ⟨ze, 4, none⟩ = some (.int .i64 x.c) := eX1.cell (j := 4) (by simp); have glX1 := gX1.lt; have elX1 := eX1.lt; have HGX1 := Lib.hid gX1; have HEX1 := Lib.hid eX1; clear gX1 eX1; clear hX1) | (go_at_call 64; refine (HAl.out X1 _).mono ?_; rintro e X2 ⟨rfl, hE2⟩; have BX2 := Lib.hid (BX1.out.alloc BX1.out.size (.cells #[.int .i64 x.b] 3)); have gX2 := HGX1.out.alloc (.cells #[.int .i64 x.b] 3); have eX2 := HEX1.out.alloc (.cells #[.int .i64 x.b] 3); rw [← hE2] at BX2 gX2 eX2; rw [H2.out]; have gcX20 : X2.cell? ⟨zg, 0, none⟩ = some (.slice R.A1 k.rules.length R.c1) := gX2.cell (j := 0) (by simp); have gcX21 : X2.cell? ⟨zg, 1, none⟩ = some (.slice R.A2 k.ranks.length R.c2) := gX2.cell (j := 1) (by simp); have gcX22 : X2.cell? ⟨zg, 2, none⟩ = some (.slice R.A3 k.insured.length R.c3) := gX2.cell (j := 2) (by simp); have gcX23 : X2.cell? ⟨zg, 3, none⟩ = some (.slice A l.length c) := gX2.cell (j := 3) (by simp); have ecX20 : X2.cell? ⟨ze, 0, none⟩ = some (.int .i64 x.day) := eX2.cell (j := 0) (by simp); have ecX21 : X2.cell? ⟨ze, 1, none⟩ = some (.int .i64 2) := eX2.cell (j := 1) (by simp); have ecX22 : X2.cell? ⟨ze, 2, none⟩ = some (.int .i64 x.a) := eX2.cell (j := 2) (by simp); have ecX23 : X2.cell? ⟨ze, 3, none⟩ = some (.int .i64 x.b) := eX2.cell (j := 3) (by simp); have ecX24 : X2.cell? ⟨ze, 4, none⟩ = some (.int .i64 x.c) := eX2.cell (j := 4) (by simp); have glX2 := gX2.lt; have elX2 := eX2.lt; have HGX2 := Lib.hid gX2; have HEX2 := Lib.hid eX2; clear gX2 eX2; clear hE2))
              go_ret
              exact ⟨ret_boolI (Eq.trans (by rw [Bool.eq_iff_iff]; simp) HVv.out.symm), BX2.out⟩
        · skip
          by_cases hk3 : x.kind = 3
          · have HX : Hid (V = ((openS l x.a && inB x.b 0 ((k.ranks.length : Int) - 1)) && decide (x.c = 0))) := by show _ = _; rw [HV.out]; unfold kindB; rw [if_neg hk1, if_neg hk2, if_pos hk3]
            rw [hk3] at ecZ1
            have HEZ2 : Hid (Row Z ze 54 [.int .i64 x.day, .int .i64 3, .int .i64 x.a, .int .i64 x.b, .int .i64 x.c]) := by show Row _ _ _ _; rw [← hk3]; exact HEZ.out
            clear HEZ
            have HEZ := HEZ2
            clear HEZ2 HV hk1 hk2 hk3
            cases h1 : openS l x.a with
            | false =>
              have HVv : Hid (V = false) := HX.out.trans (by rw [h1]; rfl)
              have H1 := Lib.hid h1
              clear HX h1
              skip
              go_wp2_with (go_at_call 53; refine (HOp.out Z BZ.out).mono ?_; rintro e X1 ⟨rfl, hX1⟩; have BX1 := Lib.hid (BZ.out.trans (hX1.mono BZ.out.size)); rw [H1.out]; have gX1 := HGZ.out.below hX1 HGZ.out.lt; have eX1 := HEZ.out.below hX1 HEZ.out.lt; have gcX10 : X1.cell? ⟨zg, 0, none⟩ = some (.slice R.A1 k.rules.length R.c1) := gX1.cell (j := 0) (by simp); have gcX11 : X1.cell? ⟨zg, 1, none⟩ = some (.slice R.A2 k.ranks.length R.c2) := gX1.cell (j := 1) (by simp); have gcX12 : X1.cell? ⟨zg, 2, none⟩ = some (.slice R.A3 k.insured.length R.c3) := gX1.cell (j := 2) (by simp); have gcX13 : X1.cell? ⟨zg, 3, none⟩ = some (.slice A l.length c) := gX1.cell (j := 3) (by simp); have ecX10 : X1.cell? ⟨ze, 0, none⟩ = some (.int .i64 x.day) := eX1.cell (j := 0) (by simp); have ecX11 : X1.cell? ⟨ze, 1, none⟩ = some (.int .i64 3) := eX1.cell (j := 1) (by simp); have ecX12 : X1.cell? ⟨ze, 2, none⟩ = some (.int .i64 x.a) := eX1.cell (j := 2) (by simp); have ecX13 : X1.cell? ⟨ze, 3, none⟩ = some (.int .i64 x.b) := eX1.cell (j := 3) (by simp); have ecX14 : X1.cell? ⟨ze, 4, none⟩ = some (.int .i64 x.c) := eX1.cell (j := 4) (by simp); have glX1 := gX1.lt; have elX1 := eX1.lt; have HGX1 := Lib.hid gX1; have HEX1 := Lib.hid eX1; clear gX1 eX1; clear hX1)
              go_ret
              exact ⟨ret_boolI HVv.out.symm, BX1.out⟩
            | true =>
              have H1 := Lib.hid h1
              cases h2 : inB x.b 0 ((k.ranks.length : Int) - 1) with
              | false =>
                have HVv : Hid (V = false) := HX.out.trans (by rw [h1, h2]; rfl)
                have H2 := Lib.hid h2
                clear HX h1 h2
                go_wp2_with (first | (go_at_call 53; refine (HOp.out Z BZ.out).mono ?_; rintro e X1 ⟨rfl, hX1⟩; have BX1 := Lib.hid (BZ.out.trans (hX1.mono BZ.out.size)); rw [H1.out]; have gX1 := HGZ.out.below hX1 HGZ.out.lt; have eX1 := HEZ.out.below hX1 HEZ.out.lt; have gcX10 : X1.cell? ⟨zg, 0, none⟩ = some (.slice R.A1 k.rules.length R.c1) := gX1.cell (j := 0) (by simp); have gcX11 : X1.cell? ⟨zg, 1, none⟩ = some (.slice R.A2 k.ranks.length R.c2) := gX1.cell (j := 1) (by simp); have gcX12 : X1.cell? ⟨zg, 2, none⟩ = some (.slice R.A3 k.insured.length R.c3) := gX1.cell (j := 2) (by simp); have gcX13 : X1.cell? ⟨zg, 3, none⟩ = some (.slice A l.length c) := gX1.cell (j := 3) (by simp); have ecX10 : X1.cell? ⟨ze, 0, none⟩ = some (.int .i64 x.day) := eX1.cell (j := 0) (by simp); have ecX11 : X1.cell? ⟨ze, 1, none⟩ = some (.int .i64 3) := eX1.cell (j := 1) (by simp); have ecX12 : X1.cell? ⟨ze, 2, none⟩ = some (.int .i64 x.a) := eX1.cell (j := 2) (by simp); have ecX13 : X1.cell? ⟨ze, 3, none⟩ = some (.int .i64 x.b) := eX1.cell (j := 3) (by simp); have ecX14 : X1.cell? ⟨ze, 4, none⟩ = some (.int .i64 x.c) := eX1.cell (j := 4) (by simp); have glX1 := gX1.lt; have elX1 := eX1.lt; have HGX1 := Lib.hid gX1; have HEX1 := Lib.hid eX1; clear gX1 eX1; clear hX1) | (go_at_call 87; refine (HPe.out x.b X1).mono ?_; rintro e X2 ⟨rfl, hX2⟩; have BX2 := Lib.hid (BX1.out.trans (hX2.mono BX1.out.size)); rw [H2.out]; have gX2 := HGX1.out.below hX2 HGX1.out.lt; have eX2 := HEX1.out.below hX2 HEX1.out.lt; have gcX20 : X2.cell? ⟨zg, 0, none⟩ = some (.slice R.A1 k.rules.length R.c1) := gX2.cell (j := 0) (by simp); have gcX21 : X2.cell? ⟨zg, 1, none⟩ = some (.slice R.A2 k.ranks.length R.c2) := gX2.cell (j := 1) (by simp); have gcX22 : X2.cell? ⟨zg, 2, none⟩ = some (.slice R.A3 k.insured.length R.c3) := gX2.cell (j := 2) (by simp); have gcX23 : X2.cell? ⟨zg, 3, none⟩ = some (.slice A l.length c) := gX2.cell (j := 3) (by simp); have ecX20 : X2.cell? ⟨ze, 0, none⟩ = some (.int .i64 x.day) := eX2.cell (j := 0) (by simp); have ecX21 : X2.cell? ⟨ze, 1, none⟩ = some (.int .i64 3) := eX2.cell (j := 1) (by simp); have ecX22 : X2.cell? ⟨ze, 2, none⟩ = some (.int .i64 x.a) := eX2.cell (j := 2) (by simp); have ecX23 : X2.cell? ⟨ze, 3, none⟩ = some (.int .i64 x.b) := eX2.cell (j := 3) (by simp); have ecX24 : X2.cell? ⟨ze, 4, none⟩ = some (.int .i64 x.c) := eX2.cell (j := 4) (by simp); have glX2 := gX2.lt; have elX2 := eX2.lt; have HGX2 := Lib.hid gX2; have HEX2 := Lib.hid eX2; clear gX2 eX2; clear hX2))
                go_ret
                exact ⟨ret_boolI HVv.out.symm, BX2.out⟩
              | true =>
                have HVv : Hid (V = decide (x.c = 0)) := HX.out.trans (by rw [h1, h2]; rfl)
                have H2 := Lib.hid h2
                clear HX h1 h2
                go_wp2_with (first | (go_at_call 53; refine (HOp.out Z BZ.out).mono ?_; rintro e X1 ⟨rfl, hX1⟩; have BX1 := Lib.hid (BZ.out.trans (hX1.mono BZ.out.size)); rw [H1.out]; have gX1 := HGZ.out.below hX1 HGZ.out.lt; have eX1 := HEZ.out.below hX1 HEZ.out.lt; have gcX10 : X1.cell? ⟨zg, 0, none⟩ = some (.slice R.A1 k.rules.length R.c1) := gX1.cell (j := 0) (by simp); have gcX11 : X1.cell? ⟨zg, 1, none⟩ = some (.slice R.A2 k.ranks.length R.c2) := gX1.cell (j := 1) (by simp); have gcX12 : X1.cell? ⟨zg, 2, none⟩ = some (.slice R.A3 k.insured.length R.c3) := gX1.cell (j := 2) (by simp); have gcX13 : X1.cell? ⟨zg, 3, none⟩ = some (.slice A l.length c) := gX1.cell (j := 3) (by simp); have ecX10 : X1.cell? ⟨ze, 0, none⟩ = some (.int .i64 x.day) := eX1.cell (j := 0) (by simp); have ecX11 : X1.cell? ⟨ze, 1, none⟩ = some (.int .i64 3) := eX1.cell (j := 1) (by simp); have ecX12 : X1.cell? ⟨ze, 2, none⟩ = some (.int .i64 x.a) := eX1.cell (j := 2) (by simp); have ecX13 : X1.cell? ⟨ze, 3, none⟩ = some (.int .i64 x.b) := eX1.cell (j := 3) (by simp); have ecX14 : X1.cell? ⟨ze, 4, none⟩ = some (.int .i64 x.c) := eX1.cell (j := 4) (by simp); have glX1 := gX1.lt; have elX1 := eX1.lt; have HGX1 := Lib.hid gX1; have HEX1 := Lib.hid eX1; clear gX1 eX1; clear hX1) | (go_at_call 87; refine (HPe.out x.b X1).mono ?_; rintro e X2 ⟨rfl, hX2⟩; have BX2 := Lib.hid (BX1.out.trans (hX2.mono BX1.out.size)); rw [H2.out]; have gX2 := HGX1.out.below hX2 HGX1.out.lt; have eX2 := HEX1.out.below hX2 HEX1.out.lt; have gcX20 : X2.cell? ⟨zg, 0, none⟩ = some (.slice R.A1 k.rules.length R.c1) := gX2.cell (j := 0) (by simp); have gcX21 : X2.cell? ⟨zg, 1, none⟩ = some (.slice R.A2 k.ranks.length R.c2) := gX2.cell (j := 1) (by simp); have gcX22 : X2.cell? ⟨zg, 2, none⟩ = some (.slice R.A3 k.insured.length R.c3) := gX2.cell (j := 2) (by simp); have gcX23 : X2.cell? ⟨zg, 3, none⟩ = some (.slice A l.length c) := gX2.cell (j := 3) (by simp); have ecX20 : X2.cell? ⟨ze, 0, none⟩ = some (.int .i64 x.day) := eX2.cell (j := 0) (by simp); have ecX21 : X2.cell? ⟨ze, 1, none⟩ = some (.int .i64 3) := eX2.cell (j := 1) (by simp); have ecX22 : X2.cell? ⟨ze, 2, none⟩ = some (.int .i64 x.a) := eX2.cell (j := 2) (by simp); have ecX23 : X2.cell? ⟨ze, 3, none⟩ = some (.int .i64 x.b) := eX2.cell (j := 3) (by simp); have ecX24 : X2.cell? ⟨ze, 4, none⟩ = some (.int .i64 x.c) := eX2.cell (j := 4) (by simp); have glX2 := gX2.lt; have elX2 := eX2.lt; have HGX2 := Lib.hid gX2; have HEX2 := Lib.hid eX2; clear gX2 eX2; clear hX2))
                go_ret
                exact ⟨ret_boolI (Eq.trans (by rw [Bool.eq_iff_iff]; simp) HVv.out.symm), BX2.out⟩
          · skip
            by_cases hk4 : x.kind = 4
            · have HX : Hid (V = ((inB x.a 0 ((k.insured.length : Int) - 1) && inB x.b 0 ((k.ranks.length : Int) - 1)) && decide (x.c = 0))) := by show _ = _; rw [HV.out]; unfold kindB; rw [if_neg hk1, if_neg hk2, if_neg hk3, if_pos hk4]
              rw [hk4] at ecZ1
              have HEZ2 : Hid (Row Z ze 54 [.int .i64 x.day, .int .i64 4, .int .i64 x.a, .int .i64 x.b, .int .i64 x.c]) := by show Row _ _ _ _; rw [← hk4]; exact HEZ.out
              clear HEZ
              have HEZ := HEZ2
              clear HEZ2 HV hk1 hk2 hk3 hk4
              cases h1 : inB x.a 0 ((k.insured.length : Int) - 1) with
              | false =>
                have HVv : Hid (V = false) := HX.out.trans (by rw [h1]; rfl)
                have H1 := Lib.hid h1
                clear HX h1
                skip
                go_wp2_with (go_at_call 62; refine (HRi.out x.a Z).mono ?_; rintro e X1 ⟨rfl, hX1⟩; have BX1 := Lib.hid (BZ.out.trans (hX1.mono BZ.out.size)); rw [H1.out]; have gX1 := HGZ.out.below hX1 HGZ.out.lt; have eX1 := HEZ.out.below hX1 HEZ.out.lt; have gcX10 : X1.cell? ⟨zg, 0, none⟩ = some (.slice R.A1 k.rules.length R.c1) := gX1.cell (j := 0) (by simp); have gcX11 : X1.cell? ⟨zg, 1, none⟩ = some (.slice R.A2 k.ranks.length R.c2) := gX1.cell (j := 1) (by simp); have gcX12 : X1.cell? ⟨zg, 2, none⟩ = some (.slice R.A3 k.insured.length R.c3) := gX1.cell (j := 2) (by simp); have gcX13 : X1.cell? ⟨zg, 3, none⟩ = some (.slice A l.length c) := gX1.cell (j := 3) (by simp); have ecX10 : X1.cell? ⟨ze, 0, none⟩ = some (.int .i64 x.day) := eX1.cell (j := 0) (by simp); have ecX11 : X1.cell? ⟨ze, 1, none⟩ = some (.int .i64 4) := eX1.cell (j := 1) (by simp); have ecX12 : X1.cell? ⟨ze, 2, none⟩ = some (.int .i64 x.a) := eX1.cell (j := 2) (by simp); have ecX13 : X1.cell? ⟨ze, 3, none⟩ = some (.int .i64 x.b) := eX1.cell (j := 3) (by simp); have ecX14 : X1.cell? ⟨ze, 4, none⟩ = some (.int .i64 x.c) := eX1.cell (j := 4) (by simp); have glX1 := gX1.lt; have elX1 := eX1.lt; have HGX1 := Lib.hid gX1; have HEX1 := Lib.hid eX1; clear gX1 eX1; clear hX1)
                go_ret
                exact ⟨ret_boolI HVv.out.symm, BX1.out⟩
              | true =>
                have H1 := Lib.hid h1
                cases h2 : inB x.b 0 ((k.ranks.length : Int) - 1) with
                | false =>
                  have HVv : Hid (V = false) := HX.out.trans (by rw [h1, h2]; rfl)
                  have H2 := Lib.hid h2
                  clear HX h1 h2
                  go_wp2_with (first | (go_at_call 62; refine (HRi.out x.a Z).mono ?_; rintro e X1 ⟨rfl, hX1⟩; have BX1 := Lib.hid (BZ.out.trans (hX1.mono BZ.out.size)); rw [H1.out]; have gX1 := HGZ.out.below hX1 HGZ.out.lt; have eX1 := HEZ.out.below hX1 HEZ.out.lt; have gcX10 : X1.cell? ⟨zg, 0, none⟩ = some (.slice R.A1 k.rules.length R.c1) := gX1.cell (j := 0) (by simp); have gcX11 : X1.cell? ⟨zg, 1, none⟩ = some (.slice R.A2 k.ranks.length R.c2) := gX1.cell (j := 1) (by simp); have gcX12 : X1.cell? ⟨zg, 2, none⟩ = some (.slice R.A3 k.insured.length R.c3) := gX1.cell (j := 2) (by simp); have gcX13 : X1.cell? ⟨zg, 3, none⟩ = some (.slice A l.length c) := gX1.cell (j := 3) (by simp); have ecX10 : X1.cell? ⟨ze, 0, none⟩ = some (.int .i64 x.day) := eX1.cell (j := 0) (by simp); have ecX11 : X1.cell? ⟨ze, 1, none⟩ = some (.int .i64 4) := eX1.cell (j := 1) (by simp); have ecX12 : X1.cell? ⟨ze, 2, none⟩ = some (.int .i64 x.a) := eX1.cell (j := 2) (by simp); have ecX13 : X1.cell? ⟨ze, 3, none⟩ = some (.int .i64 x.b) := eX1.cell (j := 3) (by simp); have ecX14 : X1.cell? ⟨ze, 4, none⟩ = some (.int .i64 x.c) := eX1.cell (j := 4) (by simp); have glX1 := gX1.lt; have elX1 := eX1.lt; have HGX1 := Lib.hid gX1; have HEX1 := Lib.hid eX1; clear gX1 eX1; clear hX1) | (go_at_call 87; refine (HPe.out x.b X1).mono ?_; rintro e X2 ⟨rfl, hX2⟩; have BX2 := Lib.hid (BX1.out.trans (hX2.mono BX1.out.size)); rw [H2.out]; have gX2 := HGX1.out.below hX2 HGX1.out.lt; have eX2 := HEX1.out.below hX2 HEX1.out.lt; have gcX20 : X2.cell? ⟨zg, 0, none⟩ = some (.slice R.A1 k.rules.length R.c1) := gX2.cell (j := 0) (by simp); have gcX21 : X2.cell? ⟨zg, 1, none⟩ = some (.slice R.A2 k.ranks.length R.c2) := gX2.cell (j := 1) (by simp); have gcX22 : X2.cell? ⟨zg, 2, none⟩ = some (.slice R.A3 k.insured.length R.c3) := gX2.cell (j := 2) (by simp); have gcX23 : X2.cell? ⟨zg, 3, none⟩ = some (.slice A l.length c) := gX2.cell (j := 3) (by simp); have ecX20 : X2.cell? ⟨ze, 0, none⟩ = some (.int .i64 x.day) := eX2.cell (j := 0) (by simp); have ecX21 : X2.cell? ⟨ze, 1, none⟩ = some (.int .i64 4) := eX2.cell (j := 1) (by simp); have ecX22 : X2.cell? ⟨ze, 2, none⟩ = some (.int .i64 x.a) := eX2.cell (j := 2) (by simp); have ecX23 : X2.cell? ⟨ze, 3, none⟩ = some (.int .i64 x.b) := eX2.cell (j := 3) (by simp); have ecX24 : X2.cell? ⟨ze, 4, none⟩ = some (.int .i64 x.c) := eX2.cell (j := 4) (by simp); have glX2 := gX2.lt; have elX2 := eX2.lt; have HGX2 := Lib.hid gX2; have HEX2 := Lib.hid eX2; clear gX2 eX2; clear hX2))
                  go_ret
                  exact ⟨ret_boolI HVv.out.symm, BX2.out⟩
                | true =>
                  have HVv : Hid (V = decide (x.c = 0)) := HX.out.trans (by rw [h1, h2]; rfl)
                  have H2 := Lib.hid h2
                  clear HX h1 h2
                  go_wp2_with (first | (go_at_call 62; refine (HRi.out x.a Z).mono ?_; rintro e X1 ⟨rfl, hX1⟩; have BX1 := Lib.hid (BZ.out.trans (hX1.mono BZ.out.size)); rw [H1.out]; have gX1 := HGZ.out.below hX1 HGZ.out.lt; have eX1 := HEZ.out.below hX1 HEZ.out.lt; have gcX10 : X1.cell? ⟨zg, 0, none⟩ = some (.slice R.A1 k.rules.length R.c1) := gX1.cell (j := 0) (by simp); have gcX11 : X1.cell? ⟨zg, 1, none⟩ = some (.slice R.A2 k.ranks.length R.c2) := gX1.cell (j := 1) (by simp); have gcX12 : X1.cell? ⟨zg, 2, none⟩ = some (.slice R.A3 k.insured.length R.c3) := gX1.cell (j := 2) (by simp); have gcX13 : X1.cell? ⟨zg, 3, none⟩ = some (.slice A l.length c) := gX1.cell (j := 3) (by simp); have ecX10 : X1.cell? ⟨ze, 0, none⟩ = some (.int .i64 x.day) := eX1.cell (j := 0) (by simp); have ecX11 : X1.cell? ⟨ze, 1, none⟩ = some (.int .i64 4) := eX1.cell (j := 1) (by simp); have ecX12 : X1.cell? ⟨ze, 2, none⟩ = some (.int .i64 x.a) := eX1.cell (j := 2) (by simp); have ecX13 : X1.cell? ⟨ze, 3, none⟩ = some (.int .i64 x.b) := eX1.cell (j := 3) (by simp); have ecX14 : X1.cell? ⟨ze, 4, none⟩ = some (.int .i64 x.c) := eX1.cell (j := 4) (by simp); have glX1 := gX1.lt; have elX1 := eX1.lt; have HGX1 := Lib.hid gX1; have HEX1 := Lib.hid eX1; clear gX1 eX1; clear hX1) | (go_at_call 87; refine (HPe.out x.b X1).mono ?_; rintro e X2 ⟨rfl, hX2⟩; have BX2 := Lib.hid (BX1.out.trans (hX2.mono BX1.out.size)); rw [H2.out]; have gX2 := HGX1.out.below hX2 HGX1.out.lt; have eX2 := HEX1.out.below hX2 HEX1.out.lt; have gcX20 : X2.cell? ⟨zg, 0, none⟩ = some (.slice R.A1 k.rules.length R.c1) := gX2.cell (j := 0) (by simp); have gcX21 : X2.cell? ⟨zg, 1, none⟩ = some (.slice R.A2 k.ranks.length R.c2) := gX2.cell (j := 1) (by simp); have gcX22 : X2.cell? ⟨zg, 2, none⟩ = some (.slice R.A3 k.insured.length R.c3) := gX2.cell (j := 2) (by simp); have gcX23 : X2.cell? ⟨zg, 3, none⟩ = some (.slice A l.length c) := gX2.cell (j := 3) (by simp); have ecX20 : X2.cell? ⟨ze, 0, none⟩ = some (.int .i64 x.day) := eX2.cell (j := 0) (by simp); have ecX21 : X2.cell? ⟨ze, 1, none⟩ = some (.int .i64 4) := eX2.cell (j := 1) (by simp); have ecX22 : X2.cell? ⟨ze, 2, none⟩ = some (.int .i64 x.a) := eX2.cell (j := 2) (by simp); have ecX23 : X2.cell? ⟨ze, 3, none⟩ = some (.int .i64 x.b) := eX2.cell (j := 3) (by simp); have ecX24 : X2.cell? ⟨ze, 4, none⟩ = some (.int .i64 x.c) := eX2.cell (j := 4) (by simp); have glX2 := gX2.lt; have elX2 := eX2.lt; have HGX2 := Lib.hid gX2; have HEX2 := Lib.hid eX2; clear gX2 eX2; clear hX2))
                  go_ret
                  exact ⟨ret_boolI (Eq.trans (by rw [Bool.eq_iff_iff]; simp) HVv.out.symm), BX2.out⟩
            · skip
              by_cases hk5 : x.kind = 5
              · have HX : Hid (V = ((inB x.a 0 ((k.insured.length : Int) - 1) && inB x.b 0 10000) && decide (x.c = 0))) := by show _ = _; rw [HV.out]; unfold kindB; rw [if_neg hk1, if_neg hk2, if_neg hk3, if_neg hk4, if_pos hk5]
                rw [hk5] at ecZ1
                have HEZ2 : Hid (Row Z ze 54 [.int .i64 x.day, .int .i64 5, .int .i64 x.a, .int .i64 x.b, .int .i64 x.c]) := by show Row _ _ _ _; rw [← hk5]; exact HEZ.out
                clear HEZ
                have HEZ := HEZ2
                clear HEZ2 HV hk1 hk2 hk3 hk4 hk5
                cases h1 : inB x.a 0 ((k.insured.length : Int) - 1) with
                | false =>
                  have HVv : Hid (V = false) := HX.out.trans (by rw [h1]; rfl)
                  have H1 := Lib.hid h1
                  clear HX h1
                  skip
                  go_wp2_with (go_at_call 62; refine (HRi.out x.a Z).mono ?_; rintro e X1 ⟨rfl, hX1⟩; have BX1 := Lib.hid (BZ.out.trans (hX1.mono BZ.out.size)); rw [H1.out]; have gX1 := HGZ.out.below hX1 HGZ.out.lt; have eX1 := HEZ.out.below hX1 HEZ.out.lt; have gcX10 : X1.cell? ⟨zg, 0, none⟩ = some (.slice R.A1 k.rules.length R.c1) := gX1.cell (j := 0) (by simp); have gcX11 : X1.cell? ⟨zg, 1, none⟩ = some (.slice R.A2 k.ranks.length R.c2) := gX1.cell (j := 1) (by simp); have gcX12 : X1.cell? ⟨zg, 2, none⟩ = some (.slice R.A3 k.insured.length R.c3) := gX1.cell (j := 2) (by simp); have gcX13 : X1.cell? ⟨zg, 3, none⟩ = some (.slice A l.length c) := gX1.cell (j := 3) (by simp); have ecX10 : X1.cell? ⟨ze, 0, none⟩ = some (.int .i64 x.day) := eX1.cell (j := 0) (by simp); have ecX11 : X1.cell? ⟨ze, 1, none⟩ = some (.int .i64 5) := eX1.cell (j := 1) (by simp); have ecX12 : X1.cell? ⟨ze, 2, none⟩ = some (.int .i64 x.a) := eX1.cell (j := 2) (by simp); have ecX13 : X1.cell? ⟨ze, 3, none⟩ = some (.int .i64 x.b) := eX1.cell (j := 3) (by simp); have ecX14 : X1.cell? ⟨ze, 4, none⟩ = some (.int .i64 x.c) := eX1.cell (j := 4) (by simp); have glX1 := gX1.lt; have elX1 := eX1.lt; have HGX1 := Lib.hid gX1; have HEX1 := Lib.hid eX1; clear gX1 eX1; clear hX1)
                  go_ret
                  exact ⟨ret_boolI HVv.out.symm, BX1.out⟩
                | true =>
                  have H1 := Lib.hid h1
                  cases h2 : inB x.b 0 10000 with
                  | false =>
                    have HVv : Hid (V = false) := HX.out.trans (by rw [h1, h2]; rfl)
                    have H2 := Lib.hid h2
                    clear HX h1 h2
                    go_wp2_with (first | (go_at_call 62; refine (HRi.out x.a Z).mono ?_; rintro e X1 ⟨rfl, hX1⟩; have BX1 := Lib.hid (BZ.out.trans (hX1.mono BZ.out.size)); rw [H1.out]; have gX1 := HGZ.out.below hX1 HGZ.out.lt; have eX1 := HEZ.out.below hX1 HEZ.out.lt; have gcX10 : X1.cell? ⟨zg, 0, none⟩ = some (.slice R.A1 k.rules.length R.c1) := gX1.cell (j := 0) (by simp); have gcX11 : X1.cell? ⟨zg, 1, none⟩ = some (.slice R.A2 k.ranks.length R.c2) := gX1.cell (j := 1) (by simp); have gcX12 : X1.cell? ⟨zg, 2, none⟩ = some (.slice R.A3 k.insured.length R.c3) := gX1.cell (j := 2) (by simp); have gcX13 : X1.cell? ⟨zg, 3, none⟩ = some (.slice A l.length c) := gX1.cell (j := 3) (by simp); have ecX10 : X1.cell? ⟨ze, 0, none⟩ = some (.int .i64 x.day) := eX1.cell (j := 0) (by simp); have ecX11 : X1.cell? ⟨ze, 1, none⟩ = some (.int .i64 5) := eX1.cell (j := 1) (by simp); have ecX12 : X1.cell? ⟨ze, 2, none⟩ = some (.int .i64 x.a) := eX1.cell (j := 2) (by simp); have ecX13 : X1.cell? ⟨ze, 3, none⟩ = some (.int .i64 x.b) := eX1.cell (j := 3) (by simp); have ecX14 : X1.cell? ⟨ze, 4, none⟩ = some (.int .i64 x.c) := eX1.cell (j := 4) (by simp); have glX1 := gX1.lt; have elX1 := eX1.lt; have HGX1 := Lib.hid gX1; have HEX1 := Lib.hid eX1; clear gX1 eX1; clear hX1) | (go_at_call 63; refine (HDay.out x.b X1).mono ?_; rintro e X2 ⟨rfl, hX2⟩; have BX2 := Lib.hid (BX1.out.trans (hX2.mono BX1.out.size)); rw [H2.out]; have gX2 := HGX1.out.below hX2 HGX1.out.lt; have eX2 := HEX1.out.below hX2 HEX1.out.lt; have gcX20 : X2.cell? ⟨zg, 0, none⟩ = some (.slice R.A1 k.rules.length R.c1) := gX2.cell (j := 0) (by simp); have gcX21 : X2.cell? ⟨zg, 1, none⟩ = some (.slice R.A2 k.ranks.length R.c2) := gX2.cell (j := 1) (by simp); have gcX22 : X2.cell? ⟨zg, 2, none⟩ = some (.slice R.A3 k.insured.length R.c3) := gX2.cell (j := 2) (by simp); have gcX23 : X2.cell? ⟨zg, 3, none⟩ = some (.slice A l.length c) := gX2.cell (j := 3) (by simp); have ecX20 : X2.cell? ⟨ze, 0, none⟩ = some (.int .i64 x.day) := eX2.cell (j := 0) (by simp); have ecX21 : X2.cell? ⟨ze, 1, none⟩ = some (.int .i64 5) := eX2.cell (j := 1) (by simp); have ecX22 : X2.cell? ⟨ze, 2, none⟩ = some (.int .i64 x.a) := eX2.cell (j := 2) (by simp); have ecX23 : X2.cell? ⟨ze, 3, none⟩ = some (.int .i64 x.b) := eX2.cell (j := 3) (by simp); have ecX24 : X2.cell? ⟨ze, 4, none⟩ = some (.int .i64 x.c) := eX2.cell (j := 4) (by simp); have glX2 := gX2.lt; have elX2 := eX2.lt; have HGX2 := Lib.hid gX2; have HEX2 := Lib.hid eX2; clear gX2 eX2; clear hX2))
                    go_ret
                    exact ⟨ret_boolI HVv.out.symm, BX2.out⟩
                  | true =>
                    have HVv : Hid (V = decide (x.c = 0)) := HX.out.trans (by rw [h1, h2]; rfl)
                    have H2 := Lib.hid h2
                    clear HX h1 h2
                    go_wp2_with (first | (go_at_call 62; refine (HRi.out x.a Z).mono ?_; rintro e X1 ⟨rfl, hX1⟩; have BX1 := Lib.hid (BZ.out.trans (hX1.mono BZ.out.size)); rw [H1.out]; have gX1 := HGZ.out.below hX1 HGZ.out.lt; have eX1 := HEZ.out.below hX1 HEZ.out.lt; have gcX10 : X1.cell? ⟨zg, 0, none⟩ = some (.slice R.A1 k.rules.length R.c1) := gX1.cell (j := 0) (by simp); have gcX11 : X1.cell? ⟨zg, 1, none⟩ = some (.slice R.A2 k.ranks.length R.c2) := gX1.cell (j := 1) (by simp); have gcX12 : X1.cell? ⟨zg, 2, none⟩ = some (.slice R.A3 k.insured.length R.c3) := gX1.cell (j := 2) (by simp); have gcX13 : X1.cell? ⟨zg, 3, none⟩ = some (.slice A l.length c) := gX1.cell (j := 3) (by simp); have ecX10 : X1.cell? ⟨ze, 0, none⟩ = some (.int .i64 x.day) := eX1.cell (j := 0) (by simp); have ecX11 : X1.cell? ⟨ze, 1, none⟩ = some (.int .i64 5) := eX1.cell (j := 1) (by simp); have ecX12 : X1.cell? ⟨ze, 2, none⟩ = some (.int .i64 x.a) := eX1.cell (j := 2) (by simp); have ecX13 : X1.cell? ⟨ze, 3, none⟩ = some (.int .i64 x.b) := eX1.cell (j := 3) (by simp); have ecX14 : X1.cell? ⟨ze, 4, none⟩ = some (.int .i64 x.c) := eX1.cell (j := 4) (by simp); have glX1 := gX1.lt; have elX1 := eX1.lt; have HGX1 := Lib.hid gX1; have HEX1 := Lib.hid eX1; clear gX1 eX1; clear hX1) | (go_at_call 63; refine (HDay.out x.b X1).mono ?_; rintro e X2 ⟨rfl, hX2⟩; have BX2 := Lib.hid (BX1.out.trans (hX2.mono BX1.out.size)); rw [H2.out]; have gX2 := HGX1.out.below hX2 HGX1.out.lt; have eX2 := HEX1.out.below hX2 HEX1.out.lt; have gcX20 : X2.cell? ⟨zg, 0, none⟩ = some (.slice R.A1 k.rules.length R.c1) := gX2.cell (j := 0) (by simp); have gcX21 : X2.cell? ⟨zg, 1, none⟩ = some (.slice R.A2 k.ranks.length R.c2) := gX2.cell (j := 1) (by simp); have gcX22 : X2.cell? ⟨zg, 2, none⟩ = some (.slice R.A3 k.insured.length R.c3) := gX2.cell (j := 2) (by simp); have gcX23 : X2.cell? ⟨zg, 3, none⟩ = some (.slice A l.length c) := gX2.cell (j := 3) (by simp); have ecX20 : X2.cell? ⟨ze, 0, none⟩ = some (.int .i64 x.day) := eX2.cell (j := 0) (by simp); have ecX21 : X2.cell? ⟨ze, 1, none⟩ = some (.int .i64 5) := eX2.cell (j := 1) (by simp); have ecX22 : X2.cell? ⟨ze, 2, none⟩ = some (.int .i64 x.a) := eX2.cell (j := 2) (by simp); have ecX23 : X2.cell? ⟨ze, 3, none⟩ = some (.int .i64 x.b) := eX2.cell (j := 3) (by simp); have ecX24 : X2.cell? ⟨ze, 4, none⟩ = some (.int .i64 x.c) := eX2.cell (j := 4) (by simp); have glX2 := gX2.lt; have elX2 := eX2.lt; have HGX2 := Lib.hid gX2; have HEX2 := Lib.hid eX2; clear gX2 eX2; clear hX2))
                    go_ret
                    exact ⟨ret_boolI (Eq.trans (by rw [Bool.eq_iff_iff]; simp) HVv.out.symm), BX2.out⟩
              · skip
                by_cases hk6 : x.kind = 6
                · have HX : Hid (V = ((inB x.a 0 ((k.insured.length : Int) - 1) && decide (x.b = 0)) && decide (x.c = 0))) := by show _ = _; rw [HV.out]; unfold kindB; rw [if_neg hk1, if_neg hk2, if_neg hk3, if_neg hk4, if_neg hk5, if_pos hk6]
                  rw [hk6] at ecZ1
                  have HEZ2 : Hid (Row Z ze 54 [.int .i64 x.day, .int .i64 6, .int .i64 x.a, .int .i64 x.b, .int .i64 x.c]) := by show Row _ _ _ _; rw [← hk6]; exact HEZ.out
                  clear HEZ
                  have HEZ := HEZ2
                  clear HEZ2 HV hk1 hk2 hk3 hk4 hk5 hk6
                  cases h1 : inB x.a 0 ((k.insured.length : Int) - 1) with
                  | false =>
                    have HVv : Hid (V = false) := HX.out.trans (by rw [h1]; rfl)
                    have H1 := Lib.hid h1
                    clear HX h1
                    skip
                    go_wp2_with (go_at_call 62; refine (HRi.out x.a Z).mono ?_; rintro e X1 ⟨rfl, hX1⟩; have BX1 := Lib.hid (BZ.out.trans (hX1.mono BZ.out.size)); rw [H1.out]; have gX1 := HGZ.out.below hX1 HGZ.out.lt; have eX1 := HEZ.out.below hX1 HEZ.out.lt; have gcX10 : X1.cell? ⟨zg, 0, none⟩ = some (.slice R.A1 k.rules.length R.c1) := gX1.cell (j := 0) (by simp); have gcX11 : X1.cell? ⟨zg, 1, none⟩ = some (.slice R.A2 k.ranks.length R.c2) := gX1.cell (j := 1) (by simp); have gcX12 : X1.cell? ⟨zg, 2, none⟩ = some (.slice R.A3 k.insured.length R.c3) := gX1.cell (j := 2) (by simp); have gcX13 : X1.cell? ⟨zg, 3, none⟩ = some (.slice A l.length c) := gX1.cell (j := 3) (by simp); have ecX10 : X1.cell? ⟨ze, 0, none⟩ = some (.int .i64 x.day) := eX1.cell (j := 0) (by simp); have ecX11 : X1.cell? ⟨ze, 1, none⟩ = some (.int .i64 6) := eX1.cell (j := 1) (by simp); have ecX12 : X1.cell? ⟨ze, 2, none⟩ = some (.int .i64 x.a) := eX1.cell (j := 2) (by simp); have ecX13 : X1.cell? ⟨ze, 3, none⟩ = some (.int .i64 x.b) := eX1.cell (j := 3) (by simp); have ecX14 : X1.cell? ⟨ze, 4, none⟩ = some (.int .i64 x.c) := eX1.cell (j := 4) (by simp); have glX1 := gX1.lt; have elX1 := eX1.lt; have HGX1 := Lib.hid gX1; have HEX1 := Lib.hid eX1; clear gX1 eX1; clear hX1)
                    go_ret
                    exact ⟨ret_boolI HVv.out.symm, BX1.out⟩
                  | true =>
                    have H1 := Lib.hid h1
                    by_cases h2 : x.b = 0
                    · have HVv : Hid (V = decide (x.c = 0)) := HX.out.trans (by rw [h1, decide_eq_true h2]; rfl)
                      have H2 := Lib.hid h2
                      clear HX h1 h2
                      go_wp2_with (go_at_call 62; refine (HRi.out x.a Z).mono ?_; rintro e X1 ⟨rfl, hX1⟩; have BX1 := Lib.hid (BZ.out.trans (hX1.mono BZ.out.size)); rw [H1.out]; have gX1 := HGZ.out.below hX1 HGZ.out.lt; have eX1 := HEZ.out.below hX1 HEZ.out.lt; have gcX10 : X1.cell? ⟨zg, 0, none⟩ = some (.slice R.A1 k.rules.length R.c1) := gX1.cell (j := 0) (by simp); have gcX11 : X1.cell? ⟨zg, 1, none⟩ = some (.slice R.A2 k.ranks.length R.c2) := gX1.cell (j := 1) (by simp); have gcX12 : X1.cell? ⟨zg, 2, none⟩ = some (.slice R.A3 k.insured.length R.c3) := gX1.cell (j := 2) (by simp); have gcX13 : X1.cell? ⟨zg, 3, none⟩ = some (.slice A l.length c) := gX1.cell (j := 3) (by simp); have ecX10 : X1.cell? ⟨ze, 0, none⟩ = some (.int .i64 x.day) := eX1.cell (j := 0) (by simp); have ecX11 : X1.cell? ⟨ze, 1, none⟩ = some (.int .i64 6) := eX1.cell (j := 1) (by simp); have ecX12 : X1.cell? ⟨ze, 2, none⟩ = some (.int .i64 x.a) := eX1.cell (j := 2) (by simp); have ecX13 : X1.cell? ⟨ze, 3, none⟩ = some (.int .i64 x.b) := eX1.cell (j := 3) (by simp); have ecX14 : X1.cell? ⟨ze, 4, none⟩ = some (.int .i64 x.c) := eX1.cell (j := 4) (by simp); have glX1 := gX1.lt; have elX1 := eX1.lt; have HGX1 := Lib.hid gX1; have HEX1 := Lib.hid eX1; clear gX1 eX1; rw [H2.out] at ecX13; clear hX1)
                      go_ret
                      exact ⟨ret_boolI (Eq.trans (by rw [Bool.eq_iff_iff]; simp) HVv.out.symm), BX1.out⟩
                    · have HVv : Hid (V = false) := HX.out.trans (by rw [h1, decide_eq_false h2]; rfl)
                      clear HX h1
                      go_wp2_with (go_at_call 62; refine (HRi.out x.a Z).mono ?_; rintro e X1 ⟨rfl, hX1⟩; have BX1 := Lib.hid (BZ.out.trans (hX1.mono BZ.out.size)); rw [H1.out]; have gX1 := HGZ.out.below hX1 HGZ.out.lt; have eX1 := HEZ.out.below hX1 HEZ.out.lt; have gcX10 : X1.cell? ⟨zg, 0, none⟩ = some (.slice R.A1 k.rules.length R.c1) := gX1.cell (j := 0) (by simp); have gcX11 : X1.cell? ⟨zg, 1, none⟩ = some (.slice R.A2 k.ranks.length R.c2) := gX1.cell (j := 1) (by simp); have gcX12 : X1.cell? ⟨zg, 2, none⟩ = some (.slice R.A3 k.insured.length R.c3) := gX1.cell (j := 2) (by simp); have gcX13 : X1.cell? ⟨zg, 3, none⟩ = some (.slice A l.length c) := gX1.cell (j := 3) (by simp); have ecX10 : X1.cell? ⟨ze, 0, none⟩ = some (.int .i64 x.day) := eX1.cell (j := 0) (by simp); have ecX11 : X1.cell? ⟨ze, 1, none⟩ = some (.int .i64 6) := eX1.cell (j := 1) (by simp); have ecX12 : X1.cell? ⟨ze, 2, none⟩ = some (.int .i64 x.a) := eX1.cell (j := 2) (by simp); have ecX13 : X1.cell? ⟨ze, 3, none⟩ = some (.int .i64 x.b) := eX1.cell (j := 3) (by simp); have ecX14 : X1.cell? ⟨ze, 4, none⟩ = some (.int .i64 x.c) := eX1.cell (j := 4) (by simp); have glX1 := gX1.lt; have elX1 := eX1.lt; have HGX1 := Lib.hid gX1; have HEX1 := Lib.hid eX1; clear gX1 eX1; clear hX1)
                      go_ret
                      exact ⟨ret_boolI (Eq.trans (by simp) HVv.out.symm), BX1.out⟩
                · have HX : Hid (V = false) := by show _ = _; rw [HV.out]; unfold kindB; rw [if_neg hk1, if_neg hk2, if_neg hk3, if_neg hk4, if_neg hk5, if_neg hk6]
                  have HVv := HX
                  clear HV
                  go_wp2_with fail
                  go_ret
                  exact ⟨ret_boolI HVv.out.symm, BZ.out⟩

end Go.Proofs.Ytaocgkmobfocjaa
