/- Contracts of inspect's numbersWhere, defects and isDefective. Conditions: a log that reads as data; what tells which numbers changes nothing that was there. -/
import Derived.Test.YtaocgkmobfocjaaInp
import Derived.Test.YtaocgkmobfocjaaRh
import Derived.OwnWalk
namespace Go.Proofs.Ytaocgkmobfocjaa
open Go.RowKit

theorem Try.info_intI : (Try.prog.info? 3).map (fun i => (i.zero, i.size, i.bytes)) = some (some (.int .i64 0), 1, 8) := by kernel_rfl
theorem own_readsI {w : World} {base : Nat} {e : TypeId} {size n : Nat} {v : Value} {xs : List Value} (h : w.ownsRow base e size v n xs) : ∃ A c, v = .slice A n c ∧ Reads w w.heap.size size A n xs := by
  rcases Nat.eq_zero_or_pos n with h0 | h0
  · subst h0
    have hx : xs = [] := List.eq_nil_of_length_eq_zero (by simpa using h.1)
    subst hx
    rcases h.2 with ⟨rfl, _⟩ | ⟨g, cap, cur, rfl, _⟩
    · exact ⟨none, 0, rfl, ⟨by simp, fun h => absurd h (by omega)⟩⟩
    · exact ⟨_, _, rfl, ⟨by simp, fun h => absurd h (by omega)⟩⟩
  · obtain ⟨g, cap, rfl, _, hlt⟩ := World.ownsRow.form h h0
    exact ⟨_, _, rfl, (Row.of_own h).1.reads h.1 hlt⟩
theorem row_oneI (w : World) (t : TypeId) (cs : Array Value) (g : Nat) (hg : g = w.heap.size) : Row (w.alloc (.cells cs t)) g t cs.toList := by subst hg; exact Row.new w t cs
/-- A slice of numbers that the call has laid. -/
def NumsTo (w : World) (l : List Int) (e : Ending) (w' : World) : Prop :=
  Below w.heap.size w w' ∧ ∃ A c, e = .returned (.slice A l.length c) ∧ Reads w' w'.heap.size 1 A l.length (l.map (Value.int .i64))
def NumRelI (w : World) (p : Nat → Bool) (n : Nat) (v i : Value) (wr : World) : Prop :=
  ∃ k : Nat, k ≤ n ∧ i = .int .i64 k ∧ wr.ownsRow w.heap.size 3 1 v (numsL p k).length ((numsL p k).map (Value.int .i64)) ∧ Below w.heap.size w wr
set_option maxHeartbeats 1000000 in
set_option maxRecDepth 100000 in
theorem numbers_any (n : Nat) (fid : FuncId) (caps : Array Value) (p : Nat → Bool) (w : World) (hn : n ≤ 100000)
    (hfid : ∀ a w, Sem.run Try.prog (callFunc fid a) w = Result.ok (Next.enter fid a) w)
    (hsee : ∀ k, k < n → ∀ X, Below w.heap.size w X → Calls Try.prog fid (#[.int .i64 k] ++ caps) X fun e w' => e = .returned (.bool (p k)) ∧ Below X.heap.size X w') :
    Calls Try.prog 48 #[.int .i64 n, .func (.func fid) #[] caps] w (NumsTo w (numsL p n)) := by
  obtain ⟨i0, hi, hz0, hz1, hz2⟩ := info_parts Try.info_intI
  have Hs := Lib.hid hsee
  clear hsee
  go_enter Try.func48, Try.ntmps48
  go_wp2_with fail
  go_loopw [5, 8] (fun v i wr => NumRelI w p n v i wr) (fun _ i _ => n - (intOf i).toNat)
  case atStart => exact ⟨0, Nat.zero_le _, rfl, owns_nil _ _ _ _, Below.refl _ _⟩
  case round =>
    obtain ⟨k, hk, rfl, hown, hbel⟩ := hrel
    by_cases hlt : k < n
    · have hlt' : (k : Int) < (n : Int) := by omega
      have ew : IntKind.i64.wrap ((k : Int) + 1) = (k : Int) + 1 := IntWalk.i64_in _ (by omega)
      go_wp2_with fail
      refine (Hs.out k hlt _ hbel).mono ?_
      rintro e x ⟨rfl, hx⟩
      have hl := numsL_len p k
      have hownx := own_below hown hx
      have hbelx := hbel.trans (hx.mono hbel.size)
      have hs := hbelx.size
      clear hown hbel hx
      cases hp : p k with
      | false =>
        have En := Lib.hid (numsL_no hp)
        go_wp2_with fail
        go_roundw
        case rel => exact ⟨k + 1, by omega, by go_num, by rw [En.out]; exact hownx, hbelx⟩
        case measure => simp [intOf]; omega
      | true =>
        have En := Lib.hid (numsL_yes hp)
        clear hp
        have m1 : (numsL p k).length + 1 ≤ maxLen := by unfold maxLen; omega
        have m2 : ((numsL p k).length + 1) * 8 ≤ 140737488355328 := by omega
        go_wp2_with (at_builtin; refine wpList_app _ rfl _ _ 23 rfl w.heap.size 3 i0 (.int .i64 0) 1 8 Try.underlying23 hi hz0 hz1 hz2 rfl (by decide) u5 (numsL p k).length ((numsL p k).map (Value.int .i64)) rfl ?qo (x.heap.size + 1) (some ⟨x.heap.size, 0, none⟩) 1 1 ([(k : Int)].map (Value.int .i64)) rfl ?qr ?q1 m1 m2 ?qb ?_)
        case qo => first | exact owns_alloc hownx _ | exact owns_alloc (owns_drewN hownx _) _ | exact owns_drewN (owns_alloc hownx _) _
        case qr =>
          refine Row.reads (t := 3) ?_ rfl (by omega)
          show Row _ _ _ [.int .i64 k]
          first | exact row_oneI _ _ _ _ (by simp; done) | exact (row_oneI _ _ _ _ (by simp; done)).drewN _
        case q1 => intro u hu; simp at hu; subst hu; rfl
        case qb => simp; omega
        intro v' w1 hown' hbel'
        go_wp2_with fail
        go_roundw
        case rel => exact ⟨k + 1, by omega, by go_num, by rw [En.out]; simpa using hown', Below.trans (by repeat (first | (with_reducible exact hbelx) | (with_reducible exact hs) | (with_reducible refine below_drewN ?_ _) | (with_reducible refine Below.alloc ?_ ?_ _) | (simp; omega))) hbel'⟩
        case measure => simp [intOf]; omega
    · have hge : ¬ (k : Int) < (n : Int) := by omega
      have ek : k = n := by omega
      have Hk := Lib.hid ek
      clear ek
      go_wp2_with fail
      go_ret
      obtain ⟨A, c, hv, hr⟩ := own_readsI hown
      rw [Hk.out] at hv hr
      exact ⟨hbel, A, c, by rw [hv]; rfl, hr⟩
set_option maxRecDepth 100000 in
set_option maxHeartbeats 1000000 in
theorem defOne_any (k : BookZ) (R : BkR) (l : List EntZ) (A : Option Addr) (c B : Nat) (ride sev : Int) (zg z1 z2 : Nat) (i : Nat) (hi : i < l.length) (w : World) (hB : B ≤ w.heap.size) (hl : l.length ≤ maxLen) (hr : Reads w B 5 A l.length (entCells l))
    (hg : Row w zg 66 [.slice R.A1 k.rules.length R.c1, .slice R.A2 k.ranks.length R.c2, .slice R.A3 k.insured.length R.c3, .slice A l.length c]) (h1 : Row w z1 3 [.int .i64 ride]) (h2 : Row w z2 3 [.int .i64 sev]) :
    Calls Try.prog 97 #[.int .i64 (i : Int), .pointer (some ⟨zg, 0, none⟩), .pointer (some ⟨z1, 0, none⟩), .pointer (some ⟨z2, 0, none⟩)] w fun e w' => e = .returned (.bool (defP l ride sev i)) ∧ Below w.heap.size w w' := by
  obtain ⟨b, o, rfl, hbB, x0, x1, x2, x3, x4⟩ := ent_at hr hi
  have hop : ∀ X, Below w.heap.size w X → Calls Try.prog 53 #[logV k R l (some ⟨b, o, none⟩) c, .int .i64 (i : Int)] X fun e w' => e = .returned (.bool (openS l i)) ∧ Below X.heap.size X w' := fun X hX => isOpen_any k R l (some ⟨b, o, none⟩) c B i X (Nat.le_trans hB hX.size) hl (hr.below (hX.mono hB))
  have HS : Hid (defP l ride sev i = ((openS l (i : Int) && decide ((l.getD i default).a = ride)) && decide ((l.getD i default).b = sev))) := rfl
  rw [ent_getD hi] at HS
  have hl' := hl
  unfold maxLen at hl'
  have i0 : ¬ (i : Int) < 0 := by omega
  have i1 : (i : Int) < (l.length : Int) := by omega
  generalize l[i] = x at x0 x1 x2 x3 x4 HS
  generalize defP l ride sev i = v at HS ⊢
  have g0 : w.cell? ⟨zg, 0, none⟩ = some (.slice R.A1 k.rules.length R.c1) := hg.cell (j := 0) (by simp)
  have g1 : w.cell? ⟨zg, 1, none⟩ = some (.slice R.A2 k.ranks.length R.c2) := hg.cell (j := 1) (by simp)
  have g2 : w.cell? ⟨zg, 2, none⟩ = some (.slice R.A3 k.insured.length R.c3) := hg.cell (j := 2) (by simp)
  have g3 : w.cell? ⟨zg, 3, none⟩ = some (.slice (some ⟨b, o, none⟩) l.length c) := hg.cell (j := 3) (by simp)
  have lg := hg.lt
  have lb : b < w.heap.size := by omega
  have HOp := Lib.hid hop
  obtain ⟨W, hW⟩ : ∃ W, W = w.alloc (.cells #[.int .i64 x.day, .int .i64 x.kind, .int .i64 x.a, .int .i64 x.b, .int .i64 x.c] 54) := ⟨_, rfl⟩
  have bW : Below w.heap.size w W := by subst hW; exact (Below.refl _ _).alloc (Nat.le_refl _) _
  have eW : Row W w.heap.size 54 [.int .i64 x.day, .int .i64 x.kind, .int .i64 x.a, .int .i64 x.b, .int .i64 x.c] := by subst hW; exact Row.new w _ _
  have gW := hg.below bW hg.lt
  have q0 : W.cell? ⟨zg, 0, none⟩ = some (.slice R.A1 k.rules.length R.c1) := gW.cell (j := 0) (by simp)
  have q1 : W.cell? ⟨zg, 1, none⟩ = some (.slice R.A2 k.ranks.length R.c2) := gW.cell (j := 1) (by simp)
  have q2 : W.cell? ⟨zg, 2, none⟩ = some (.slice R.A3 k.insured.length R.c3) := gW.cell (j := 2) (by simp)
  have q3 : W.cell? ⟨zg, 3, none⟩ = some (.slice (some ⟨b, o, none⟩) l.length c) := gW.cell (j := 3) (by simp)
  have lW := gW.lt
  have HBW := Lib.hid bW
  have HEW := Lib.hid eW
  have H1 := Lib.hid (h1.below bW h1.lt)
  have H2 := Lib.hid (h2.below bW h2.lt)
  have HOW := Lib.hid (hop W bW)
  generalize openS l (i : Int) = ob at HOW HS
  obtain ⟨ze, hze⟩ : ∃ z, z = w.heap.size := ⟨_, rfl⟩
  rw [← hze] at HEW
  unfold logV at HOW
  clear hop HOp bW eW gW hr hg h1 h2 hl
  go_enter Try.func97, Try.ntmps97
  go_upto_region 2 with fail
  rw [← hW, ← hze]
  clear hW hze x0 x1 x2 x3 x4 g0 g1 g2 g3 lb lg
  cases ob with
  | false =>
    have HV : Hid (v = false) := HS.out
    go_wp2_with (go_at_call 53; refine HOW.out.mono ?_; rintro e X ⟨rfl, hX⟩; have HX := Lib.hid (HBW.out.trans (hX.mono HBW.out.size)); clear hX)
    go_ret
    exact ⟨ret_boolI HV.out.symm, HX.out⟩
  | true =>
    by_cases ha : x.a = ride
    · have HV : Hid (v = decide (x.b = sev)) := by show _ = _; rw [HS.out, decide_eq_true ha]; rfl
      have HA1 : Hid (x.a = ride) := ha
      clear HS ha
      go_wp2_with (go_at_call 53; refine HOW.out.mono ?_; rintro e X ⟨rfl, hX⟩; have sE := HEW.out.below hX HEW.out.lt; have s1 := H1.out.below hX H1.out.lt; have s2 := H2.out.below hX H2.out.lt; have e2 : X.cell? ⟨ze, 2, none⟩ = some (.int .i64 x.a) := sE.cell (j := 2) (by simp); have e3 : X.cell? ⟨ze, 3, none⟩ = some (.int .i64 x.b) := sE.cell (j := 3) (by simp); have e4 : X.cell? ⟨z1, 0, none⟩ = some (.int .i64 ride) := s1.cell (j := 0) (by simp); have e5 : X.cell? ⟨z2, 0, none⟩ = some (.int .i64 sev) := s2.cell (j := 0) (by simp); rw [HA1.out] at e2; have lE := sE.lt; have l1 := s1.lt; have l2 := s2.lt; have HX := Lib.hid (HBW.out.trans (hX.mono HBW.out.size)); clear hX sE s1 s2)
      go_ret
      exact ⟨ret_boolI (Eq.trans (by rw [Bool.eq_iff_iff]; simp) HV.out.symm), HX.out⟩
    · have HV : Hid (v = false) := by show _ = _; rw [HS.out, decide_eq_false ha]; rfl
      clear HS
      go_wp2_with (go_at_call 53; refine HOW.out.mono ?_; rintro e X ⟨rfl, hX⟩; have sE := HEW.out.below hX HEW.out.lt; have s1 := H1.out.below hX H1.out.lt; have s2 := H2.out.below hX H2.out.lt; have e2 : X.cell? ⟨ze, 2, none⟩ = some (.int .i64 x.a) := sE.cell (j := 2) (by simp); have e3 : X.cell? ⟨ze, 3, none⟩ = some (.int .i64 x.b) := sE.cell (j := 3) (by simp); have e4 : X.cell? ⟨z1, 0, none⟩ = some (.int .i64 ride) := s1.cell (j := 0) (by simp); have e5 : X.cell? ⟨z2, 0, none⟩ = some (.int .i64 sev) := s2.cell (j := 0) (by simp); have lE := sE.lt; have l1 := s1.lt; have l2 := s2.lt; have HX := Lib.hid (HBW.out.trans (hX.mono HBW.out.size)); clear hX sE s1 s2)
      go_ret
      exact ⟨ret_boolI HV.out.symm, HX.out⟩
set_option maxRecDepth 100000 in
set_option maxHeartbeats 1000000 in
theorem defects_any (k : BookZ) (R : BkR) (l : List EntZ) (A : Option Addr) (c B : Nat) (ride sev : Int) (w : World) (hB : B ≤ w.heap.size) (hl : l.length ≤ 100) (hr : Reads w B 5 A l.length (entCells l)) :
    Calls Try.prog 91 #[logV k R l A c, .int .i64 ride, .int .i64 sev] w fun e w' => e = .returned (.int .i64 (defS l ride sev)) ∧ Below w.heap.size w w' := by
  obtain ⟨W, hW⟩ : ∃ W, W = ((w.alloc (.cells #[.slice R.A1 k.rules.length R.c1, .slice R.A2 k.ranks.length R.c2, .slice R.A3 k.insured.length R.c3, .slice A l.length c] 66)).alloc (.cells #[.int .i64 ride] 3)).alloc (.cells #[.int .i64 sev] 3) := ⟨_, rfl⟩
  have bW : Below w.heap.size w W := by subst hW; exact (((Below.refl _ _).alloc (Nat.le_refl _) _).alloc (by simp) _).alloc (by simp; omega) _
  have gW : Row W w.heap.size 66 [.slice R.A1 k.rules.length R.c1, .slice R.A2 k.ranks.length R.c2, .slice R.A3 k.insured.length R.c3, .slice A l.length c] := by subst hW; exact ((Row.new w _ _).alloc _).alloc _
  have r1 : Row W (w.heap.size + 1) 3 [.int .i64 ride] := by
    subst hW
    have h := Row.new (w.alloc (.cells #[.slice R.A1 k.rules.length R.c1, .slice R.A2 k.ranks.length R.c2, .slice R.A3 k.insured.length R.c3, .slice A l.length c] 66)) 3 #[.int .i64 ride]
    rw [World.size_alloc] at h
    exact h.alloc _
  have r2 : Row W (w.heap.size + 1 + 1) 3 [.int .i64 sev] := by
    subst hW
    have h := Row.new ((w.alloc (.cells #[.slice R.A1 k.rules.length R.c1, .slice R.A2 k.ranks.length R.c2, .slice R.A3 k.insured.length R.c3, .slice A l.length c] 66)).alloc (.cells #[.int .i64 ride] 3)) 3 #[.int .i64 sev]
    rw [World.size_alloc, World.size_alloc] at h
    exact h
  have g3 : W.cell? ⟨w.heap.size, 3, none⟩ = some (.slice A l.length c) := gW.cell (j := 3) (by simp)
  have lW := gW.lt
  have HBW := Lib.hid bW
  have HN := Lib.hid (numbers_any l.length 97 #[.pointer (some ⟨w.heap.size, 0, none⟩), .pointer (some ⟨w.heap.size + 1, 0, none⟩), .pointer (some ⟨w.heap.size + 1 + 1, 0, none⟩)] (defP l ride sev) W (by omega) (fun a X => enters_of Try.func97 (by kernel_rfl) rfl a X)
    (fun i hi X hX => defOne_any k R l A c B ride sev w.heap.size (w.heap.size + 1) (w.heap.size + 1 + 1) i hi X (Nat.le_trans hB (Nat.le_trans bW.size hX.size)) (by unfold maxLen; omega) (hr.below ((bW.trans (hX.mono bW.size)).mono hB)) (gW.below hX gW.lt) (r1.below hX r1.lt) (r2.below hX r2.lt)))
  have HS : Hid (defS l ride sev = ((numsL (defP l ride sev) l.length).length : Int)) := rfl
  have hm := numsL_len (defP l ride sev) l.length
  generalize defS l ride sev = v at HS ⊢
  generalize numsL (defP l ride sev) l.length = L at HN HS hm
  unfold logV
  clear bW gW r1 r2 hr hB
  go_enter Try.func91, Try.ntmps91
  go_upto_region 1 with fail
  rw [← hW]
  clear hW
  go_wp2_with (go_at_call 48; refine HN.out.mono ?_; rintro e X ⟨hX, A2, c2, rfl, -⟩; have HX := Lib.hid (HBW.out.trans (hX.mono HBW.out.size)); clear hX)
  go_ret
  exact ⟨ret_intI HS.out.symm, HX.out⟩
set_option maxRecDepth 100000 in
set_option maxHeartbeats 1000000 in
theorem defective_any (k : BookZ) (R : BkR) (l : List EntZ) (A : Option Addr) (c B : Nat) (ride : Int) (w : World) (hB : B ≤ w.heap.size) (hl : l.length ≤ 100) (hr : Reads w B 5 A l.length (entCells l)) :
    Calls Try.prog 79 #[logV k R l A c, .int .i64 ride] w fun e w' => e = .returned (.bool (dfvS l ride)) ∧ Below w.heap.size w w' := by
  obtain ⟨W, hW⟩ : ∃ W, W = w.alloc (.cells #[.slice R.A1 k.rules.length R.c1, .slice R.A2 k.ranks.length R.c2, .slice R.A3 k.insured.length R.c3, .slice A l.length c] 66) := ⟨_, rfl⟩
  have bW : Below w.heap.size w W := by subst hW; exact (Below.refl _ _).alloc (Nat.le_refl _) _
  have gW : Row W w.heap.size 66 [.slice R.A1 k.rules.length R.c1, .slice R.A2 k.ranks.length R.c2, .slice R.A3 k.insured.length R.c3, .slice A l.length c] := by subst hW; exact Row.new w _ _
  obtain ⟨zg, hzg⟩ : ∃ z, z = w.heap.size := ⟨_, rfl⟩
  rw [← hzg] at gW
  have g0 : W.cell? ⟨zg, 0, none⟩ = some (.slice R.A1 k.rules.length R.c1) := gW.cell (j := 0) (by simp)
  have g1 : W.cell? ⟨zg, 1, none⟩ = some (.slice R.A2 k.ranks.length R.c2) := gW.cell (j := 1) (by simp)
  have g2 : W.cell? ⟨zg, 2, none⟩ = some (.slice R.A3 k.insured.length R.c3) := gW.cell (j := 2) (by simp)
  have g3 : W.cell? ⟨zg, 3, none⟩ = some (.slice A l.length c) := gW.cell (j := 3) (by simp)
  have lW := gW.lt
  have HBW := Lib.hid bW
  have HGW := Lib.hid gW
  have H3 := Lib.hid (defects_any k R l A c B ride 3 W (Nat.le_trans hB bW.size) hl (hr.below (bW.mono hB)))
  have H2 : Hid (∀ X, Below w.heap.size w X → Calls Try.prog 91 #[logV k R l A c, .int .i64 ride, .int .i64 2] X fun e w' => e = .returned (.int .i64 (defS l ride 2)) ∧ Below X.heap.size X w') := fun X hX => defects_any k R l A c B ride 2 X (Nat.le_trans hB hX.size) hl (hr.below (hX.mono hB))
  have HS : Hid (dfvS l ride = (decide (0 < defS l ride 3) || decide (1 < defS l ride 2))) := rfl
  generalize dfvS l ride = v at HS ⊢
  generalize defS l ride 3 = d3 at H3 HS
  generalize defS l ride 2 = d2 at H2 HS
  unfold logV at *
  clear bW gW hr hB
  by_cases h3 : 0 < d3
  · have HV : Hid (v = true) := by show _ = _; rw [HS.out, decide_eq_true h3]; rfl
    have t3 : decide (0 < d3) = true := by simpa using h3
    clear HS h3
    go_enter Try.func79, Try.ntmps79
    go_upto_region 1 with fail
    rw [← hW, ← hzg]
    clear hW hzg
    go_wp2_with (go_at_call 91; refine H3.out.mono ?_; rintro e X ⟨rfl, hX⟩; have HX := Lib.hid (HBW.out.trans (hX.mono HBW.out.size)); clear hX)
    go_ret
    exact ⟨ret_boolI HV.out.symm, HX.out⟩
  · have HV : Hid (v = decide (1 < d2)) := by show _ = _; rw [HS.out, decide_eq_false h3]; rfl
    have t3 : decide (0 < d3) = false := by simpa using h3
    clear HS h3
    go_enter Try.func79, Try.ntmps79
    go_upto_region 1 with fail
    rw [← hW, ← hzg]
    clear hW hzg
    go_wp2_with (first | (go_at_call 91; refine H3.out.mono ?_; rintro e X ⟨rfl, hX⟩; have sG := HGW.out.below hX HGW.out.lt; have s0 : X.cell? ⟨zg, 0, none⟩ = some (.slice R.A1 k.rules.length R.c1) := sG.cell (j := 0) (by simp); have s1 : X.cell? ⟨zg, 1, none⟩ = some (.slice R.A2 k.ranks.length R.c2) := sG.cell (j := 1) (by simp); have s2 : X.cell? ⟨zg, 2, none⟩ = some (.slice R.A3 k.insured.length R.c3) := sG.cell (j := 2) (by simp); have s3 : X.cell? ⟨zg, 3, none⟩ = some (.slice A l.length c) := sG.cell (j := 3) (by simp); have lG := sG.lt; have HX := Lib.hid (HBW.out.trans (hX.mono HBW.out.size)); have HD := Lib.hid (H2.out X HX.out); clear hX sG H3) | (go_at_call 91; refine HD.out.mono ?_; rintro e Y ⟨rfl, hY⟩; have HY := Lib.hid (HX.out.trans (hY.mono HX.out.size)); clear hY HD))
    go_ret
    exact ⟨ret_boolI HV.out.symm, HY.out⟩
end Go.Proofs.Ytaocgkmobfocjaa
