/- Contract of the specification's Reasons. Conditions: a book and entries that read as data; a ride; open defects have a severity up to 3. -/
import Derived.Test.YtaocgkmobfocjaaIaa
import Derived.Deep.OwnRows
import Derived.Deep.CutBlock
namespace Go.Proofs.Ytaocgkmobfocjaa
open Go.RowKit

theorem run_mkI (n : Nat) (hn : n ≤ 100) (w : World) : ∃ M : Array Value, M.toList = List.replicate n (.int .i64 0) ∧ (Instr.makeSlice 23 (.int .i64 (n : Int)) (.int .i64 (n : Int))).run Try.prog w = .ok (.slice (some ⟨w.heap.size, 0, none⟩) n n) (w.alloc (.cells M 3)) :=
  ⟨_, by
    refine List.ext_getElem? fun i => ?_
    simp only [madeCells, List.getElem?_replicate, Array.getElem?_toList, Array.getElem?_map, Array.getElem?_range]
    by_cases hi : i < n
    · simp [hi, Nat.mod_one]
    · simp [hi], run_make_row' _ _ _ _ Try.underlying23 Try.info_intI rfl .i64 .i64 n (by omega) (by omega) w⟩
theorem run_mk4 (w : World) : ∃ M : Array Value, M.toList = [.int .i64 0, .int .i64 0, .int .i64 0, .int .i64 0] ∧ (Instr.makeSlice 23 (.int .i64 4) (.int .i64 4)).run Try.prog w = .ok (.slice (some ⟨w.heap.size, 0, none⟩) 4 4) (w.alloc (.cells M 3)) := by
  obtain ⟨M, h1, h2⟩ := run_mkI 4 (by omega) w
  exact ⟨M, h1.trans rfl, h2⟩
theorem tstL_snoc (l : List EntZ) (ride day : Int) {n : Nat} (h : n < l.length) : tstL (l.take (n + 1)) ride day = tstF ride day (tstL (l.take n) ride day) l[n] := by
  unfold tstL
  rw [List.take_succ_eq_append_getElem h, List.foldl_append]; rfl
def insT (z : Int) (l : List EntZ) (ride : Int) : Int := l.foldl (insF ride) z
theorem insT_snoc (z : Int) (l : List EntZ) (ride : Int) {n : Nat} (h : n < l.length) : insT z (l.take (n + 1)) ride = insF ride (insT z (l.take n) ride) l[n] := by
  unfold insT
  rw [List.take_succ_eq_append_getElem h, List.foldl_append]; rfl
theorem manN_bd (l : List EntZ) (ride sev : Int) : ∀ n, 0 ≤ manN l ride sev n ∧ manN l ride sev n ≤ n := by
  intro n
  induction n with
  | zero => exact ⟨Int.le_refl _, Int.le_refl _⟩
  | succ n ih => simp only [manN]; split <;> omega
def manR (l : List EntZ) (ride : Int) (n : Nat) : List Value := [.int .i64 (manN l ride 0 n), .int .i64 (manN l ride 1 n), .int .i64 (manN l ride 2 n), .int .i64 (manN l ride 3 n)]
theorem manR_same {l : List EntZ} {ride : Int} {n : Nat} (h : ¬ ((l.getD n default).a = ride ∧ (l.getD n default).kind = 2 ∧ openS l n = true)) : manR l ride (n + 1) = manR l ride n := by
  unfold manR
  have e : ∀ s, manN l ride s (n + 1) = manN l ride s n := fun s => by
    simp only [manN]
    rw [if_neg (fun q => h ⟨q.1, q.2.1, q.2.2.1⟩)]; omega
  rw [e, e, e, e]
theorem manN_step {l : List EntZ} {ride : Int} {n : Nat} (h : (l.getD n default).a = ride ∧ (l.getD n default).kind = 2 ∧ openS l n = true) (s : Int) : manN l ride s (n + 1) = manN l ride s n + if (l.getD n default).b = s then 1 else 0 := by
  simp only [manN]
  by_cases hb : (l.getD n default).b = s
  · rw [if_pos ⟨h.1, h.2.1, h.2.2, hb⟩, if_pos hb]
  · rw [if_neg (fun q => hb q.2.2.2), if_neg hb]
set_option maxRecDepth 100000 in
set_option maxHeartbeats 8000000 in
theorem reasons_any (k : BookZ) (R : BkR) (l : List EntZ) (A : Option Addr) (c B : Nat) (ride : Nat) (day : Int) (w : World) (hB : B ≤ w.heap.size) (hl : l.length ≤ 1000) (hr : Reads w B 5 A l.length (entCells l)) (hk : BkIn w B k R) (hi : ride < k.insured.length)
    (hs3 : ∀ j, j < l.length → openS l (j : Int) = true → 0 ≤ (l.getD j default).b ∧ (l.getD j default).b ≤ 3) :
    Calls Try.prog 57 #[bookV k R, .slice A l.length c, .int .i64 (ride : Int), .int .i64 day] w (NumsTo w (reaS k l ride day)) := by
  have hl' : l.length ≤ maxLen := by unfold maxLen; omega
  have h3 := hi
  have h1 := hk.l1
  have h2 := hk.l3
  unfold maxLen at h1 h2
  obtain ⟨W, hW⟩ : ∃ W, W = w.alloc (.cells #[.slice R.A1 k.rules.length R.c1, .slice R.A2 k.ranks.length R.c2, .slice R.A3 k.insured.length R.c3] 25) := ⟨_, rfl⟩
  have bW : Below w.heap.size w W := by subst hW; exact (Below.refl _ _).alloc (Nat.le_refl _) _
  have r0 : Row W w.heap.size 25 [.slice R.A1 k.rules.length R.c1, .slice R.A2 k.ranks.length R.c2, .slice R.A3 k.insured.length R.c3] := by subst hW; exact Row.new w _ _
  obtain ⟨zb, hzb⟩ : ∃ z, z = w.heap.size := ⟨_, rfl⟩
  rw [← hzb] at r0
  have lW := r0.lt
  have HBW := Lib.hid bW
  have HR0 := Lib.hid r0
  have HRd : Hid (∀ (i : Nat) (hi : i < k.rules.length) (X : World), Below w.heap.size w X → ∃ b o, R.A1 = some ⟨b, o, none⟩ ∧ b < X.heap.size ∧ X.cell? ⟨b, o + i * 4, none⟩ = some (.int .i64 k.rules[i].ride)) := fun i hi X hX => by
    obtain ⟨b, o, h1, h2, h3, -, -, -⟩ := ru_at (hk.rules.below (hX.mono hB)) hi
    exact ⟨b, o, h1, by have := hX.size; omega, h3⟩
  have HIn : Hid (∀ (X : World), Below w.heap.size w X → ∃ b o, R.A3 = some ⟨b, o, none⟩ ∧ b < X.heap.size ∧ X.cell? ⟨b, o + ride, none⟩ = some (.int .i64 (k.insured.getD ride 0))) := fun X hX => by
    obtain ⟨b, o, h1, h2, h3⟩ := (hk.insured.below (hX.mono hB)).2 (by omega)
    exact ⟨b, o, h1, by have := hX.size; omega, h3 ride _ (by simp [hi])⟩
  have HEc := ent_cells hr
  have HBB : Hid (B ≤ w.heap.size) := hB
  have HFo : Hid (∀ (i : Nat) (hi : i < k.rules.length) (X : World), Below w.heap.size w X → Calls Try.prog 52 #[bookV k R, .slice A l.length c, .int .i64 (i : Int), .int .i64 day] X fun e w' => e = .returned (.bool (frcS l i k.rules[i] day)) ∧ Below X.heap.size X w') := fun i hi X hX => rforce_any k R l A c B i day X (Nat.le_trans hB hX.size) hl' (hr.below (hX.mono hB)) (hk.below (hX.mono hB)) hi
  have HOp : Hid (∀ (n : Nat) (X : World), Below w.heap.size w X → Calls Try.prog 54 #[.slice A l.length c, .int .i64 (n : Int)] X fun e w' => e = .returned (.bool (openS l n)) ∧ w' = X) := fun n X hX => ropen_any l A c B n X (Nat.le_trans hB hX.size) hl' (hr.below (hX.mono hB))
  have HS3 := Lib.hid hs3
  obtain ⟨i0, hi, hz0, hz1, hz2⟩ := info_parts Try.info_intI
  have HV : Hid (reaS k l ride day = (((if chkB k l ride day k.rules.length = false then [1] else []) ++ if 0 < manN l ride 3 l.length ∨ 1 < manN l ride 2 l.length then [2] else []) ++ if tstL l ride day = false then [3] else []) ++ if insT (k.insured.getD ride 0) l ride < day then [4] else []) := rfl
  generalize reaS k l ride day = V at HV ⊢
  unfold bookV at *
  clear bW r0 hk hr hB hs3
  go_enter Try.func57, Try.ntmps57
  go_upto_region 1 with fail
  rw [← hW, ← hzb]
  clear hW hzb
  go_wp2_with fail
  go_loopw [10, 11] (fun t q wr => ∃ n : Nat, n ≤ k.rules.length ∧ q = .int .i64 n ∧ t = .bool (chkB k l ride day n) ∧ Below W.heap.size W wr) (fun _ q _ => k.rules.length - (intOf q).toNat)
  case atStart => exact ⟨0, Nat.zero_le _, rfl, rfl, Below.refl _ _⟩
  case round =>
    obtain ⟨n, hn, rfl, rfl, hbel⟩ := hrel
    have HBr := Lib.hid (HBW.out.trans (hbel.mono HBW.out.size))
    have HBL := Lib.hid hbel
    have s0 := HR0.out.below hbel HR0.out.lt
    have g0 : wr.cell? ⟨zb, 0, none⟩ = some (.slice R.A1 k.rules.length R.c1) := s0.cell (j := 0) (by simp)
    have g1 : wr.cell? ⟨zb, 1, none⟩ = some (.slice R.A2 k.ranks.length R.c2) := s0.cell (j := 1) (by simp)
    have g2 : wr.cell? ⟨zb, 2, none⟩ = some (.slice R.A3 k.insured.length R.c3) := s0.cell (j := 2) (by simp)
    have lG := s0.lt
    have HGr := Lib.hid s0
    clear s0 hbel
    by_cases hlt : n < k.rules.length
    · have n1 : (n : Int) < (k.rules.length : Int) := by omega
      have n0 : ¬ (n : Int) < 0 := by omega
      have en : IntKind.i64.wrap ((n : Int) + 1) = (n : Int) + 1 := IntWalk.i64_in _ (by omega)
      obtain ⟨br, or, hR, lr, y0⟩ := HRd.out n hlt wr HBr.out
      have HFn := Lib.hid (HFo.out n hlt wr HBr.out)
      have HC : Hid (chkB k l ride day (n + 1) = (chkB k l ride day n && (decide ((k.rules.getD n default).ride ≠ ride) || frcS l n (k.rules.getD n default) day))) := rfl
      rw [rules_at hlt] at HC
      generalize k.rules[n] = u at y0 HFn HC
      generalize frcS l n u day = fb at HFn HC
      generalize chkB k l ride day n = cb at HC ⊢
      rw [hR] at g0 HFn
      clear hR
      cases cb with
      | false =>
        have HC2 : Hid (chkB k l ride day (n + 1) = false) := HC.out
        go_wp2_with fail
        go_roundw
        case rel => exact ⟨n + 1, by omega, by go_num, by rw [HC2.out], HBL.out⟩
        case measure => simp [intOf]; omega
      | true =>
        by_cases hu : u.ride = (ride : Int)
        · have HC2 : Hid (chkB k l ride day (n + 1) = fb) := by show _ = _; rw [HC.out, decide_eq_false (by simp [hu])]; rfl
          rw [hu] at y0
          clear hu HC
          go_wp2_with (go_at_call 52; refine HFn.out.mono ?_; rintro e X ⟨rfl, hX⟩; have HX := Lib.hid (HBL.out.trans (hX.mono HBL.out.size)); clear hX)
          go_roundw
          case rel => exact ⟨n + 1, by omega, by go_num, by rw [HC2.out], HX.out⟩
          case measure => simp [intOf]; omega
        · have HC2 : Hid (chkB k l ride day (n + 1) = true) := by show _ = _; rw [HC.out, decide_eq_true (by simpa using hu)]; rfl
          have d1 : decide (u.ride = (ride : Int)) = false := decide_eq_false hu
          have d2 : (u.ride == (ride : Int)) = false := by simpa using hu
          clear HC
          go_wp2_with fail
          go_roundw
          case rel => exact ⟨n + 1, by omega, by go_num, by rw [HC2.out], HBL.out⟩
          case measure => simp [intOf]; omega
    · have en : n = k.rules.length := by omega
      have n1 : ¬ (n : Int) < (k.rules.length : Int) := by omega
      have ec : chkB k l ride day n = chkB k l ride day k.rules.length := by rw [en]
      rw [ec]
      generalize chkB k l ride day k.rules.length = ck at HV ⊢
      obtain ⟨L1, hL1⟩ : ∃ L1 : List Int, L1 = if ck = false then [1] else [] := ⟨_, rfl⟩
      rw [← hL1] at HV
      have HL1 := Lib.hid hL1
      clear en ec hL1 hlt HFo HRd
      go_upto_if 42 with fail
      go_cut [9] (fun s9 wx => wx.ownsRow W.heap.size 3 1 s9 L1.length (L1.map (Value.int .i64)) ∧ Below W.heap.size W wx)
      case first =>
        cases ck with
        | true =>
          go_wp2_with fail
          go_meet
          rw [show L1 = [] from HL1.out]
          exact ⟨owns_nil _ _ _ _, HBL.out⟩
        | false =>
          have m1a : ([] : List Int).length + 1 ≤ maxLen := by decide
          have m2a : (([] : List Int).length + 1) * 8 ≤ 140737488355328 := by decide
          have hown0 : wr.ownsRow W.heap.size 3 1 (.slice none 0 0) ([] : List Int).length (([] : List Int).map (Value.int .i64)) := owns_nil _ _ _ _
          have hws := HBL.out.size
          go_wp2_with (at_builtin; refine wpList_app _ rfl _ _ 23 rfl (W.heap.size) 3 i0 (.int .i64 0) 1 8 Try.underlying23 hi hz0 hz1 hz2 rfl (by decide) (.slice none 0 0) ([] : List Int).length (([] : List Int).map (Value.int .i64)) rfl ?qoa (wr.heap.size + 1) (some ⟨wr.heap.size, 0, none⟩) 1 1 ([(1 : Int)].map (Value.int .i64)) rfl ?qra ?q1a m1a m2a ?qba ?_)
          case qoa => first | exact owns_alloc hown0 _ | exact owns_alloc (owns_drewN hown0 _) _ | exact owns_drewN (owns_alloc hown0 _) _
          case qra =>
            refine Row.reads (t := 3) ?_ rfl (by omega)
            show Row _ _ _ [.int .i64 1]
            first | exact row_oneI _ _ _ _ (by simp; done) | exact (row_oneI _ _ _ _ (by simp; done)).drewN _
          case q1a => first | rfl | (intro u hu; simp at hu; subst hu; rfl)
          case qba => first | exact hws | (have := hws; omega) | (have := hws; simp; omega)
          intro v' w1 hown' hbel'
          have HB1 : Hid (Below W.heap.size W w1) := by
            refine Below.trans ?_ hbel'
            repeat (first | (with_reducible exact HBL.out) | (with_reducible exact hws) | (with_reducible refine below_drewN ?_ _) | (with_reducible refine Below.alloc ?_ ?_ _) | (simp; omega))
          go_wp2_with fail
          go_meet
          rw [show L1 = [1] from HL1.out]
          exact ⟨hown', HB1.out⟩
      case rest =>
        obtain ⟨hown, hbc⟩ := hcut
        obtain ⟨X, rfl⟩ : ∃ x : World, x = wc := ⟨_, rfl⟩
        obtain ⟨Ao, co, rfl, -⟩ := own_readsI hown
        have HOw := Lib.hid hown
        have HBX := Lib.hid (HBW.out.trans (hbc.mono HBW.out.size))
        have HBWX := Lib.hid hbc
        have sX := HR0.out.below hbc HR0.out.lt
        have g2 : X.cell? ⟨zb, 2, none⟩ = some (.slice R.A3 k.insured.length R.c3) := sX.cell (j := 2) (by simp)
        have lX := sX.lt
        have HSX := Lib.hid sX
        obtain ⟨M0, hM0, hmk0⟩ := run_mk4 X
        obtain ⟨Y, hY⟩ : ∃ Y, Y = X.alloc (.cells M0 3) := ⟨_, rfl⟩
        have rY : Row Y X.heap.size 3 [.int .i64 0, .int .i64 0, .int .i64 0, .int .i64 0] := by rw [hY, ← hM0]; exact Row.new X _ M0
        have bY : Below X.heap.size X Y := by rw [hY]; exact (Below.refl _ _).alloc (Nat.le_refl _) _
        have HRY := Lib.hid rY
        have HBY := Lib.hid bY
        clear hown hbc hM0 sX rY bY
        go_upto_region 10 with fail
        rw [← hY]
        clear hmk0 hY HGr
        have sY := HSX.out.below HBY.out HSX.out.lt
        have g2 : Y.cell? ⟨zb, 2, none⟩ = some (.slice R.A3 k.insured.length R.c3) := sY.cell (j := 2) (by simp)
        have lY := sY.lt
        have HBwY := Lib.hid (HBX.out.trans (HBY.out.mono HBX.out.size))
        obtain ⟨b3, o3, hA3, lb3, z3⟩ := HIn.out Y HBwY.out
        rw [hA3] at g2
        have j0 : ¬ (ride : Int) < 0 := by omega
        have j1 : (ride : Int) < (k.insured.length : Int) := by omega
        obtain ⟨zm, hzm⟩ : ∃ z, z = X.heap.size := ⟨_, rfl⟩
        rw [← hzm] at HRY HBY
        rw [← hzm]
        have HZM := Lib.hid hzm
        clear sY hA3 hzm
        generalize k.insured.getD ride 0 = iz at HV z3
        go_upto_region 12 with fail
        go_wp2_with fail
        clear g2 z3 lb3 lY
        go_loopw [13, 14, 15] (fun t iv q wr => ∃ n : Nat, n ≤ l.length ∧ q = .int .i64 n ∧ t = .bool (tstL (l.take n) ride day) ∧ iv = .int .i64 (insT iz (l.take n) ride) ∧ Row wr zm 3 (manR l ride n) ∧ Below zm X wr) (fun _ _ q _ => l.length - (intOf q).toNat)
        case atStart => exact ⟨0, Nat.zero_le _, rfl, rfl, rfl, HRY.out, HBY.out⟩
        case round =>
          obtain ⟨n, hn, rfl, rfl, rfl, hrow, hbel⟩ := hrel
          have HRo := Lib.hid hrow
          have HBl := Lib.hid hbel
          have HBw := Lib.hid (HBX.out.trans (show Below w.heap.size X wr from hbel.mono (by rw [HZM.out]; exact HBX.out.size)))
          by_cases hlt : n < l.length
          · have n1 : (n : Int) < (l.length : Int) := by omega
            have n0 : ¬ (n : Int) < 0 := by omega
            have en : IntKind.i64.wrap ((n : Int) + 1) = (n : Int) + 1 := IntWalk.i64_in _ (by omega)
            obtain ⟨b, o, hA, lb, x0, x1, x2, x3, x4⟩ := HEc.out n hlt wr (HBw.out.mono HBB.out) (Nat.le_trans HBB.out HBw.out.size)
            have HT := Lib.hid (tstL_snoc l ride day hlt)
            have HI := Lib.hid (insT_snoc iz l ride hlt)
            have HX := Lib.hid (ent_getD hlt)
            have HO := Lib.hid (HOp.out n wr HBw.out)
            have HS := Lib.hid (HS3.out n hlt)
            have HMs := Lib.hid (manR_same (l := l) (ride := (ride : Int)) (n := n))
            have HMd := Lib.hid (manN_step (l := l) (ride := (ride : Int)) (n := n))
            have c0 : wr.cell? ⟨zm, 0, none⟩ = some (.int .i64 (manN l ride 0 n)) := hrow.cell (j := 0) (by simp [manR])
            have c1 : wr.cell? ⟨zm, 1, none⟩ = some (.int .i64 (manN l ride 1 n)) := hrow.cell (j := 1) (by simp [manR])
            have c2 : wr.cell? ⟨zm, 2, none⟩ = some (.int .i64 (manN l ride 2 n)) := hrow.cell (j := 2) (by simp [manR])
            have c3 : wr.cell? ⟨zm, 3, none⟩ = some (.int .i64 (manN l ride 3 n)) := hrow.cell (j := 3) (by simp [manR])
            have fr := hrow.frozen
            have lm := hrow.lt
            have bd := fun s => manN_bd l (ride : Int) s n
            have w0 : IntKind.i64.wrap (manN l ride 0 n + 1) = manN l ride 0 n + 1 := IntWalk.i64_in _ (by have := bd 0; omega)
            have w1 : IntKind.i64.wrap (manN l ride 1 n + 1) = manN l ride 1 n + 1 := IntWalk.i64_in _ (by have := bd 1; omega)
            have w2 : IntKind.i64.wrap (manN l ride 2 n + 1) = manN l ride 2 n + 1 := IntWalk.i64_in _ (by have := bd 2; omega)
            have w3 : IntKind.i64.wrap (manN l ride 3 n + 1) = manN l ride 3 n + 1 := IntWalk.i64_in _ (by have := bd 3; omega)
            rw [HX.out] at HS HMs HMd
            have HMR : Hid (manR l ride n = [.int .i64 (manN l ride 0 n), .int .i64 (manN l ride 1 n), .int .i64 (manN l ride 2 n), .int .i64 (manN l ride 3 n)]) := rfl
            generalize l[n] = x at x0 x1 x2 x3 x4 HT HI HS HMs HMd
            generalize openS l (n : Int) = ob at HO HS HMs HMd
            generalize tstL (l.take n) ride day = tb at HT ⊢
            generalize insT iz (l.take n) ride = iv at HI ⊢
            subst hA
            clear hrow hbel bd HX
            by_cases ha : x.a = (ride : Int)
            · rw [ha] at x2
              have HA : Hid (x.a = (ride : Int)) := ha
              clear ha
              by_cases hk2 : x.kind = 2
              · have HK : Hid (x.kind = 2) := hk2
                have HT2 : Hid (tstL (l.take (n + 1)) ride day = tb) := by show _ = _; rw [HT.out]; unfold tstF; rw [if_pos HA.out, if_neg (by rw [HK.out]; decide), if_neg (by rw [HK.out]; decide)]
                have HI2 : Hid (insT iz (l.take (n + 1)) ride = iv) := by show _ = _; rw [HI.out]; unfold insF; rw [if_pos HA.out, if_neg (by rw [HK.out]; decide)]
                rw [hk2] at x1
                clear hk2
                cases ob with
                | false =>
                  have HM2 : Hid (manR l ride (n + 1) = manR l ride n) := HMs.out (by simp)
                  go_wp2_with (go_at_call 54; with_reducible refine HO.out.mono ?_; rintro e w' ⟨rfl, hw⟩; rw [hw]; clear hw)
                  go_roundw
                  case rel => exact ⟨n + 1, by omega, by go_num, by rw [HT2.out], by rw [HI2.out], by rw [HM2.out]; exact HRo.out, HBl.out⟩
                  case measure => simp [intOf]; omega
                | true =>
                  have HM3 := Lib.hid (HMd.out ⟨HA.out, HK.out, rfl⟩)
                  have hbb := HS.out rfl
                  have HZm : Hid (zm ≤ zm) := Nat.le_refl _
                  rcases (show x.b = 0 ∨ x.b = 1 ∨ x.b = 2 ∨ x.b = 3 by omega) with hb | hb | hb | hb
                  · rw [hb] at x3
                    have HM2 : Hid (manR l ride (n + 1) = [.int .i64 (manN l ride 0 n + 1), .int .i64 (manN l ride 1 n), .int .i64 (manN l ride 2 n), .int .i64 (manN l ride 3 n)]) := by
                      show _ = _
                      unfold manR
                      rw [HM3.out, HM3.out, HM3.out, HM3.out, hb]
                      simp
                    clear hbb hb HM3 HMR
                    go_wp2_with (go_at_call 54; with_reducible refine HO.out.mono ?_; rintro e w' ⟨rfl, hw⟩; rw [hw]; clear hw)
                    go_roundw
                    case rel => exact ⟨n + 1, by omega, by go_num, by rw [HT2.out], by rw [HI2.out], by rw [HM2.out]; exact HRo.out.set 0 _, HBl.out.setCell (p := ⟨zm, 0, none⟩) HZm.out _⟩
                    case measure => simp [intOf]; omega
                  · rw [hb] at x3
                    have HM2 : Hid (manR l ride (n + 1) = [.int .i64 (manN l ride 0 n), .int .i64 (manN l ride 1 n + 1), .int .i64 (manN l ride 2 n), .int .i64 (manN l ride 3 n)]) := by
                      show _ = _
                      unfold manR
                      rw [HM3.out, HM3.out, HM3.out, HM3.out, hb]
                      simp
                    clear hbb hb HM3 HMR
                    go_wp2_with (go_at_call 54; with_reducible refine HO.out.mono ?_; rintro e w' ⟨rfl, hw⟩; rw [hw]; clear hw)
                    go_roundw
                    case rel => exact ⟨n + 1, by omega, by go_num, by rw [HT2.out], by rw [HI2.out], by rw [HM2.out]; exact HRo.out.set 1 _, HBl.out.setCell (p := ⟨zm, 1, none⟩) HZm.out _⟩
                    case measure => simp [intOf]; omega
                  · rw [hb] at x3
                    have HM2 : Hid (manR l ride (n + 1) = [.int .i64 (manN l ride 0 n), .int .i64 (manN l ride 1 n), .int .i64 (manN l ride 2 n + 1), .int .i64 (manN l ride 3 n)]) := by
                      show _ = _
                      unfold manR
                      rw [HM3.out, HM3.out, HM3.out, HM3.out, hb]
                      simp
                    clear hbb hb HM3 HMR
                    go_wp2_with (go_at_call 54; with_reducible refine HO.out.mono ?_; rintro e w' ⟨rfl, hw⟩; rw [hw]; clear hw)
                    go_roundw
                    case rel => exact ⟨n + 1, by omega, by go_num, by rw [HT2.out], by rw [HI2.out], by rw [HM2.out]; exact HRo.out.set 2 _, HBl.out.setCell (p := ⟨zm, 2, none⟩) HZm.out _⟩
                    case measure => simp [intOf]; omega
                  · rw [hb] at x3
                    have HM2 : Hid (manR l ride (n + 1) = [.int .i64 (manN l ride 0 n), .int .i64 (manN l ride 1 n), .int .i64 (manN l ride 2 n), .int .i64 (manN l ride 3 n + 1)]) := by
                      show _ = _
                      unfold manR
                      rw [HM3.out, HM3.out, HM3.out, HM3.out, hb]
                      simp
                    clear hbb hb HM3 HMR
                    go_wp2_with (go_at_call 54; with_reducible refine HO.out.mono ?_; rintro e w' ⟨rfl, hw⟩; rw [hw]; clear hw)
                    go_roundw
                    case rel => exact ⟨n + 1, by omega, by go_num, by rw [HT2.out], by rw [HI2.out], by rw [HM2.out]; exact HRo.out.set 3 _, HBl.out.setCell (p := ⟨zm, 3, none⟩) HZm.out _⟩
                    case measure => simp [intOf]; omega
              · by_cases hk4 : x.kind = 4
                · have HK : Hid (x.kind = 4) := hk4
                  have HI2 : Hid (insT iz (l.take (n + 1)) ride = iv) := by show _ = _; rw [HI.out]; unfold insF; rw [if_pos HA.out, if_neg (by rw [HK.out]; decide)]
                  have HM2 : Hid (manR l ride (n + 1) = manR l ride n) := HMs.out (by rw [HK.out]; simp)
                  have HT2 : Hid (tstL (l.take (n + 1)) ride day = (tb || decide (x.day = day))) := by show _ = _; rw [HT.out]; unfold tstF; rw [if_pos HA.out, if_pos HK.out]
                  rw [hk4] at x1
                  clear hk2 hk4
                  cases tb with
                  | true =>
                    go_wp2_with fail
                    go_roundw
                    case rel => exact ⟨n + 1, by omega, by go_num, by rw [HT2.out]; rfl, by rw [HI2.out], by rw [HM2.out]; exact HRo.out, HBl.out⟩
                    case measure => simp [intOf]; omega
                  | false =>
                    have HT3 : Hid (tstL (l.take (n + 1)) ride day = decide (x.day = day)) := HT2.out.trans (by simp)
                    go_wp2_with fail
                    go_roundw
                    case rel => exact ⟨n + 1, by omega, by go_num, by rw [HT3.out]; first | rfl | (congr 1; rw [Bool.eq_iff_iff]; simp), by rw [HI2.out], by rw [HM2.out]; exact HRo.out, HBl.out⟩
                    case measure => simp [intOf]; omega
                · by_cases hk6 : x.kind = 6
                  · have HK : Hid (x.kind = 6) := hk6
                    have HI2 : Hid (insT iz (l.take (n + 1)) ride = iv) := by show _ = _; rw [HI.out]; unfold insF; rw [if_pos HA.out, if_neg (by rw [HK.out]; decide)]
                    have HM2 : Hid (manR l ride (n + 1) = manR l ride n) := HMs.out (by rw [HK.out]; simp)
                    have HT2 : Hid (tstL (l.take (n + 1)) ride day = false) := by show _ = _; rw [HT.out]; unfold tstF; rw [if_pos HA.out, if_neg (by rw [HK.out]; decide), if_pos HK.out]
                    rw [hk6] at x1
                    clear hk2 hk4 hk6
                    go_wp2_with fail
                    go_roundw
                    case rel => exact ⟨n + 1, by omega, by go_num, by rw [HT2.out], by rw [HI2.out], by rw [HM2.out]; exact HRo.out, HBl.out⟩
                    case measure => simp [intOf]; omega
                  · have HN4 : Hid (¬ x.kind = 4) := hk4
                    have HN6 : Hid (¬ x.kind = 6) := hk6
                    have HT2 : Hid (tstL (l.take (n + 1)) ride day = tb) := by show _ = _; rw [HT.out]; unfold tstF; rw [if_pos HA.out, if_neg HN4.out, if_neg HN6.out]
                    have HM2 : Hid (manR l ride (n + 1) = manR l ride n) := HMs.out (fun h => hk2 h.2.1)
                    by_cases hk5 : x.kind = 5
                    · have HI2 : Hid (insT iz (l.take (n + 1)) ride = x.b) := by show _ = _; rw [HI.out]; unfold insF; rw [if_pos HA.out, if_pos hk5]
                      rw [hk5] at x1
                      clear hk2 hk4 hk6 hk5
                      go_wp2_with fail
                      go_roundw
                      case rel => exact ⟨n + 1, by omega, by go_num, by rw [HT2.out], by rw [HI2.out], by rw [HM2.out]; exact HRo.out, HBl.out⟩
                      case measure => simp [intOf]; omega
                    · have HI2 : Hid (insT iz (l.take (n + 1)) ride = iv) := by show _ = _; rw [HI.out]; unfold insF; rw [if_pos HA.out, if_neg hk5]
                      have d2 : decide (x.kind = 2) = false := decide_eq_false hk2
                      have d4 : decide (x.kind = 4) = false := decide_eq_false hk4
                      have d5 : decide (x.kind = 5) = false := decide_eq_false hk5
                      have d6 : decide (x.kind = 6) = false := decide_eq_false hk6
                      go_wp2_with fail
                      go_roundw
                      case rel => exact ⟨n + 1, by omega, by go_num, by rw [HT2.out], by rw [HI2.out], by rw [HM2.out]; exact HRo.out, HBl.out⟩
                      case measure => simp [intOf]; omega
            · have HT2 : Hid (tstL (l.take (n + 1)) ride day = tb) := by show _ = _; rw [HT.out]; unfold tstF; rw [if_neg ha]
              have HI2 : Hid (insT iz (l.take (n + 1)) ride = iv) := by show _ = _; rw [HI.out]; unfold insF; rw [if_neg ha]
              have HM2 : Hid (manR l ride (n + 1) = manR l ride n) := HMs.out (fun h => ha h.1)
              have d1 : decide (x.a = (ride : Int)) = false := decide_eq_false ha
              have d2 : (x.a == (ride : Int)) = false := by simpa using ha
              go_wp2_with fail
              go_roundw
              case rel => exact ⟨n + 1, by omega, by go_num, by rw [HT2.out], by rw [HI2.out], by rw [HM2.out]; exact HRo.out, HBl.out⟩
              case measure => simp [intOf]; omega
          · have en : n = l.length := by omega
            have n1 : ¬ (n : Int) < (l.length : Int) := by omega
            have et : l.take n = l := by rw [en, List.take_length]
            rw [et]
            rw [en] at hrow
            have c2 : wr.cell? ⟨zm, 2, none⟩ = some (.int .i64 (manN l ride 2 l.length)) := hrow.cell (j := 2) (by simp [manR])
            have c3 : wr.cell? ⟨zm, 3, none⟩ = some (.int .i64 (manN l ride 3 l.length)) := hrow.cell (j := 3) (by simp [manR])
            have lm := hrow.lt
            have hOz : wr.ownsRow W.heap.size 3 1 (.slice Ao L1.length co) L1.length (L1.map (Value.int .i64)) := own_below HOw.out (by rw [← HZM.out]; exact HBl.out)
            have HOz := Lib.hid hOz
            have hBz : Below W.heap.size W wr := HBWX.out.trans (HBl.out.mono (by rw [HZM.out]; exact HBWX.out.size))
            have HBz := Lib.hid hBz
            have hL1 : L1.length ≤ 1 := by rw [HL1.out]; split <;> simp
            generalize manN l ride 2 l.length = q2 at HV c2
            generalize manN l ride 3 l.length = q3 at HV c3
            generalize tstL l ride day = tb at HV ⊢
            generalize insT iz l ride = iv at HV ⊢
            clear en et hlt hrow hbel hOz hBz HEc HOp HS3 HRY HBY HBwY HSX HIn HR0 HL1
            obtain ⟨Z, hZ⟩ : ∃ Z, Z = wr := ⟨_, rfl⟩
            subst hZ
            obtain ⟨df, hdf⟩ : ∃ df : Bool, df = decide (0 < q3 ∨ 1 < q2) := ⟨_, rfl⟩
            obtain ⟨L2, hL2⟩ : ∃ L2 : List Int, L2 = L1 ++ if 0 < q3 ∨ 1 < q2 then [2] else [] := ⟨_, rfl⟩
            rw [← hL2] at HV
            have HDF := Lib.hid hdf
            have HL2 : Hid (L2 = L1 ++ if df = true then [2] else []) := by
              show _ = _
              rw [hL2, hdf]
              by_cases hq : 0 < q3 ∨ 1 < q2 <;> simp [hq]
            have hL2b : L2.length ≤ 2 := by rw [HL2.out, List.length_append]; split <;> simp <;> omega
            clear hdf hL2
            go_upto_region 26 with fail
            go_cut [115] (fun s wx => s = .bool df ∧ wx = Z)
            case first =>
              by_cases g3 : 0 < q3
              · have d3 : decide (0 < q3) = true := decide_eq_true g3
                go_wp2_with fail
                go_meet
                exact ⟨by rw [HDF.out]; simp [g3], by first | rfl | trivial⟩
              · have d3 : decide (0 < q3) = false := decide_eq_false g3
                go_wp2_with fail
                go_meet
                exact ⟨by rw [HDF.out]; congr 1; rw [Bool.eq_iff_iff]; simp; omega, by first | rfl | trivial⟩
            case rest =>
              obtain ⟨rfl, hwz⟩ := hcut
              subst hwz
              first | (obtain ⟨Z, rfl⟩ : ∃ x : World, x = wc := ⟨_, rfl⟩) | skip
              clear HDF c2 c3 lm
              go_upto_if 115 with fail
              go_cut [9] (fun s9 wx => wx.ownsRow W.heap.size 3 1 s9 L2.length (L2.map (Value.int .i64)) ∧ Below W.heap.size W wx)
              case first =>
                cases df with
                | false =>
                  go_wp2_with fail
                  go_meet
                  rw [show L2 = L1 from HL2.out.trans (by simp)]
                  exact ⟨HOz.out, HBz.out⟩
                | true =>
                  have m1p : L1.length + 1 ≤ maxLen := by unfold maxLen; omega
                  have m2p : (L1.length + 1) * 8 ≤ 140737488355328 := by omega
                  have hws := HBz.out.size
                  have hown0 := HOz.out
                  go_wp2_with (at_builtin; refine wpList_app _ rfl _ _ 23 rfl (W.heap.size) 3 i0 (.int .i64 0) 1 8 Try.underlying23 hi hz0 hz1 hz2 rfl (by decide) (.slice Ao L1.length co) L1.length (L1.map (Value.int .i64)) rfl ?qop (Z.heap.size + 1) (some ⟨Z.heap.size, 0, none⟩) 1 1 ([(2 : Int)].map (Value.int .i64)) rfl ?qrp ?q1p m1p m2p ?qbp ?_)
                  case qop => first | exact owns_alloc hown0 _ | exact owns_alloc (owns_drewN hown0 _) _ | exact owns_drewN (owns_alloc hown0 _) _
                  case qrp =>
                    refine Row.reads (t := 3) ?_ rfl (by omega)
                    show Row _ _ _ [.int .i64 2]
                    first | exact row_oneI _ _ _ _ (by simp; done) | exact (row_oneI _ _ _ _ (by simp; done)).drewN _
                  case q1p => first | rfl | (intro u hu; simp at hu; subst hu; rfl)
                  case qbp => first | exact hws | (have := hws; omega) | (have := hws; simp; omega)
                  intro v' w1 hown' hbel'
                  have HB1 : Hid (Below W.heap.size W w1) := by
                    refine Below.trans ?_ hbel'
                    repeat (first | (with_reducible exact HBz.out) | (with_reducible exact hws) | (with_reducible refine below_drewN ?_ _) | (with_reducible refine Below.alloc ?_ ?_ _) | (simp; omega))
                  go_wp2_with fail
                  go_meet
                  rw [show L2 = L1 ++ [2] from HL2.out.trans (by simp)]
                  rw [List.length_append, List.map_append]
                  exact ⟨hown', HB1.out⟩
              case rest =>
                obtain ⟨hown, hbc⟩ := hcut
                obtain ⟨Zp, rfl⟩ : ∃ x : World, x = wc := ⟨_, rfl⟩
                obtain ⟨Ap, cp, rfl, -⟩ := own_readsI hown
                have HOp := Lib.hid hown
                have HBp := Lib.hid hbc
                clear hown hbc
                obtain ⟨L3, hL3⟩ : ∃ L3 : List Int, L3 = L2 ++ if tb = false then [3] else [] := ⟨_, rfl⟩
                rw [← hL3] at HV
                have HL3 := Lib.hid hL3
                have hL3b : L3.length ≤ 3 := by rw [hL3, List.length_append]; split <;> simp <;> omega
                clear hL3
                go_upto_if 120 with fail
                go_cut [9] (fun s9 wx => wx.ownsRow W.heap.size 3 1 s9 L3.length (L3.map (Value.int .i64)) ∧ Below W.heap.size W wx)
                case first =>
                  cases tb with
                  | false =>
                    have m1q : L2.length + 1 ≤ maxLen := by unfold maxLen; omega
                    have m2q : (L2.length + 1) * 8 ≤ 140737488355328 := by omega
                    have hws := HBp.out.size
                    have hown0 := HOp.out
                    go_wp2_with (at_builtin; refine wpList_app _ rfl _ _ 23 rfl (W.heap.size) 3 i0 (.int .i64 0) 1 8 Try.underlying23 hi hz0 hz1 hz2 rfl (by decide) (.slice Ap L2.length cp) L2.length (L2.map (Value.int .i64)) rfl ?qoq (Zp.heap.size + 1) (some ⟨Zp.heap.size, 0, none⟩) 1 1 ([(3 : Int)].map (Value.int .i64)) rfl ?qrq ?q1q m1q m2q ?qbq ?_)
                    case qoq => first | exact owns_alloc hown0 _ | exact owns_alloc (owns_drewN hown0 _) _ | exact owns_drewN (owns_alloc hown0 _) _
                    case qrq =>
                      refine Row.reads (t := 3) ?_ rfl (by omega)
                      show Row _ _ _ [.int .i64 3]
                      first | exact row_oneI _ _ _ _ (by simp; done) | exact (row_oneI _ _ _ _ (by simp; done)).drewN _
                    case q1q => first | rfl | (intro u hu; simp at hu; subst hu; rfl)
                    case qbq => first | exact hws | (have := hws; omega) | (have := hws; simp; omega)
                    intro v' w1 hown' hbel'
                    have HB1 : Hid (Below W.heap.size W w1) := by
                      refine Below.trans ?_ hbel'
                      repeat (first | (with_reducible exact HBp.out) | (with_reducible exact hws) | (with_reducible refine below_drewN ?_ _) | (with_reducible refine Below.alloc ?_ ?_ _) | (simp; omega))
                    go_wp2_with fail
                    go_meet
                    rw [show L3 = L2 ++ [3] from HL3.out.trans (by simp)]
                    rw [List.length_append, List.map_append]
                    exact ⟨hown', HB1.out⟩
                  | true =>
                    go_wp2_with fail
                    go_meet
                    rw [show L3 = L2 from HL3.out.trans (by simp)]
                    exact ⟨HOp.out, HBp.out⟩
                case rest =>
                  obtain ⟨hown, hbc⟩ := hcut
                  obtain ⟨Zq, rfl⟩ : ∃ x : World, x = wc := ⟨_, rfl⟩
                  obtain ⟨Aq, cq, rfl, -⟩ := own_readsI hown
                  have HOq := Lib.hid hown
                  have HBq := Lib.hid hbc
                  clear hown hbc
                  obtain ⟨db, hdb⟩ : ∃ db : Bool, db = decide (iv < day) := ⟨_, rfl⟩
                  have HL4 : Hid (V = L3 ++ if db = true then [4] else []) := by
                    show _ = _
                    rw [HV.out, hdb]
                    by_cases hq : iv < day <;> simp [hq]
                  have HDB := Lib.hid hdb
                  clear hdb HV
                  by_cases hiv : iv < day
                  · have HV4 : Hid (V = L3 ++ [4]) := by show _ = _; rw [HL4.out, HDB.out, decide_eq_true hiv]; rfl
                    have d1 : decide (iv < day) = true := decide_eq_true hiv
                    have m1r : L3.length + 1 ≤ maxLen := by unfold maxLen; omega
                    have m2r : (L3.length + 1) * 8 ≤ 140737488355328 := by omega
                    have hws := HBq.out.size
                    have hown0 := HOq.out
                    clear hiv
                    go_wp2_with (at_builtin; refine wpList_app _ rfl _ _ 23 rfl (W.heap.size) 3 i0 (.int .i64 0) 1 8 Try.underlying23 hi hz0 hz1 hz2 rfl (by decide) (.slice Aq L3.length cq) L3.length (L3.map (Value.int .i64)) rfl ?qor (Zq.heap.size + 1) (some ⟨Zq.heap.size, 0, none⟩) 1 1 ([(4 : Int)].map (Value.int .i64)) rfl ?qrr ?q1r m1r m2r ?qbr ?_)
                    case qor => first | exact owns_alloc hown0 _ | exact owns_alloc (owns_drewN hown0 _) _ | exact owns_drewN (owns_alloc hown0 _) _
                    case qrr =>
                      refine Row.reads (t := 3) ?_ rfl (by omega)
                      show Row _ _ _ [.int .i64 4]
                      first | exact row_oneI _ _ _ _ (by simp; done) | exact (row_oneI _ _ _ _ (by simp; done)).drewN _
                    case q1r => first | rfl | (intro u hu; simp at hu; subst hu; rfl)
                    case qbr => first | exact hws | (have := hws; omega) | (have := hws; simp; omega)
                    intro v' w1 hown' hbel'
                    have HB1 : Hid (Below W.heap.size W w1) := by
                      refine Below.trans ?_ hbel'
                      repeat (first | (with_reducible exact HBq.out) | (with_reducible exact hws) | (with_reducible refine below_drewN ?_ _) | (with_reducible refine Below.alloc ?_ ?_ _) | (simp; omega))
                    obtain ⟨A4, c4, rfl, hr4⟩ := own_readsI hown'
                    have HR4 := Lib.hid hr4
                    clear hown' hbel' hr4
                    go_wp2_with fail
                    go_ret
                    refine ⟨HBW.out.trans (HB1.out.mono HBW.out.size), A4, c4, ?_, ?_⟩
                    · rw [HV4.out, List.length_append]; rfl
                    · rw [HV4.out, List.length_append, List.map_append]; exact HR4.out
                  · have HV4 : Hid (V = L3) := by show _ = _; rw [HL4.out, HDB.out, decide_eq_false hiv]; simp
                    have d1 : decide (iv < day) = false := decide_eq_false hiv
                    obtain ⟨A4, c4, hA4, hr4⟩ := own_readsI HOq.out
                    have HR4 := Lib.hid hr4
                    injection hA4 with hA4 _ hc4
                    subst hA4 hc4
                    clear hiv hr4
                    go_wp2_with fail
                    go_ret
                    refine ⟨HBW.out.trans (HBq.out.mono HBW.out.size), Aq, cq, ?_, ?_⟩
                    · first | (rw [HV4.out]; done) | (rw [HV4.out]; rfl)
                    · rw [HV4.out]; exact HR4.out
end Go.Proofs.Ytaocgkmobfocjaa
