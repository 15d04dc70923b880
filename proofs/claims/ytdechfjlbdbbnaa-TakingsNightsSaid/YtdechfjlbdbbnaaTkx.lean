/- Contract of the specification's split. Conditions: an amount; weights that read as data and are right. -/
import Derived.Test.YtdechfjlbdbbnaaTkv
import Derived.Test.YtdechfjlbdbbnaaTkq
namespace Go.Proofs.Ytdechfjlbdbbnaa
open Go.RowKit Go.Shelf

/-- The best of the first k that have no cent more yet. -/
def BestI (c : Int) (ws : List Int) (m k : Nat) (b : Int) : Prop :=
  (b = -1 ∧ ∀ q, q < k → rnkZ c ws q < m) ∨ (∃ j : Nat, b = (j : Int) ∧ j < k ∧ m ≤ rnkZ c ws j ∧ ∀ q, q < k → m ≤ rnkZ c ws q → rnkZ c ws j ≤ rnkZ c ws q)
theorem BestI.got {c : Int} {ws : List Int} {m k : Nat} {b : Int} (h : BestI c ws m k b) (hk : rnkZ c ws k < m) : BestI c ws m (k + 1) b := by
  rcases h with ⟨h1, h2⟩ | ⟨j, h1, h2, h3, h4⟩
  · exact .inl ⟨h1, fun q hq => by
      by_cases e : q = k
      · subst e; exact hk
      · exact h2 q (by omega)⟩
  · exact .inr ⟨j, h1, by omega, h3, fun q hq hm => by
      by_cases e : q = k
      · subst e; omega
      · exact h4 q (by omega) hm⟩
theorem BestI.first {c : Int} {ws : List Int} {m k : Nat} (h : BestI c ws m k (-1)) (hk : m ≤ rnkZ c ws k) : BestI c ws m (k + 1) (k : Int) := by
  rcases h with ⟨_, h2⟩ | ⟨j, h1, _⟩
  · exact .inr ⟨k, rfl, by omega, hk, fun q hq hm => by
      by_cases e : q = k
      · subst e; exact Nat.le_refl _
      · have := h2 q (by omega); omega⟩
  · omega
theorem BestI.new {c : Int} {ws : List Int} {m k j : Nat} (h : BestI c ws m k (j : Int)) (hkn : k < ws.length) (hk : m ≤ rnkZ c ws k) (hc : cutZ c ws j < cutZ c ws k) : BestI c ws m (k + 1) (k : Int) := by
  obtain ⟨l, ho⟩ := ordl_ex c ws
  rcases h with ⟨h1, _⟩ | ⟨j', h1, h2, h3, h4⟩
  · omega
  · have e : j' = j := by omega
    subst e
    have hb : befZ c ws k j' = true := by unfold befZ; simp [hc]
    have hr := ho.rank_of (befZ_tot c ws) hkn (by omega) hb
    change rnkZ c ws k < rnkZ c ws j' at hr
    exact .inr ⟨k, rfl, by omega, hk, fun q hq hm => by
      by_cases e : q = k
      · subst e; exact Nat.le_refl _
      · have := h4 q (by omega) hm; omega⟩
theorem BestI.old {c : Int} {ws : List Int} {m k j : Nat} (h : BestI c ws m k (j : Int)) (hkn : k < ws.length) (hc : ¬ cutZ c ws j < cutZ c ws k) : BestI c ws m (k + 1) (j : Int) := by
  obtain ⟨l, ho⟩ := ordl_ex c ws
  rcases h with ⟨h1, _⟩ | ⟨j', h1, h2, h3, h4⟩
  · omega
  · have e : j' = j := by omega
    subst e
    have hb : befZ c ws j' k = true := by
      unfold befZ
      simp only [Bool.or_eq_true, Bool.and_eq_true, decide_eq_true_eq]
      omega
    have hr := ho.rank_of (befZ_tot c ws) (by omega) hkn hb
    change rnkZ c ws j' < rnkZ c ws k at hr
    exact .inr ⟨j', rfl, by omega, h3, fun q hq hm => by
      by_cases e : q = k
      · subst e; omega
      · exact h4 q (by omega) hm⟩
theorem BestI.done {c : Int} {ws : List Int} {m : Nat} {b : Int} (h : BestI c ws m ws.length b) (hm : m < ws.length) : ∃ j : Nat, b = (j : Int) ∧ j < ws.length ∧ rnkZ c ws j = m := by
  obtain ⟨l, ho⟩ := ordl_ex c ws
  have hl : m < l.length := by rw [ho.len]; exact hm
  have hr : rnkZ c ws l[m] = m := ho.rank (befZ_tot c ws) hl
  have hx := ho.lt hl
  rcases h with ⟨_, h2⟩ | ⟨j, h1, h2, h3, h4⟩
  · have := h2 _ hx; omega
  · have := h4 _ hx (by omega)
    exact ⟨j, h1, h2, by omega⟩
/-- Who has a cent more. -/
def gotL (c : Int) (ws : List Int) (m : Nat) : List Value := (List.range ws.length).map fun i => .bool (decide (rnkZ c ws i < m))
theorem gotL_len (c : Int) (ws : List Int) (m : Nat) : (gotL c ws m).length = ws.length := by simp [gotL]
theorem gotL_zero (c : Int) (ws : List Int) : gotL c ws 0 = List.replicate ws.length (.bool false) := by
  refine List.ext_getElem? fun i => ?_
  unfold gotL
  rw [List.getElem?_map, List.getElem?_replicate]
  by_cases hi : i < ws.length
  · rw [List.getElem?_range hi, if_pos hi]; simp
  · rw [List.getElem?_eq_none (by simp; omega), if_neg hi]; rfl
theorem gotL_at (c : Int) (ws : List Int) (m : Nat) {i : Nat} (hi : i < ws.length) : (gotL c ws m)[i]? = some (.bool (decide (rnkZ c ws i < m))) := by
  unfold gotL
  rw [List.getElem?_map, List.getElem?_range hi]; rfl
theorem gotL_set (c : Int) (ws : List Int) {m x : Nat} (hx : x < ws.length) (hr : rnkZ c ws x = m) : (gotL c ws m).set x (.bool true) = gotL c ws (m + 1) := by
  obtain ⟨l, ho⟩ := ordl_ex c ws
  refine List.ext_getElem? fun i => ?_
  rw [List.getElem?_set]
  by_cases hi : i < ws.length
  · rw [gotL_at _ _ _ hi, gotL_at _ _ _ hi, gotL_len]
    by_cases e : x = i
    · subst e
      rw [if_pos rfl, if_pos hi, hr]; simp
    · rw [if_neg e]
      have hne : rnkZ c ws i ≠ m := fun h => e (ho.rank_inj (befZ_tot c ws) hx hi (hr.trans h.symm))
      have : decide (rnkZ c ws i < m) = decide (rnkZ c ws i < m + 1) := by
        by_cases h2 : rnkZ c ws i < m
        · rw [decide_eq_true h2, decide_eq_true (by omega)]
        · rw [decide_eq_false h2, decide_eq_false (by omega)]
      rw [this]
  · have h1 : (gotL c ws (m + 1))[i]? = none := List.getElem?_eq_none (by rw [gotL_len]; omega)
    have h2 : (gotL c ws m)[i]? = none := List.getElem?_eq_none (by rw [gotL_len]; omega)
    rw [h1, h2, if_neg (by omega)]
theorem partL_up (c : Int) (ws : List Int) {m x : Nat} (hx : x < ws.length) (hr : rnkZ c ws x = m) : partZ c ws m x = floZ c ws x ∧ (partL c ws m).set x (.int .i64 (floZ c ws x + 1)) = partL c ws (m + 1) := by
  obtain ⟨l, ho⟩ := ordl_ex c ws
  obtain ⟨p, hp, he⟩ := ho.place hx
  have : p = m := by rw [← hr, ← he]; exact (ho.rank (befZ_tot c ws) hp).symm
  subst this
  exact partL_set c ws ho hp he
theorem run_mkTB (n : Nat) (hn : n ≤ 100) (w : World) : ∃ M : Array Value, M.toList = List.replicate n (.bool false) ∧ (Instr.makeSlice 90 (.int .i64 (n : Int)) (.int .i64 (n : Int))).run Try.prog w = .ok (.slice (some ⟨w.heap.size, 0, none⟩) n n) (w.alloc (.cells M 4)) :=
  ⟨_, by
    refine List.ext_getElem? fun i => ?_
    simp only [madeCells, List.getElem?_replicate, Array.getElem?_toList, Array.getElem?_map, Array.getElem?_range]
    by_cases hi : i < n
    · simp [hi, Nat.mod_one]
    · simp [hi], run_make_row' _ _ _ _ Try.underlying90 (show (Try.prog.info? 4).map (fun i => (i.zero, i.size, i.bytes)) = some (some (.bool false), 1, 1) by kernel_rfl) rfl .i64 .i64 n (by omega) (by omega) w⟩
set_option maxHeartbeats 8000000 in
set_option maxRecDepth 100000 in
theorem rsplit_any (c : Int) (ws : List Int) (h : WOk ws) (h0 : 0 ≤ c) (h1 : c ≤ 1000000000) (A : Option Addr) (ca B : Nat) (w : World) (hB : B ≤ w.heap.size) (hr : Reads w B 1 A ws.length (ws.map (Value.int .i64))) :
    Calls Try.prog 43 #[.int .i64 c, .slice A ws.length ca] w fun e w' => ∃ g ca', e = .returned (.slice (some ⟨g, 0, none⟩) ws.length ca') ∧ w.heap.size ≤ g ∧ Row w' g 3 ((splitZ c ws).map (Value.int .i64)) ∧ Below w.heap.size w w' := by
  have l1 := h.l1
  have l10 := h.l10
  have HT := Lib.hid (rSum_any ws A ws.length ca B w hr (by unfold maxLen; omega))
  obtain ⟨b, o, rfl, hb, hc⟩ := hr.at1 (k := 0) (by omega)
  have HC := Lib.hid hc
  clear hc hr
  obtain ⟨n, hn⟩ : ∃ n, n = ws.length := ⟨_, rfl⟩
  have Hn := Lib.hid hn
  rw [← hn] at HT HC l1 l10 ⊢
  obtain ⟨M0, hM0, hmk0⟩ := run_mkT n (by omega) w
  obtain ⟨W1, hW1⟩ : ∃ W, W = w.alloc (.cells M0 3) := ⟨_, rfl⟩
  have rW1 : Row W1 w.heap.size 3 (fillL (floZ c ws) n 0) := by rw [fillL_zero, ← hM0, hW1]; exact Row.new w _ M0
  have bW1 : Below w.heap.size w W1 := by rw [hW1]; exact (Below.refl _ _).alloc (Nat.le_refl _) _
  obtain ⟨M1, hM1, hmk1⟩ := run_mkTB n (by omega) W1
  obtain ⟨W2, hW2⟩ : ∃ W, W = W1.alloc (.cells M1 4) := ⟨_, rfl⟩
  have bW2 : Below w.heap.size w W2 := by rw [hW2]; exact bW1.alloc bW1.size _
  have rP2 : Row W2 w.heap.size 3 (fillL (floZ c ws) n 0) := by rw [hW2]; exact rW1.alloc _
  have rG2 : Row W2 W1.heap.size 4 (gotL c ws 0) := by rw [gotL_zero, ← hn, ← hM1, hW2]; exact Row.new W1 _ M1
  have g01 := rW1.lt
  clear hM0 hM1 hn
  go_enter Try.func43, Try.ntmps43
  go_upto_region 3 with (go_at_call 27; refine HT.out.mono ?_; rintro e w' ⟨rfl, rfl⟩)
  rw [← hW1]
  clear hmk0 hW1 rW1 bW1
  go_upto_region 4 with fail
  rw [← hW2]
  clear hmk1 hW2
  generalize W1.heap.size = g1 at rG2 g01 ⊢
  have HP2 := Lib.hid rP2
  have HG2 := Lib.hid rG2
  have HB2 := Lib.hid bW2
  clear rP2 rG2 bW2
  go_wp2_with fail
  go_loopw [8, 9] (fun lv i wr => ∃ k : Nat, k ≤ n ∧ i = .int .i64 k ∧ lv = .int .i64 (c - sumN (floZ c ws) k) ∧ Below w.heap.size w wr ∧ Row wr w.heap.size 3 (fillL (floZ c ws) n k) ∧ Row wr g1 4 (gotL c ws 0)) (fun _ i _ => n - (intOf i).toNat)
  case atStart => exact ⟨0, Nat.zero_le _, rfl, by simp [sumN], HB2.out, HP2.out, HG2.out⟩
  case round =>
    obtain ⟨k, hk, rfl, rfl, hbel, rP, rG⟩ := hrel
    by_cases hlt : k < n
    · have hkw : k < ws.length := by have := Hn.out; omega
      have i0 : ¬ (k : Int) < 0 := by omega
      have i1 : (k : Int) < (n : Int) := by omega
      have ew : IntKind.i64.wrap ((k : Int) + 1) = (k : Int) + 1 := IntWalk.i64_in _ (by omega)
      have cw : wr.cell? ⟨b, o + k, none⟩ = some (.int .i64 (wAt ws k)) := by rw [hbel.cell (p := ⟨b, o + k, none⟩) (show b < w.heap.size by omega)]; exact HC.out k hlt
      have lb : b < wr.heap.size := by have := hbel.size; omega
      have hm := share_bd h h0 h1 k hkw
      have hT := h.pos
      have hd := flo_cut h h0 k hkw
      have hle : floZ c ws k ≤ c * wAt ws k := Int.ediv_le_self _ hm.1
      have e1 : IntKind.i64.wrap (c * wAt ws k) = c * wAt ws k := IntWalk.i64_in _ (by omega)
      have e2 : IntKind.i64.wrap ((c * wAt ws k).tdiv (sumW ws)) = floZ c ws k := by
        rw [Int.tdiv_eq_ediv_of_nonneg hm.1]
        exact IntWalk.i64_in _ ⟨by have := hd.2.2.2; unfold floZ at this; omega, by unfold floZ at hle; omega⟩
      have hz : ¬ sumW ws = 0 := by omega
      have hs0 : 0 ≤ sumN (floZ c ws) k := sumN_nonneg k fun i hi => (flo_cut h h0 i (by omega)).2.2.2
      have hs1 : sumN (floZ c ws) k ≤ k * 1000000000000 := sumN_le k fun i hi => by
        have a := share_bd h h0 h1 i (by omega)
        have : floZ c ws i ≤ c * wAt ws i := Int.ediv_le_self _ a.1
        omega
      have hq0 := hd.2.2.2
      have HS : Hid (sumN (floZ c ws) (k + 1) = sumN (floZ c ws) k + floZ c ws k) := rfl
      have hq1 : floZ c ws k ≤ 1000000000000 := by omega
      obtain ⟨q, hq⟩ : ∃ q, q = floZ c ws k := ⟨_, rfl⟩
      rw [← hq] at e2 HS hq0 hq1
      have HQ := Lib.hid hq
      have ews : IntKind.i64.wrap (c - sumN (floZ c ws) k - q) = c - sumN (floZ c ws) k - q := IntWalk.i64_in _ (by omega)
      have p0 : wr.cell? ⟨w.heap.size, k, none⟩ = some (.int .i64 (if k < k then floZ c ws k else 0)) := by rw [rP.cell (by rw [fillL_len]; exact hlt)]; exact fillL_at _ _ hlt
      have f0 := rP.frozen k
      have lP := rP.lt
      have HP := Lib.hid rP
      have HG := Lib.hid rG
      have Hbe := Lib.hid hbel
      clear hm hd hle hs0 hs1 hq rP rG hbel hq0 hq1 hT
      go_wp2_with fail
      go_roundw
      case rel =>
        refine ⟨k + 1, by omega, by go_num, by rw [HS.out]; congr 1; omega, Hbe.out.setCell (Nat.le_refl _) _, ?_, HG.out.far (by show ¬ g1 = w.heap.size; omega) _⟩
        rw [← fillL_set, ← HQ.out]
        exact HP.out.set k _
      case measure => simp [intOf]; omega
    · have ek : k = n := by omega
      subst ek
      have HP := Lib.hid rP
      have HG := Lib.hid rG
      have Hbe := Lib.hid hbel
      clear rP rG hbel
      have hkw := Hn.out
      have hlb := lef_bd h h0
      obtain ⟨M, hM⟩ : ∃ M : Nat, M = (lefZ c ws).toNat := ⟨_, rfl⟩
      have hML : lefZ c ws = (M : Int) := by omega
      have hMk : M < k := by omega
      have hst : c - sumN (floZ c ws) k = (M : Int) := by rw [← hML, hkw]; rfl
      have HST := Lib.hid hst
      have HML := Lib.hid hML
      have HP0 : Hid (Row wr w.heap.size 3 (partL c ws 0)) := by show Row _ _ _ _; rw [← partL_zero, ← hkw]; exact HP.out
      clear hlb hM hML hst hkw HP
      go_wp2_with fail
      go_loopw [8] (fun lv wr => ∃ m : Nat, m ≤ M ∧ lv = .int .i64 ((M : Int) - m) ∧ Below w.heap.size w wr ∧ Row wr w.heap.size 3 (partL c ws m) ∧ Row wr g1 4 (gotL c ws m)) (fun lv _ => (intOf lv).toNat)
      case atStart => exact ⟨0, Nat.zero_le _, by rw [HST.out]; simp, Hbe.out, HP0.out, HG.out⟩
      case round =>
        obtain ⟨m, hmM, rfl, hbel, rP, rG⟩ := hrel
        have HP := Lib.hid rP
        have HG := Lib.hid rG
        have Hbe := Lib.hid hbel
        by_cases hlt2 : m < M
        · have hpos : (0 : Int) < (M : Int) - (m : Int) := by omega
          have ewl : IntKind.i64.wrap ((M : Int) - (m : Int) - 1) = (M : Int) - (m : Int) - 1 := IntWalk.i64_in _ (by omega)
          have lG := rG.lt
          have lPp := rP.lt
          have lbw : b < wr.heap.size := by have := hbel.size; omega
          have HCW : Hid (∀ Z, Below wr.heap.size wr Z → ∀ j, j < k → Z.cell? ⟨b, o + j, none⟩ = some (.int .i64 (wAt ws j)) ∧ b < Z.heap.size) := fun Z hZ j hj => ⟨by rw [(hbel.trans (hZ.mono hbel.size)).cell (p := ⟨b, o + j, none⟩) (show b < w.heap.size by omega)]; exact HC.out j hj, Nat.lt_of_lt_of_le lbw hZ.size⟩
          have HCG : Hid (∀ Z, Below wr.heap.size wr Z → ∀ j, j < k → Z.cell? ⟨g1, j, none⟩ = some (.bool (decide (rnkZ c ws j < m))) ∧ g1 < Z.heap.size) := fun Z hZ j hj => by
            have r := HG.out.below hZ lG
            have hjw : j < ws.length := by have := Hn.out; omega
            exact ⟨by rw [r.cell (by rw [gotL_len]; exact hjw)]; exact gotL_at _ _ _ hjw, r.lt⟩
          clear rP rG hbel
          go_upto_region 13 with fail
          go_wp2_with fail
          go_loopw [10, 11] (fun bv i Z => ∃ (q : Nat) (bz : Int), q ≤ k ∧ i = .int .i64 q ∧ bv = .int .i64 bz ∧ BestI c ws m q bz ∧ Below wr.heap.size wr Z) (fun _ i _ => k - (intOf i).toNat)
          case atStart => exact ⟨0, -1, Nat.zero_le _, rfl, rfl, .inl ⟨rfl, fun q hq => by omega⟩, Below.refl _ _⟩
          case round =>
            obtain ⟨q, bz, hqk, rfl, rfl, hbi, hbZ⟩ := hrel
            have HbZ := Lib.hid hbZ
            by_cases hq : q < k
            · have hqw : q < ws.length := by have := Hn.out; omega
              have q0 : ¬ (q : Int) < 0 := by omega
              have q1 : (q : Int) < (k : Int) := by omega
              have ewq : IntKind.i64.wrap ((q : Int) + 1) = (q : Int) + 1 := IntWalk.i64_in _ (by omega)
              obtain ⟨v0, lv0⟩ := HCW.out wr hbZ q hq
              obtain ⟨v1, lv1⟩ := HCG.out wr hbZ q hq
              by_cases hr : rnkZ c ws q < m
              · have HBI := Lib.hid (hbi.got hr)
                rw [decide_eq_true hr] at v1
                clear hbi hbZ hr
                go_upto_region 16 with fail
                go_quiet (fail)
                go_wp2_with fail
                go_roundw
                case rel => exact ⟨q + 1, bz, by omega, by go_num, rfl, HBI.out, below_drewN HbZ.out _⟩
                case measure => simp [intOf]; omega
              · rw [decide_eq_false hr] at v1
                have hcm := share_bd h h0 h1 q hqw
                have hcc := flo_cut h h0 q hqw
                have htop := h.top
                have e1 : IntKind.i64.wrap (c * wAt ws q) = c * wAt ws q := IntWalk.i64_in _ (by omega)
                have e3 : IntKind.i64.wrap ((c * wAt ws q).tmod (sumW ws)) = cutZ c ws q := by
                  rw [Int.tmod_eq_emod_of_nonneg hcm.1]
                  exact IntWalk.i64_in _ ⟨by have := hcc.2.1; unfold cutZ at this; omega, by have := hcc.2.2.1; unfold cutZ at this; omega⟩
                have hz : ¬ sumW ws = 0 := by have := h.pos; omega
                clear hcm hcc htop
                rcases hbi with ⟨hb1, hb2⟩ | ⟨j, hb1, hb2, hb3, hb4⟩
                · subst hb1
                  have HBI : Hid (BestI c ws m (q + 1) (q : Int)) := BestI.first (.inl ⟨rfl, hb2⟩) (by omega)
                  clear hbZ hr hb2
                  go_upto_region 16 with fail
                  go_quiet (fail)
                  go_wp2_with fail
                  go_roundw
                  case rel => exact ⟨q + 1, (q : Int), by omega, by go_num, rfl, HBI.out, below_drewN HbZ.out _⟩
                  case measure => simp [intOf]; omega
                · subst hb1
                  have hbi2 : BestI c ws m q (j : Int) := .inr ⟨j, rfl, hb2, hb3, hb4⟩
                  have hjk : j < k := by omega
                  have hjw : j < ws.length := by omega
                  obtain ⟨v2, _⟩ := HCW.out wr hbZ j hjk
                  have hcm := share_bd h h0 h1 j hjw
                  have hcc := flo_cut h h0 j hjw
                  have htop := h.top
                  have e4 : IntKind.i64.wrap (c * wAt ws j) = c * wAt ws j := IntWalk.i64_in _ (by omega)
                  have e5 : IntKind.i64.wrap ((c * wAt ws j).tmod (sumW ws)) = cutZ c ws j := by
                    rw [Int.tmod_eq_emod_of_nonneg hcm.1]
                    exact IntWalk.i64_in _ ⟨by have := hcc.2.1; unfold cutZ at this; omega, by have := hcc.2.2.1; unfold cutZ at this; omega⟩
                  have j0 : ¬ (j : Int) < 0 := by omega
                  have j1 : (j : Int) < (k : Int) := by omega
                  clear hcm hcc htop
                  have t4 : (c * wAt ws q).tmod (sumW ws) = cutZ c ws q := by rw [Int.tmod_eq_emod_of_nonneg (share_bd h h0 h1 q hqw).1]; rfl
                  have t5 : (c * wAt ws j).tmod (sumW ws) = cutZ c ws j := by rw [Int.tmod_eq_emod_of_nonneg (share_bd h h0 h1 j hjw).1]; rfl
                  by_cases hcc : cutZ c ws j < cutZ c ws q
                  · have HBI := Lib.hid (hbi2.new hqw (by omega) hcc)
                    have hdd : (c * wAt ws j).tmod (sumW ws) < (c * wAt ws q).tmod (sumW ws) := by rw [t4, t5]; exact hcc
                    clear hbi2 hbZ hr hb2 hb3 hb4 t4 t5 e3 e5 hcc
                    go_upto_region 16 with fail
                    go_quiet (fail)
                    go_wp2_with fail
                    go_roundw
                    case rel => exact ⟨q + 1, (q : Int), by omega, by go_num, rfl, HBI.out, below_drewN HbZ.out _⟩
                    case measure => simp [intOf]; omega
                  · have HBI := Lib.hid (hbi2.old hqw hcc)
                    have hdd : ¬ (c * wAt ws j).tmod (sumW ws) < (c * wAt ws q).tmod (sumW ws) := by rw [t4, t5]; exact hcc
                    clear hbi2 hbZ hr hb2 hb3 hb4 t4 t5 e3 e5 hcc
                    go_upto_region 16 with fail
                    go_quiet (fail)
                    go_wp2_with fail
                    go_roundw
                    case rel => exact ⟨q + 1, (j : Int), by omega, by go_num, rfl, HBI.out, below_drewN HbZ.out _⟩
                    case measure => simp [intOf]; omega
            · have eq : q = k := by omega
              have hge3 : ¬ (q : Int) < (k : Int) := by omega
              have hkw := Hn.out
              have hbi2 : BestI c ws m ws.length bz := by rw [← hkw, ← eq]; exact hbi
              obtain ⟨j, rfl, hjw, hjr⟩ := hbi2.done (by omega)
              have hjk : j < k := by omega
              obtain ⟨hp1, hp2⟩ := partL_up c ws hjw hjr
              have hg2 := gotL_set c ws hjw hjr
              have rP := HP.out.below hbZ HP.out.lt
              have rG := HG.out.below hbZ HG.out.lt
              have v0 : wr.cell? ⟨w.heap.size, j, none⟩ = some (.int .i64 (floZ c ws j)) := by rw [rP.cell (by rw [partL_len]; exact hjw), partL_at _ _ _ hjw, hp1]
              have v1 : wr.cell? ⟨g1, j, none⟩ = some (.bool (decide (rnkZ c ws j < m))) := by rw [rG.cell (by rw [gotL_len]; exact hjw)]; exact gotL_at _ _ _ hjw
              have f0 := rP.frozen j
              have f1 := rG.frozen j
              have lP := rP.lt
              have lG2 := rG.lt
              have j0 : ¬ (j : Int) < 0 := by omega
              have j1 : (j : Int) < (k : Int) := by omega
              have hm3 := share_bd h h0 h1 j hjw
              have hf0 := (flo_cut h h0 j hjw).2.2.2
              have hfl : floZ c ws j ≤ c * wAt ws j := Int.ediv_le_self _ hm3.1
              have ewf : IntKind.i64.wrap (floZ c ws j + 1) = floZ c ws j + 1 := IntWalk.i64_in _ (by omega)
              have n1 : ¬ w.heap.size = g1 := by omega
              have n2 : ¬ g1 = w.heap.size := by omega
              have HRP := Lib.hid rP
              have HRG := Lib.hid rG
              have HP2' := Lib.hid hp2
              have HG2' := Lib.hid hg2
              have HbZ2 := Lib.hid (Hbe.out.trans (hbZ.mono Hbe.out.size))
              clear hm3 hf0 hfl rP rG hp1 hp2 hg2 hbi2 hbi eq hkw hjr hbZ
              go_wp2_with fail
              go_roundw
              case rel =>
                refine ⟨m + 1, by omega, by congr 1; omega, ?_, ?_, ?_⟩
                · exact (HbZ2.out.setCell (by show w.heap.size ≤ g1; omega) _).setCell (Nat.le_refl _) _
                · rw [← HP2'.out]; exact (HRP.out.far n1 _).set j _
                · rw [← HG2'.out]; exact (HRG.out.set j _).far n2 _
              case measure => simp [intOf]; omega
        · have em : m = M := by omega
          have hneg : ¬ (0 : Int) < (M : Int) - (m : Int) := by omega
          have e2 : (splitZ c ws).map (Value.int .i64) = partL c ws m := by
            unfold splitZ partL
            rw [List.map_map, HML.out, em]
            rfl
          have HE := Lib.hid e2
          clear rP rG hbel e2 em
          go_wp2_with fail
          go_ret
          refine ⟨w.heap.size, ⟨k, rfl⟩, Nat.le_refl _, ?_, Hbe.out⟩
          rw [HE.out]
          exact HP.out
end Go.Proofs.Ytdechfjlbdbbnaa
