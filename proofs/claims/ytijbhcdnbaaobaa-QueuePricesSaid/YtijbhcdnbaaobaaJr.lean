/- Contracts of queue's forDue, for each of the three things that it does. Conditions: a valid evening that lies in memory, in a moment of it. -/
import Derived.Test.YtijbhcdnbaaobaaJo
/- Contract of queue's measureQueues. Conditions: a valid evening that lies in memory, in a moment of it. -/
namespace Go.Proofs.Ytijbhcdnbaaobaa
open Go.RowKit

theorem guests_snoc (s : EvS) (q : List Nat) (j : Nat) (h : j < q.length) : guestsS s (q.take (j + 1)) = guestsS s (q.take j) + (s.grp q[j]).g.size := by
  unfold guestsS
  rw [List.take_succ_eq_append_getElem h, List.foldl_append]
  rfl
theorem guests_bd {s : EvS} (hf : FitS s) : ∀ (q : List Nat), (∀ i ∈ q, i < s.groups.length) → 0 ≤ guestsS s q ∧ guestsS s q ≤ 40 * (q.length : Int) := by
  have key : ∀ (q : List Nat) (n : Int), (∀ i ∈ q, i < s.groups.length) → n ≤ q.foldl (fun n i => n + (s.grp i).g.size) n ∧ q.foldl (fun n i => n + (s.grp i).g.size) n ≤ n + 40 * (q.length : Int) := by
    intro q
    induction q with
    | nil => intro n _; simp
    | cons i q ih =>
      intro n h
      have h1 := ih (n + (s.grp i).g.size) fun j hj => h j (List.mem_cons_of_mem _ hj)
      have h2 := (hf.gp i (h i List.mem_cons_self)).2.1
      simp only [List.foldl_cons, List.length_cons]
      omega
  intro q h
  have := key q 0 h
  unfold guestsS
  omega
/-- The first k rides have been measured. -/
def measK (s : EvS) (k : Nat) : EvS := { s with rides := s.rides.mapIdx fun j x => if j < k then { x with longest := max x.longest (guestsS s x.q) } else x }
theorem measK_zero (s : EvS) : measK s 0 = s := by
  have : (s.rides.mapIdx fun j x => if j < 0 then { x with longest := max x.longest (guestsS s x.q) } else x) = s.rides := by
    refine List.ext_getElem? fun j => ?_
    rw [List.getElem?_mapIdx]
    cases s.rides[j]? <;> simp
  unfold measK
  rw [this]
theorem measK_all (s : EvS) : measK s s.rides.length = measureS s := by
  have : (s.rides.mapIdx fun j x => if j < s.rides.length then { x with longest := max x.longest (guestsS s x.q) } else x) = s.rides.map fun x => { x with longest := max x.longest (guestsS s x.q) } := by
    refine List.ext_getElem? fun j => ?_
    rw [List.getElem?_mapIdx, List.getElem?_map]
    cases h : s.rides[j]? with
    | none => rfl
    | some x =>
      have hj := (List.getElem?_eq_some_iff.1 h).1
      simp [hj]
  unfold measK measureS
  rw [this]
theorem measK_succ (s : EvS) (k : Nat) (_ : k < s.rides.length) : measK s (k + 1) = (measK s k).modR k fun x => { x with longest := max (s.rd k).longest (guestsS s (s.rd k).q) } := by
  have : (s.rides.mapIdx fun j x => if j < k + 1 then { x with longest := max x.longest (guestsS s x.q) } else x) = (s.rides.mapIdx fun j x => if j < k then { x with longest := max x.longest (guestsS s x.q) } else x).modify k fun x => { x with longest := max (s.rd k).longest (guestsS s (s.rd k).q) } := by
    refine List.ext_getElem? fun j => ?_
    rw [List.getElem?_mapIdx, List.getElem?_modify, List.getElem?_mapIdx]
    cases h : s.rides[j]? with
    | none => rfl
    | some x =>
      by_cases e : k = j
      · subst e
        have hx : s.rd k = x := by unfold EvS.rd; rw [List.getD_eq_getElem?_getD, h]; rfl
        simp [hx]
      · by_cases h2 : j < k
        · have h3 : j < k + 1 := by omega
          simp [h2, h3, e]
        · have h3 : ¬ j < k + 1 := by omega
          simp [h2, h3, e]
  unfold measK EvS.modR
  rw [this]
theorem measK_rd (s : EvS) (k r : Nat) (hr : r < s.rides.length) (_ : k ≤ r) : (measK s k).rd r = s.rd r := by
  unfold measK EvS.rd
  rw [List.getD_eq_getElem?_getD, List.getD_eq_getElem?_getD, List.getElem?_mapIdx, List.getElem?_eq_getElem hr]
  simp
  omega
theorem measK_len (s : EvS) (k : Nat) : (measK s k).rides.length = s.rides.length := by simp [measK]
set_option maxRecDepth 100000 in
set_option maxHeartbeats 4000000 in
theorem measure_any {a : EvS} (hB : BigS a) {E : EvE} {w : World} {s : EvS} (h : EvAt E w s) (hb : BothS a s) :
    Calls Try.prog 95 #[.pointer (some ⟨E.v, 0, none⟩)] w (StepTo E w (measureS s)) := by
  have HE : Hid (EvAt E w (measK s 0)) := by show EvAt _ _ _; rw [measK_zero]; exact h
  obtain ⟨qs, uv, h⟩ := h
  have v2 := h.v2
  have l1 := h.vc.2.2.2
  have hf := fit_of hB hb
  have hnr := hf.nr
  have hng := hf.ng
  have hbas := h.bas
  have HF := Lib.hid hf
  have HR := Lib.hid (measK_all s)
  clear h hb hf
  obtain ⟨n, hnn⟩ : ∃ n, n = s.rides.length := ⟨_, rfl⟩
  rw [← hnn] at v2 hnr HR
  have Hnn := Lib.hid hnn
  clear hnn
  go_enter Try.func95, Try.ntmps95
  go_wp2_with fail
  go_loopw [12] (fun ix wr => ∃ k : Nat, k ≤ n ∧ ix = .int .i64 k ∧ Hid (Below E.base w wr) ∧ Hid (EvAt E wr (measK s k))) (fun ix _ => n - (intOf ix).toNat)
  case atStart => exact ⟨0, Nat.zero_le _, rfl, Below.refl _ _, HE.out⟩
  case round =>
    clear v2 l1 HE
    obtain ⟨k, hk, rfl, HBk, HEk⟩ := hrel
    by_cases hlt : k < n
    · obtain ⟨qk, uk, hin⟩ := HEk.out
      have hks : k < s.rides.length := by rw [← Hnn.out]; exact hlt
      have hrk : k < (measK s k).rides.length := by rw [measK_len]; exact hks
      have HS := Lib.hid (measK_succ s k hks)
      have hrd := measK_rd s k k hks (Nat.le_refl _)
      have v2 := hin.vR hrk
      rw [measK_len, ← Hnn.out] at v2
      have v3 := hin.v3
      have l1 := hin.vc.2.2.2
      obtain ⟨_, _, _, _, _, c5, _, _, c8, lR⟩ := hin.rc hrk
      have f8 := hin.frR hrk (k * 9 + 8)
      have hq := hin.q k hrk
      rw [hrd] at hq c8
      obtain ⟨qA, qc, hqs⟩ := own_slice hq
      rw [hqs] at c5 hq
      have Hq := Lib.hid hq
      have hq60 := (HF.out.que k).1
      have Hqm := Lib.hid (HF.out.que k).2
      have HG : Hid (∀ i, i < s.groups.length → wr.cell? ⟨E.v, 3, none⟩ = some (.slice (some ⟨E.G, 0, none⟩) s.groups.length E.cG) ∧ wr.cell? ⟨E.G, i * 10 + 1, none⟩ = some (.int .i64 (s.grp i).g.size) ∧ E.G < wr.heap.size) := fun i hi => ⟨hin.vG (i := i) hi, (hin.gc (i := i) hi).1, (hin.gc (i := i) hi).2.2.2.2.2.2.2.2.2⟩
      have HQc : Hid (∀ j (hj : j < (s.rd k).q.length), ∃ g, qA = some ⟨g, 0, none⟩ ∧ g < wr.heap.size ∧ wr.cell? ⟨g, j, none⟩ = some (.int .i64 (((s.rd k).q[j] : Nat) : Int))) := fun j hj => by
        rcases Hq.out.2 with ⟨_, h0⟩ | ⟨g, cap, cur, h1, _, hg, _⟩
        · omega
        · injection h1 with h1 h2 h3
          subst h1
          refine ⟨g, rfl, (Array.getElem?_eq_some_iff.1 hg).1, ?_⟩
          rw [Hq.out.cellAt j (by omega)]
          unfold qL
          rw [List.getElem?_map, List.getElem?_eq_getElem hj]
          rfl
      have Hin := Lib.hid hin
      clear hin hrd hqs hq v3
      obtain ⟨lg, hlg⟩ : ∃ x, x = (s.rd k).longest := ⟨_, rfl⟩
      rw [← hlg] at c8 HS
      obtain ⟨q, hqq⟩ : ∃ x, x = (s.rd k).q := ⟨_, rfl⟩
      rw [← hqq] at c5 hq60 Hqm HQc HS Hq
      have hgb := guests_bd HF.out q Hqm.out
      have HGb : Hid (∀ j, 0 ≤ guestsS s (q.take j) ∧ guestsS s (q.take j) ≤ 2400) := fun j => by
        have h1 := guests_bd HF.out (q.take j) fun i hi => Hqm.out i (List.mem_of_mem_take hi)
        have h2 : (q.take j).length ≤ q.length := by simp; omega
        omega
      clear hlg hqq
      have hkn : (k : Int) < (n : Int) := by omega
      have hk0 : (0 : Int) ≤ (k : Int) := by omega
      have e1 : IntKind.i64.wrap ((k : Int) + 1) = (k : Int) + 1 := IntWalk.i64_in _ (by omega)
      go_wp2_with fail
      go_loop [4, 26] (fun g ix => ∃ j : Nat, j ≤ q.length ∧ ix = .int .i64 j ∧ g = .int .i64 (guestsS s (q.take j))) (fun _ ix => q.length - (intOf ix).toNat)
      case atStart => exact ⟨0, Nat.zero_le _, rfl, rfl⟩
      case round =>
        obtain ⟨j, hj, rfl, rfl⟩ := hrel
        by_cases hjl : j < q.length
        · obtain ⟨g, hqA, hgl, hcj⟩ := HQc.out j hjl
          have hij := Hqm.out q[j] (List.getElem_mem hjl)
          obtain ⟨v3, c1, lG⟩ := HG.out q[j] hij
          have Hsn := Lib.hid (guests_snoc s q j hjl)
          have hb1 := HGb.out j
          have hz := (HF.out.gp q[j] hij).2.1
          obtain ⟨i, hii⟩ : ∃ i, i = q[j] := ⟨_, rfl⟩
          rw [← hii] at hcj hij c1 Hsn hz
          clear hii
          subst hqA
          have e2 : IntKind.i64.wrap ((j : Int) + 1) = (j : Int) + 1 := IntWalk.i64_in _ (by omega)
          have e3 : IntKind.i64.wrap (guestsS s (q.take j) + (s.grp i).g.size) = guestsS s (q.take j) + (s.grp i).g.size := IntWalk.i64_in _ (by omega)
          have hjn : (j : Int) < (q.length : Int) := by omega
          have hj0 : (0 : Int) ≤ (j : Int) := by omega
          have hi' : (i : Int) < (s.groups.length : Int) := by omega
          have hi0 : (0 : Int) ≤ (i : Int) := by omega
          generalize guestsS s (q.take j) = G0 at *
          go_wp2_with fail
          refine ⟨⟨j + 1, by omega, by go_num, by rw [Hsn.out]⟩, by simp [intOf]; omega⟩
        · have hjq : j = q.length := by omega
          have HGu : Hid (guestsS s (q.take j) = guestsS s q) := by show _ = _; rw [hjq, List.take_length]
          have hgq := HGb.out j
          have hnj : ¬ (j : Int) < (q.length : Int) := by omega
          clear hjq
          generalize guestsS s (q.take j) = G0 at *
          have HS2 : Hid (measK s (k + 1) = (measK s k).modR k fun x => { x with longest := max lg G0 }) := by show _ = _; rw [HS.out, ← HGu.out]
          have hY := Hin.out.setR (j := 8) (u := .int .i64 (max lg G0)) hrk (by omega) (fun x => { x with longest := max lg G0 }) (fun _ => rfl) (fun _ => lt_nine rfl rfl rfl rfl rfl rfl rfl rfl rfl)
          have bY : Below E.base w (wr.setCell ⟨E.R, k * 9 + 8, none⟩ (.int .i64 (max lg G0))) := HBk.out.setCell hbas.2.1 _
          have HY := Lib.hid hY
          have HBY := Lib.hid bY
          clear hY bY HG HQc
          go_wp2_with fail
          go_roundw
          case rel => exact ⟨k + 1, by omega, by go_num, HBY.out, _, _, by rw [HS2.out]; exact HY.out⟩
          case measure => simp [intOf]; omega
    · obtain rfl : k = n := by omega
      go_wp2_with fail
      go_end0
      exact ⟨rfl, HBk.out, by rw [← HR.out]; exact HEk.out⟩
end Go.Proofs.Ytijbhcdnbaaobaa
namespace Go.Proofs.Ytijbhcdnbaaobaa
open Go.RowKit

/-- The groups below k have been asked. -/
def dueK (p : Nat) (f : EvS → Nat → EvS) (s : EvS) (k : Nat) : EvS := (List.range k).foldl (fun s i => if (s.grp i).place = p ∧ (s.grp i).til = s.now then f s i else s) s
theorem dueK_succ (p : Nat) (f : EvS → Nat → EvS) (s : EvS) (k : Nat) : dueK p f s (k + 1) = if ((dueK p f s k).grp k).place = p ∧ ((dueK p f s k).grp k).til = (dueK p f s k).now then f (dueK p f s k) k else dueK p f s k := by
  unfold dueK
  rw [List.range_succ, List.foldl_append]
  rfl
set_option maxRecDepth 100000 in
set_option maxHeartbeats 4000000 in
theorem due_goOn {P : EvS → Prop} {m p : Nat} {E : EvE} {w : World} {s : EvS} (h : EvAt E w s) (hm : m ≤ 60) (hs : P s) (hl : ∀ t, P t → t.groups.length = m)
    (hstep : ∀ X t i, P t → EvAt E X t → i < m → (t.grp i).place = p → (t.grp i).til = t.now → P (goOnS t i) ∧ Calls Try.prog 91 #[.pointer (some ⟨E.v, 0, none⟩), .int .i64 (i : Nat)] X (StepTo E X (goOnS t i))) :
    Calls Try.prog 90 #[.pointer (some ⟨E.v, 0, none⟩), .int .i64 (p : Nat), .func (.func 91) #[.pointer (some ⟨E.v, 0, none⟩)] #[]] w (StepTo E w (forDueS p goOnS s)) := by
  have HE : Hid (EvAt E w (dueK p goOnS s 0)) := h
  have HP : Hid (P (dueK p goOnS s 0)) := hs
  obtain ⟨qs, uv, h⟩ := h
  have v3 := h.v3
  have l1 := h.vc.2.2.2
  have hlm := hl s hs
  have HR : Hid (forDueS p goOnS s = dueK p goOnS s m) := by show _ = _; rw [← hlm]; rfl
  rw [hlm] at v3
  have HL := Lib.hid hl
  have HST := Lib.hid hstep
  clear h hs hlm hl hstep
  go_enter Try.func90, Try.ntmps90
  go_wp2_with fail
  go_loopw [13] (fun ix wr => ∃ k : Nat, k ≤ m ∧ ix = .int .i64 k ∧ Hid (Below E.base w wr) ∧ Hid (EvAt E wr (dueK p goOnS s k)) ∧ Hid (P (dueK p goOnS s k))) (fun ix _ => m - (intOf ix).toNat)
  case atStart => exact ⟨0, Nat.zero_le _, rfl, Below.refl _ _, HE.out, HP.out⟩
  case round =>
    clear v3 l1 HE HP
    obtain ⟨k, hk, rfl, HBk, HEk, HPk⟩ := hrel
    by_cases hlt : k < m
    · have HS := Lib.hid (dueK_succ p goOnS s k)
      generalize dueK p goOnS s k = sk at *
      have hlm := HL.out sk HPk.out
      have hik : k < sk.groups.length := by omega
      obtain ⟨q, u, hin⟩ := HEk.out
      have v3 := hin.vG hik
      rw [hlm] at v3
      obtain ⟨_, v1, _, l1⟩ := hin.vc
      obtain ⟨_, _, _, _, c5, c6, _, _, _, lG⟩ := hin.gc hik
      have HEn : Hid (∀ n, EvAt E (wr.drewN n) sk) := fun n => (hin.grow (below_drewN (Below.refl _ _) n)).at_
      have hkn : (k : Int) < (m : Int) := by omega
      have hk0 : (0 : Int) ≤ (k : Int) := by omega
      have e1 : IntKind.i64.wrap ((k : Int) + 1) = (k : Int) + 1 := IntWalk.i64_in _ (by omega)
      clear hin hlm hik
      by_cases hp : (sk.grp k).place = p
      · have d1 : (((sk.grp k).place : Int) == (p : Int)) = true := by rw [hp]; simp
        by_cases ht : (sk.grp k).til = sk.now
        · have d2 : ((sk.grp k).til == sk.now) = true := by simpa using ht
          have HS2 : Hid (dueK p goOnS s (k + 1) = goOnS sk k) := by show _ = _; rw [HS.out, if_pos ⟨hp, ht⟩]
          have hst := fun n => HST.out (wr.drewN n) sk k HPk.out (HEn.out n) hlt hp ht
          have HPn : Hid (P (goOnS sk k)) := (hst 0).1
          have HCn : Hid (∀ n, Calls Try.prog 91 #[.pointer (some ⟨E.v, 0, none⟩), .int .i64 (k : Nat)] (wr.drewN n) (StepTo E (wr.drewN n) (goOnS sk k))) := fun n => (hst n).2
          clear hp ht hst HS HST
          go_wp2_with fail
          go_quiet (fail)
          go_wp2_with (go_at_call 91; refine (HCn.out _).mono ?_; rintro e w2 ⟨rfl, hb2, he2⟩)
          go_roundw
          case rel => exact ⟨k + 1, by omega, by go_num, (below_drewN HBk.out _).trans hb2, by show EvAt _ _ _; rw [HS2.out]; exact he2, by show P _; rw [HS2.out]; exact HPn.out⟩
          case measure => simp [intOf]; omega
        · have d2 : ((sk.grp k).til == sk.now) = false := by simpa using ht
          have HS2 : Hid (dueK p goOnS s (k + 1) = sk) := by show _ = _; rw [HS.out, if_neg (fun h => ht h.2)]
          clear hp ht HS HST
          go_wp2_with fail
          go_quiet (fail)
          go_wp2_with fail
          go_roundw
          case rel => exact ⟨k + 1, by omega, by go_num, below_drewN HBk.out _, by show EvAt _ _ _; rw [HS2.out]; exact HEn.out _, by show P _; rw [HS2.out]; exact HPk.out⟩
          case measure => simp [intOf]; omega
      · have d1 : (((sk.grp k).place : Int) == (p : Int)) = false := by simp; omega
        have HS2 : Hid (dueK p goOnS s (k + 1) = sk) := by show _ = _; rw [HS.out, if_neg (fun h => hp h.1)]
        have hp2 : ¬ ((sk.grp k).place : Int) = (p : Int) := by omega
        clear HS HST
        go_wp2_with fail
        go_quiet (fail)
        go_wp2_with fail
        go_roundw
        case rel => exact ⟨k + 1, by omega, by go_num, below_drewN HBk.out _, by show EvAt _ _ _; rw [HS2.out]; exact HEn.out _, by show P _; rw [HS2.out]; exact HPk.out⟩
        case measure => simp [intOf]; omega
    · obtain rfl : k = m := by omega
      clear HST HL
      go_wp2_with fail
      go_end0
      exact ⟨rfl, HBk.out, by rw [HR.out]; exact HEk.out⟩
set_option maxRecDepth 100000 in
set_option maxHeartbeats 4000000 in
theorem due_stand {P : EvS → Prop} {m p : Nat} {E : EvE} {w : World} {s : EvS} (h : EvAt E w s) (hm : m ≤ 60) (hs : P s) (hl : ∀ t, P t → t.groups.length = m)
    (hstep : ∀ X t i, P t → EvAt E X t → i < m → (t.grp i).place = p → (t.grp i).til = t.now → P (standS t i) ∧ Calls Try.prog 92 #[.pointer (some ⟨E.v, 0, none⟩), .int .i64 (i : Nat)] X (StepTo E X (standS t i))) :
    Calls Try.prog 90 #[.pointer (some ⟨E.v, 0, none⟩), .int .i64 (p : Nat), .func (.func 92) #[.pointer (some ⟨E.v, 0, none⟩)] #[]] w (StepTo E w (forDueS p standS s)) := by
  have HE : Hid (EvAt E w (dueK p standS s 0)) := h
  have HP : Hid (P (dueK p standS s 0)) := hs
  obtain ⟨qs, uv, h⟩ := h
  have v3 := h.v3
  have l1 := h.vc.2.2.2
  have hlm := hl s hs
  have HR : Hid (forDueS p standS s = dueK p standS s m) := by show _ = _; rw [← hlm]; rfl
  rw [hlm] at v3
  have HL := Lib.hid hl
  have HST := Lib.hid hstep
  clear h hs hlm hl hstep
  go_enter Try.func90, Try.ntmps90
  go_wp2_with fail
  go_loopw [13] (fun ix wr => ∃ k : Nat, k ≤ m ∧ ix = .int .i64 k ∧ Hid (Below E.base w wr) ∧ Hid (EvAt E wr (dueK p standS s k)) ∧ Hid (P (dueK p standS s k))) (fun ix _ => m - (intOf ix).toNat)
  case atStart => exact ⟨0, Nat.zero_le _, rfl, Below.refl _ _, HE.out, HP.out⟩
  case round =>
    clear v3 l1 HE HP
    obtain ⟨k, hk, rfl, HBk, HEk, HPk⟩ := hrel
    by_cases hlt : k < m
    · have HS := Lib.hid (dueK_succ p standS s k)
      generalize dueK p standS s k = sk at *
      have hlm := HL.out sk HPk.out
      have hik : k < sk.groups.length := by omega
      obtain ⟨q, u, hin⟩ := HEk.out
      have v3 := hin.vG hik
      rw [hlm] at v3
      obtain ⟨_, v1, _, l1⟩ := hin.vc
      obtain ⟨_, _, _, _, c5, c6, _, _, _, lG⟩ := hin.gc hik
      have HEn : Hid (∀ n, EvAt E (wr.drewN n) sk) := fun n => (hin.grow (below_drewN (Below.refl _ _) n)).at_
      have hkn : (k : Int) < (m : Int) := by omega
      have hk0 : (0 : Int) ≤ (k : Int) := by omega
      have e1 : IntKind.i64.wrap ((k : Int) + 1) = (k : Int) + 1 := IntWalk.i64_in _ (by omega)
      clear hin hlm hik
      by_cases hp : (sk.grp k).place = p
      · have d1 : (((sk.grp k).place : Int) == (p : Int)) = true := by rw [hp]; simp
        by_cases ht : (sk.grp k).til = sk.now
        · have d2 : ((sk.grp k).til == sk.now) = true := by simpa using ht
          have HS2 : Hid (dueK p standS s (k + 1) = standS sk k) := by show _ = _; rw [HS.out, if_pos ⟨hp, ht⟩]
          have hst := fun n => HST.out (wr.drewN n) sk k HPk.out (HEn.out n) hlt hp ht
          have HPn : Hid (P (standS sk k)) := (hst 0).1
          have HCn : Hid (∀ n, Calls Try.prog 92 #[.pointer (some ⟨E.v, 0, none⟩), .int .i64 (k : Nat)] (wr.drewN n) (StepTo E (wr.drewN n) (standS sk k))) := fun n => (hst n).2
          clear hp ht hst HS HST
          go_wp2_with fail
          go_quiet (fail)
          go_wp2_with (go_at_call 92; refine (HCn.out _).mono ?_; rintro e w2 ⟨rfl, hb2, he2⟩)
          go_roundw
          case rel => exact ⟨k + 1, by omega, by go_num, (below_drewN HBk.out _).trans hb2, by show EvAt _ _ _; rw [HS2.out]; exact he2, by show P _; rw [HS2.out]; exact HPn.out⟩
          case measure => simp [intOf]; omega
        · have d2 : ((sk.grp k).til == sk.now) = false := by simpa using ht
          have HS2 : Hid (dueK p standS s (k + 1) = sk) := by show _ = _; rw [HS.out, if_neg (fun h => ht h.2)]
          clear hp ht HS HST
          go_wp2_with fail
          go_quiet (fail)
          go_wp2_with fail
          go_roundw
          case rel => exact ⟨k + 1, by omega, by go_num, below_drewN HBk.out _, by show EvAt _ _ _; rw [HS2.out]; exact HEn.out _, by show P _; rw [HS2.out]; exact HPk.out⟩
          case measure => simp [intOf]; omega
      · have d1 : (((sk.grp k).place : Int) == (p : Int)) = false := by simp; omega
        have HS2 : Hid (dueK p standS s (k + 1) = sk) := by show _ = _; rw [HS.out, if_neg (fun h => hp h.1)]
        have hp2 : ¬ ((sk.grp k).place : Int) = (p : Int) := by omega
        clear HS HST
        go_wp2_with fail
        go_quiet (fail)
        go_wp2_with fail
        go_roundw
        case rel => exact ⟨k + 1, by omega, by go_num, below_drewN HBk.out _, by show EvAt _ _ _; rw [HS2.out]; exact HEn.out _, by show P _; rw [HS2.out]; exact HPk.out⟩
        case measure => simp [intOf]; omega
    · obtain rfl : k = m := by omega
      clear HST HL
      go_wp2_with fail
      go_end0
      exact ⟨rfl, HBk.out, by rw [HR.out]; exact HEk.out⟩
set_option maxRecDepth 100000 in
set_option maxHeartbeats 4000000 in
theorem due_giveUp {P : EvS → Prop} {m p : Nat} {E : EvE} {w : World} {s : EvS} (h : EvAt E w s) (hm : m ≤ 60) (hs : P s) (hl : ∀ t, P t → t.groups.length = m)
    (hstep : ∀ X t i, P t → EvAt E X t → i < m → (t.grp i).place = p → (t.grp i).til = t.now → P (giveUpS t i) ∧ Calls Try.prog 93 #[.pointer (some ⟨E.v, 0, none⟩), .int .i64 (i : Nat)] X (StepTo E X (giveUpS t i))) :
    Calls Try.prog 90 #[.pointer (some ⟨E.v, 0, none⟩), .int .i64 (p : Nat), .func (.func 93) #[.pointer (some ⟨E.v, 0, none⟩)] #[]] w (StepTo E w (forDueS p giveUpS s)) := by
  have HE : Hid (EvAt E w (dueK p giveUpS s 0)) := h
  have HP : Hid (P (dueK p giveUpS s 0)) := hs
  obtain ⟨qs, uv, h⟩ := h
  have v3 := h.v3
  have l1 := h.vc.2.2.2
  have hlm := hl s hs
  have HR : Hid (forDueS p giveUpS s = dueK p giveUpS s m) := by show _ = _; rw [← hlm]; rfl
  rw [hlm] at v3
  have HL := Lib.hid hl
  have HST := Lib.hid hstep
  clear h hs hlm hl hstep
  go_enter Try.func90, Try.ntmps90
  go_wp2_with fail
  go_loopw [13] (fun ix wr => ∃ k : Nat, k ≤ m ∧ ix = .int .i64 k ∧ Hid (Below E.base w wr) ∧ Hid (EvAt E wr (dueK p giveUpS s k)) ∧ Hid (P (dueK p giveUpS s k))) (fun ix _ => m - (intOf ix).toNat)
  case atStart => exact ⟨0, Nat.zero_le _, rfl, Below.refl _ _, HE.out, HP.out⟩
  case round =>
    clear v3 l1 HE HP
    obtain ⟨k, hk, rfl, HBk, HEk, HPk⟩ := hrel
    by_cases hlt : k < m
    · have HS := Lib.hid (dueK_succ p giveUpS s k)
      generalize dueK p giveUpS s k = sk at *
      have hlm := HL.out sk HPk.out
      have hik : k < sk.groups.length := by omega
      obtain ⟨q, u, hin⟩ := HEk.out
      have v3 := hin.vG hik
      rw [hlm] at v3
      obtain ⟨_, v1, _, l1⟩ := hin.vc
      obtain ⟨_, _, _, _, c5, c6, _, _, _, lG⟩ := hin.gc hik
      have HEn : Hid (∀ n, EvAt E (wr.drewN n) sk) := fun n => (hin.grow (below_drewN (Below.refl _ _) n)).at_
      have hkn : (k : Int) < (m : Int) := by omega
      have hk0 : (0 : Int) ≤ (k : Int) := by omega
      have e1 : IntKind.i64.wrap ((k : Int) + 1) = (k : Int) + 1 := IntWalk.i64_in _ (by omega)
      clear hin hlm hik
      by_cases hp : (sk.grp k).place = p
      · have d1 : (((sk.grp k).place : Int) == (p : Int)) = true := by rw [hp]; simp
        by_cases ht : (sk.grp k).til = sk.now
        · have d2 : ((sk.grp k).til == sk.now) = true := by simpa using ht
          have HS2 : Hid (dueK p giveUpS s (k + 1) = giveUpS sk k) := by show _ = _; rw [HS.out, if_pos ⟨hp, ht⟩]
          have hst := fun n => HST.out (wr.drewN n) sk k HPk.out (HEn.out n) hlt hp ht
          have HPn : Hid (P (giveUpS sk k)) := (hst 0).1
          have HCn : Hid (∀ n, Calls Try.prog 93 #[.pointer (some ⟨E.v, 0, none⟩), .int .i64 (k : Nat)] (wr.drewN n) (StepTo E (wr.drewN n) (giveUpS sk k))) := fun n => (hst n).2
          clear hp ht hst HS HST
          go_wp2_with fail
          go_quiet (fail)
          go_wp2_with (go_at_call 93; refine (HCn.out _).mono ?_; rintro e w2 ⟨rfl, hb2, he2⟩)
          go_roundw
          case rel => exact ⟨k + 1, by omega, by go_num, (below_drewN HBk.out _).trans hb2, by show EvAt _ _ _; rw [HS2.out]; exact he2, by show P _; rw [HS2.out]; exact HPn.out⟩
          case measure => simp [intOf]; omega
        · have d2 : ((sk.grp k).til == sk.now) = false := by simpa using ht
          have HS2 : Hid (dueK p giveUpS s (k + 1) = sk) := by show _ = _; rw [HS.out, if_neg (fun h => ht h.2)]
          clear hp ht HS HST
          go_wp2_with fail
          go_quiet (fail)
          go_wp2_with fail
          go_roundw
          case rel => exact ⟨k + 1, by omega, by go_num, below_drewN HBk.out _, by show EvAt _ _ _; rw [HS2.out]; exact HEn.out _, by show P _; rw [HS2.out]; exact HPk.out⟩
          case measure => simp [intOf]; omega
      · have d1 : (((sk.grp k).place : Int) == (p : Int)) = false := by simp; omega
        have HS2 : Hid (dueK p giveUpS s (k + 1) = sk) := by show _ = _; rw [HS.out, if_neg (fun h => hp h.1)]
        have hp2 : ¬ ((sk.grp k).place : Int) = (p : Int) := by omega
        clear HS HST
        go_wp2_with fail
        go_quiet (fail)
        go_wp2_with fail
        go_roundw
        case rel => exact ⟨k + 1, by omega, by go_num, below_drewN HBk.out _, by show EvAt _ _ _; rw [HS2.out]; exact HEn.out _, by show P _; rw [HS2.out]; exact HPk.out⟩
        case measure => simp [intOf]; omega
    · obtain rfl : k = m := by omega
      clear HST HL
      go_wp2_with fail
      go_end0
      exact ⟨rfl, HBk.out, by rw [HR.out]; exact HEk.out⟩
end Go.Proofs.Ytijbhcdnbaaobaa
