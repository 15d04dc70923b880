/- Contract of the specification's Changes. Conditions: a path of at most 100 points, small numbers in the motor. -/
import Derived.Test.YtkmiapfkebdpbaaLk
namespace Go.Proofs.Ytkmiapfkebdpbaa
open Go.RowKit

def wsR (s p v k : Nat) : List Chg := ((List.range k).filter fun w => decide (v ≤ w + s) && decide (w ≤ v + s)).map fun w => ⟨p, v, w⟩
def vsR (T s p k : Nat) : List Chg := (List.range k).flatMap fun v => wsR s p v (T + 1)
def phR (T s k : Nat) : List Chg := (List.range k).flatMap fun p => vsR T s p (T + 1)
theorem chgs_phR (n T s : Nat) : chgs n T s = phR T s n := rfl
theorem wsR_yes {s v k : Nat} (p : Nat) (h : v ≤ k + s ∧ k ≤ v + s) : wsR s p v (k + 1) = wsR s p v k ++ [⟨p, v, k⟩] := by simp [wsR, List.range_succ, List.filter_append, h]
theorem wsR_no {s v k : Nat} (p : Nat) (h : ¬ (v ≤ k + s ∧ k ≤ v + s)) : wsR s p v (k + 1) = wsR s p v k := by
  have h' : (decide (v ≤ k + s) && decide (k ≤ v + s)) = false := by simp; omega
  simp [wsR, List.range_succ, List.filter_append, h']
theorem vsR_succ (T s p k : Nat) : vsR T s p (k + 1) = vsR T s p k ++ wsR s p k (T + 1) := by simp [vsR, List.range_succ]
theorem phR_succ (T s k : Nat) : phR T s (k + 1) = phR T s k ++ vsR T s k (T + 1) := by simp [phR, List.range_succ]
theorem wsR_len (s p v k : Nat) : (wsR s p v k).length ≤ k := by
  have := List.length_filter_le (fun w => decide (v ≤ w + s) && decide (w ≤ v + s)) (List.range k)
  simp only [wsR, List.length_map]
  simpa using this
theorem vsR_len (T s p k : Nat) : (vsR T s p k).length ≤ k * (T + 1) := by
  induction k with
  | zero => simp [vsR]
  | succ k ih =>
    rw [vsR_succ, List.length_append, Nat.succ_mul]
    have := wsR_len s p k (T + 1)
    omega
theorem phR_len (T s k : Nat) : (phR T s k).length ≤ k * ((T + 1) * (T + 1)) := by
  induction k with
  | zero => simp [phR]
  | succ k ih =>
    rw [phR_succ, List.length_append, Nat.succ_mul]
    have := vsR_len T s k (T + 1)
    omega
theorem some_len {T s n p v k : Nat} (hT : T ≤ 10) (hn : n ≤ 100) (hp : p ≤ n) (hv : v ≤ T + 1) (hk : k ≤ T + 1) : (phR T s p ++ vsR T s p v ++ wsR s p v k).length ≤ 100000 := by
  have h1 := phR_len T s p
  have h2 := vsR_len T s p v
  have h3 := wsR_len s p v k
  have h4 : (T + 1) * (T + 1) ≤ 11 * 11 := Nat.mul_le_mul (by omega) (by omega)
  have h5 : p * ((T + 1) * (T + 1)) ≤ 100 * (11 * 11) := Nat.mul_le_mul (by omega) h4
  have h6 : v * (T + 1) ≤ 11 * 11 := Nat.mul_le_mul (by omega) (by omega)
  simp only [List.length_append]
  omega
def chgPt (c : Chg) : Pt := ⟨c.ph, c.bf, c.af⟩
def chgCells (l : List Chg) : List Value := ptCells (l.map chgPt)
theorem chgCells_app (a : List Chg) (c : Chg) : chgCells (a ++ [c]) = chgCells a ++ [.int .i64 (c.ph : Int), .int .i64 (c.bf : Int), .int .i64 (c.af : Int)] := by
  unfold chgCells
  rw [List.map_append, List.map_cons, List.map_nil, ptCells_app]
  rfl
theorem Try.info_chg : (Try.prog.info? 24).map (fun i => (i.zero, i.size, i.bytes)) = some (some (.agg #[.int .i64 0, .int .i64 0, .int .i64 0]), 3, 24) := by kernel_rfl
def ChsPost (w : World) (L : List Chg) (e : Ending) (w' : World) : Prop := Below w.heap.size w w' ∧ ∃ A c, e = .returned (.slice A L.length c) ∧ Reads w' w'.heap.size 3 A L.length (chgCells L)

set_option maxRecDepth 100000 in
set_option maxHeartbeats 4000000 in
theorem Changes_any (n T s : Nat) (ea je : Int) (A : Option Addr) (c : Nat) (w : World) (hn : n ≤ 100) (hT : T ≤ 10) (_hs : s ≤ 10) :
    Calls Try.prog 59 #[.slice A n c, .agg #[.int .i64 (T : Int), .int .i64 ea, .int .i64 je], .int .i64 (s : Int)] w (ChsPost w (chgs n T s)) := by
  obtain ⟨i0, hi, hz0, hz1, hz2⟩ := info_parts Try.info_chg
  obtain ⟨W, hW⟩ : ∃ W, W = w.alloc (.cells #[.int .i64 (T : Int), .int .i64 ea, .int .i64 je] 35) := ⟨_, rfl⟩
  have bW : Below w.heap.size w W := by subst hW; exact (Below.refl _ _).alloc (Nat.le_refl _) _
  have rW : Row W w.heap.size 35 [.int .i64 (T : Int), .int .i64 ea, .int .i64 je] := by subst hW; exact Row.new w _ _
  rw [chgs_phR]
  go_enter Try.func59, Try.ntmps59
  go_wp2_with fail
  rw [← hW]
  clear hW
  go_loopw [7, 8] (fun l i wr => ∃ p : Nat, p ≤ n ∧ i = .int .i64 p ∧ wr.ownsRow (w.heap.size + 1) 24 3 l (phR T s p).length (chgCells (phR T s p)) ∧ Below w.heap.size w wr ∧ Row wr w.heap.size 35 [.int .i64 (T : Int), .int .i64 ea, .int .i64 je]) (fun _ i _ => n - (intOf i).toNat)
  case atStart => exact ⟨0, Nat.zero_le _, rfl, owns_nil _ _ _ _, bW, rW⟩
  case round =>
    obtain ⟨p, hp, rfl, own1, bel1, row1⟩ := hrel
    by_cases hlp : p < n
    · have e1 : IntKind.i64.wrap ((p : Int) + 1) = (p : Int) + 1 := IntWalk.i64_in _ (by omega)
      have hpl : (p : Int) < (n : Int) := by omega
      go_wp2_with fail
      obtain ⟨V1, hV1⟩ : ∃ V1, V1 = wr := ⟨_, rfl⟩
      rw [← hV1] at own1 bel1 row1 ⊢
      clear hV1 wr
      go_loopw [7, 9] (fun l i wr => ∃ v : Nat, v ≤ T + 1 ∧ i = .int .i64 v ∧ wr.ownsRow (w.heap.size + 1) 24 3 l (phR T s p ++ vsR T s p v).length (chgCells (phR T s p ++ vsR T s p v)) ∧ Below w.heap.size w wr ∧ Row wr w.heap.size 35 [.int .i64 (T : Int), .int .i64 ea, .int .i64 je]) (fun _ i _ => T + 1 - (intOf i).toNat)
      case atStart => exact ⟨0, Nat.zero_le _, rfl, by simpa [vsR] using own1, bel1, row1⟩
      case round =>
        obtain ⟨v, hv, rfl, own2, bel2, row2⟩ := hrel
        obtain ⟨f2, q0, q1, q2⟩ := Row.at_3 row2
        have z2 := row2.lt
        by_cases hlv : v < T + 1
        · have e2 : IntKind.i64.wrap ((v : Int) + 1) = (v : Int) + 1 := IntWalk.i64_in _ (by omega)
          have hvl : (v : Int) ≤ (T : Int) := by omega
          have hvn : v ≤ T := by omega
          go_wp2_with fail
          obtain ⟨V2, hV2⟩ : ∃ V2, V2 = wr := ⟨_, rfl⟩
          rw [← hV2] at own2 bel2 row2 q0 q1 q2 z2 f2 ⊢
          clear hV2 wr q0 q1 q2 z2 f2
          go_loopw [7, 10] (fun l i wr => ∃ k : Nat, k ≤ T + 1 ∧ i = .int .i64 k ∧ wr.ownsRow (w.heap.size + 1) 24 3 l (phR T s p ++ vsR T s p v ++ wsR s p v k).length (chgCells (phR T s p ++ vsR T s p v ++ wsR s p v k)) ∧ Below w.heap.size w wr ∧ Row wr w.heap.size 35 [.int .i64 (T : Int), .int .i64 ea, .int .i64 je]) (fun _ i _ => T + 1 - (intOf i).toNat)
          case atStart => exact ⟨0, Nat.zero_le _, rfl, by simpa [wsR] using own2, bel2, row2⟩
          case round =>
            obtain ⟨k, hk, rfl, own3, bel3, row3⟩ := hrel
            obtain ⟨_, q0, q1, q2⟩ := Row.at_3 row3
            have z3 := row3.lt
            by_cases hlk : k < T + 1
            · have e3 : IntKind.i64.wrap ((k : Int) + 1) = (k : Int) + 1 := IntWalk.i64_in _ (by omega)
              have hkl : (k : Int) ≤ (T : Int) := by omega
              have hkn : k ≤ T := by omega
              have e4 : IntKind.i64.wrap ((v : Int) - (k : Int)) = (v : Int) - (k : Int) := IntWalk.i64_in _ (by omega)
              have e5 : IntKind.i64.wrap ((k : Int) - (v : Int)) = (k : Int) - (v : Int) := IntWalk.i64_in _ (by omega)
              obtain ⟨L, hL⟩ : ∃ L, L = phR T s p ++ vsR T s p v ++ wsR s p v k := ⟨_, rfl⟩
              rw [← hL] at own3
              have hlen : L.length ≤ 100000 := by rw [hL]; exact some_len hT hn hp (by omega) (by omega)
              have HL := Lib.hid hL
              clear hL
              by_cases hc1 : v ≤ k + s
              · have t1 : (v : Int) - (k : Int) ≤ (s : Int) := by omega
                by_cases hc2 : k ≤ v + s
                · have t2 : (k : Int) - (v : Int) ≤ (s : Int) := by omega
                  have Hn := Lib.hid (wsR_yes p ⟨hc1, hc2⟩)
                  have m1 : L.length + 1 ≤ maxLen := by unfold maxLen; omega
                  have m2 : (L.length + 1) * 24 ≤ 140737488355328 := by omega
                  clear hc1 hc2
                  go_wp2_with (at_builtin; refine wpList_app _ rfl _ _ 91 rfl (w.heap.size + 1) 24 i0 (.agg #[.int .i64 0, .int .i64 0, .int .i64 0]) 3 24 Try.underlying91 hi hz0 hz1 hz2 rfl (by decide) u7 L.length (chgCells L) rfl ?qo (wr.heap.size + 1) (some ⟨wr.heap.size, 0, none⟩) 1 1 [.int .i64 (p : Int), .int .i64 (v : Int), .int .i64 (k : Int)] rfl ?qr ?qq m1 m2 ?qb ?_)
                  case qo => exact owns_alloc own3 _
                  case qr => exact Row.reads (t := 24) (row_one _ _ _ _ rfl) rfl (by omega)
                  case qq => intro u' hu'; simp at hu'; rcases hu' with rfl | rfl | rfl <;> rfl
                  case qb => simp; omega
                  intro v' w4 hown' hbel'
                  have bA := bel3.alloc bel3.size (.cells #[.int .i64 (p : Int), .int .i64 (v : Int), .int .i64 (k : Int)] 24)
                  have b4 := bA.trans (hbel'.mono (by omega))
                  have r4 := (row3.alloc (.cells #[.int .i64 (p : Int), .int .i64 (v : Int), .int .i64 (k : Int)] 24)).below hbel' (by omega)
                  go_wp2_with fail
                  go_roundw
                  case rel =>
                    refine ⟨k + 1, by omega, by go_num, ?_, b4, r4⟩
                    rw [Hn.out, ← List.append_assoc, ← HL.out, chgCells_app, List.length_append]
                    exact hown'
                  case measure => simp [intOf]; omega
                · have t2 : ¬ (k : Int) - (v : Int) ≤ (s : Int) := by omega
                  have Hn := Lib.hid (wsR_no p (show ¬ (v ≤ k + s ∧ k ≤ v + s) from fun h => hc2 h.2))
                  clear hc1 hc2
                  go_wp2_with fail
                  go_roundw
                  case rel => exact ⟨k + 1, by omega, by go_num, by rw [Hn.out, ← HL.out]; exact own3, bel3, row3⟩
                  case measure => simp [intOf]; omega
              · have t1 : ¬ (v : Int) - (k : Int) ≤ (s : Int) := by omega
                have Hn := Lib.hid (wsR_no p (show ¬ (v ≤ k + s ∧ k ≤ v + s) from fun h => hc1 h.1))
                clear hc1
                go_wp2_with fail
                go_roundw
                case rel => exact ⟨k + 1, by omega, by go_num, by rw [Hn.out, ← HL.out]; exact own3, bel3, row3⟩
                case measure => simp [intOf]; omega
            · obtain rfl : k = T + 1 := by omega
              rw [List.append_assoc, ← vsR_succ] at own3
              have hkl : ¬ ((T + 1 : Nat) : Int) ≤ (T : Int) := by omega
              go_wp2_with fail
              go_roundw
              case rel => exact ⟨v + 1, by omega, by go_num, own3, bel3, row3⟩
              case measure => simp [intOf]; omega
        · obtain rfl : v = T + 1 := by omega
          rw [← phR_succ] at own2
          have hvl : ¬ ((T + 1 : Nat) : Int) ≤ (T : Int) := by omega
          go_wp2_with fail
          go_roundw
          case rel => exact ⟨p + 1, by omega, by go_num, own2, bel2, row2⟩
          case measure => simp [intOf]; omega
    · obtain rfl : p = n := by omega
      have hpl : ¬ (p : Int) < (p : Int) := by omega
      obtain ⟨A', c', hA, hrd⟩ := own_reads own1
      subst hA
      go_wp2_with fail
      go_ret
      exact ⟨bel1, A', c', rfl, hrd⟩
end Go.Proofs.Ytkmiapfkebdpbaa
