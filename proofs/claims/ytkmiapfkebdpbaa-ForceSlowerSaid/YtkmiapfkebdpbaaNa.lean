/- The iterator of changes, for bodies that write elsewhere. Conditions: a path of at most 100 points, small numbers in the motor. -/
import Derived.Test.YtkmiapfkebdpbaaKk
namespace Go.Proofs.Ytkmiapfkebdpbaa
open Go.RowKit Go.Shelf

attribute [local go_sem] Oper.semAt_some
set_option maxRecDepth 100000 in
set_option maxHeartbeats 4000000 in
theorem changes1_gen (F : Fence) (nn : Nat) (hf : F.fn 82) (hro : F.round = none) (hn : 1 ≤ nn) (l bt bm bs : Nat) (A : Option Addr) (n c T s : Nat) (ea je : Int) (hnl : n ≤ 100) (hT : T ≤ 10) (hs : s ≤ 10)
    (J Jx : List Chg → World → Prop)
    (Kp : World → World → Prop) (kr : ∀ W, Kp W W) (kt : ∀ {A B C : World}, Kp A B → Kp B C → Kp A C) (km : ∀ {X Y : World} (o : Nat) (v : Value), Kp X Y → X.cell? ⟨bm, o, none⟩ = some v → Y.cell? ⟨bm, o, none⟩ = some v) (ks : ∀ {X Y : World} (o : Nat) (v : Value), Kp X Y → X.cell? ⟨bs, o, none⟩ = some v → Y.cell? ⟨bs, o, none⟩ = some v)
    (hY : ∀ pre x W, J pre W → pre.length < (phL T s n).length → YieldAt F (nn - 1) Try.prog l #[encC x] W fun e W' =>
      (e = .returned (.bool true) ∧ J (pre ++ [x]) W' ∧ Kp W W') ∨ (e = .returned (.bool false) ∧ Jx (pre ++ [x]) W'))
    (W : World) (ct : W.cell? ⟨bt, 0, none⟩ = some (.slice A n c)) (c0 : W.cell? ⟨bm, 0, none⟩ = some (.int .i64 (T : Int))) (c1 : W.cell? ⟨bm, 1, none⟩ = some (.int .i64 ea)) (c2 : W.cell? ⟨bm, 2, none⟩ = some (.int .i64 je)) (cs : W.cell? ⟨bs, 0, none⟩ = some (.int .i64 (s : Int))) (h0 : J [] W) :
    CallsIn F nn Try.prog 82 #[.func (.yield l) #[] #[], .pointer (some ⟨bt, 0, none⟩), .pointer (some ⟨bm, 0, none⟩), .pointer (some ⟨bs, 0, none⟩)] W fun e W' => (∃ v, e = .returned v) ∧
      ((∃ ys, ys = phL T s n ∧ J ys W') ∨ (∃ pre, pre <+: phL T s n ∧ Jx pre W')) := by
  refine callsIn_of_wp Try.func82 rfl hf ?_ hro
  simp only [Try.ntmps82, List.size_toArray, List.length_cons, List.length_nil, Nat.reduceAdd, Nat.reduceSub, Array.replicate_succ, Array.replicate_zero, List.push_toArray, List.append_toArray, List.nil_append, List.cons_append]
  gi_wp2
  gi_loopw [10] (fun i wr => ∃ p : Nat, p ≤ n ∧ i = .int .i64 p ∧ J (phL T s p) wr ∧ Kp W wr) (fun i _ => n - (intOf i).toNat)
  case atStart => exact ⟨0, Nat.zero_le _, rfl, h0, kr _⟩
  case round =>
    obtain ⟨p, hp, rfl, hJ1, hb1⟩ := hrel
    have m0 := km 0 _ hb1 c0
    have m1 := km 1 _ hb1 c1
    have m2 := km 2 _ hb1 c2
    have ms := ks 0 _ hb1 cs
    by_cases hlt : p < n
    · have eT : IntKind.i64.wrap ((T : Int) + 1) = ((T + 1 : Nat) : Int) := by rw [IntWalk.i64_in _ (by omega)]; omega
      gi_wp2
      obtain ⟨W1, hW1⟩ : ∃ W1, W1 = wr := ⟨_, rfl⟩
      rw [← hW1] at hJ1 hb1 m0 m1 m2 ms ⊢
      clear hW1 wr
      gi_loopw [16] (fun i wr => ∃ v : Nat, v ≤ T + 1 ∧ i = .int .i64 v ∧ J (phL T s p ++ vsL T s p v) wr ∧ Kp W wr) (fun i _ => T + 1 - (intOf i).toNat)
      case atStart => exact ⟨0, Nat.zero_le _, rfl, by simpa [vsL] using hJ1, hb1⟩
      case round =>
        obtain ⟨v, hv, rfl, hJ2, hb2⟩ := hrel
        have m0 := km 0 _ hb2 c0
        have m1 := km 1 _ hb2 c1
        have m2 := km 2 _ hb2 c2
        have ms := ks 0 _ hb2 cs
        by_cases hlv : v < T + 1
        · obtain ⟨lo, hlo⟩ : ∃ lo : Nat, lo = v - s := ⟨_, rfl⟩
          have hlv' : (v : Int) < (T : Int) + 1 := by omega
          have evs : IntKind.i64.wrap ((v : Int) + (s : Int)) = ((v + s : Nat) : Int) := by rw [IntWalk.i64_in _ (by omega)]; omega
          have ed : IntKind.i64.wrap ((v : Int) - (s : Int)) = (v : Int) - (s : Int) := IntWalk.i64_in _ (by omega)
          have hcnt : cntN T s v = min T (v + s) + 1 - lo := by rw [hlo]; rfl
          have Hcnt := Lib.hid hcnt
          have Hlo := Lib.hid hlo
          clear hcnt hlo
          by_cases hsv : s < v
          all_goals
            gi_wp2
            obtain ⟨W2, hW2⟩ : ∃ W2, W2 = wr := ⟨_, rfl⟩
            rw [← hW2] at hJ2 hb2 m0 m1 m2 ms ⊢
            clear hW2 wr
            gi_loopw [7] (fun i wr => ∃ j : Nat, j ≤ cntN T s v ∧ i = .int .i64 ((lo + j : Nat) : Int) ∧ J (phL T s p ++ vsL T s p v ++ wsL p v lo j) wr ∧ Kp W wr) (fun i _ => 30 - (intOf i).toNat)
            case atStart => exact ⟨0, Nat.zero_le _, by rw [Hlo.out]; congr 1; omega, by simpa [wsL] using hJ2, hb2⟩
            case round =>
              obtain ⟨j, hj, rfl, hJ3, hb3⟩ := hrel
              have m0 := km 0 _ hb3 c0
              have m1 := km 1 _ hb3 c1
              have m2 := km 2 _ hb3 c2
              have ms := ks 0 _ hb3 cs
              have hq := Hcnt.out
              have hq2 := Hlo.out
              obtain ⟨u, hu⟩ : ∃ u, u = lo + j := ⟨_, rfl⟩
              rw [← hu]
              by_cases hlj : j < cntN T s v
              · obtain ⟨fn, tmps, assign, body, hy, hR⟩ := hY _ ⟨p, v, u⟩ wr hJ3 (by rw [Hlo.out] at *; exact chg_lt hlt hlv hlj)
                have h5 : (u : Int) ≤ (T : Int) := by omega
                have h6 : (u : Int) ≤ ((v + s : Nat) : Int) := by omega
                have h7 : IntKind.i64.wrap ((u : Int) + 1) = ((u + 1 : Nat) : Int) := by rw [IntWalk.i64_in _ (by omega)]; omega
                have h8 : (u : Int) ≤ min (T : Int) ((v + s : Nat) : Int) := by omega
                have Hu := Lib.hid hu
                clear hq hq2 hu
                unfold encC chgV at hy
                dsimp only at hy
                gi_wp2
                all_goals
                  refine hR.mono ?_
                  rintro e W3 (⟨rfl, hJ4, hk4⟩ | ⟨rfl, hJx4⟩)
                  · gi_wp2
                    go_roundw
                    case rel => exact ⟨j + 1, by omega, by have := Hu.out; subst this; go_num, by rw [wsL_succ, ← List.append_assoc, ← Hu.out]; exact hJ4, kt hb3 hk4⟩
                    case measure =>
                      have := Hu.out
                      have h9 := hlv
                      simp [intOf]
                      omega
                  · gi_wp2
                    refine bodyPost_ret (results_none rfl _ _ _) rfl ?_
                    refine ⟨⟨_, rfl⟩, .inr ⟨_, ?_, hJx4⟩⟩
                    have h9 := chg_pre (n := n) (top := T) (step := s) (p := p) (v := v) (j := j + 1) hlt hlv (by omega)
                    rw [wsL_succ, ← List.append_assoc, ← Hlo.out, ← Hu.out] at h9
                    exact h9
              · have h8 : ¬ (u : Int) ≤ min (T : Int) ((v + s : Nat) : Int) := by omega
                have Hu := Lib.hid hu
                clear hq hq2 hu
                obtain rfl : j = cntN T s v := by omega
                gi_wp2
                all_goals
                  refine ⟨⟨v + 1, by omega, by go_num, ?_, hb3⟩, by simp [intOf]; omega⟩
                  rw [vsL_succ, ← List.append_assoc, ← Hlo.out]
                  exact hJ3
        · obtain rfl : v = T + 1 := by omega
          rw [← phL_succ] at hJ2
          gi_wp2
          go_roundw
          case rel => exact ⟨p + 1, by omega, by go_num, hJ2, hb2⟩
          case measure => simp [intOf]; omega
    · obtain rfl : p = n := by omega
      gi_wp2
      go_end0
      exact ⟨⟨_, rfl⟩, .inl ⟨_, rfl, hJ1⟩⟩
/-- The cells of two blocks are as they were. -/
def KeptTwo (bm bs : Nat) (X Y : World) : Prop := ∀ b o v, b = bm ∨ b = bs → X.cell? ⟨b, o, none⟩ = some v → Y.cell? ⟨b, o, none⟩ = some v
theorem KeptTwo.refl (bm bs : Nat) (X : World) : KeptTwo bm bs X X := fun _ _ _ _ h => h
theorem KeptTwo.trans {bm bs : Nat} {X Y Z : World} (h : KeptTwo bm bs X Y) (k : KeptTwo bm bs Y Z) : KeptTwo bm bs X Z := fun b o v hb hc => k b o v hb (h b o v hb hc)
theorem KeptTwo.below {bm bs B : Nat} {X Y : World} (h : Below B X Y) (h1 : bm < B) (h2 : bs < B) : KeptTwo bm bs X Y := fun b o v hb hc => by
  have hbB : b < B := by rcases hb with rfl | rfl <;> assumption
  exact (h.cell (p := ⟨b, o, none⟩) hbB).trans hc
theorem KeptTwo.setCell {bm bs : Nat} (X : World) (p : Addr) (u : Value) (h1 : bm ≠ p.block) (h2 : bs ≠ p.block) : KeptTwo bm bs X (X.setCell p u) := fun b o v hb hc => by
  have hne : p.block ≠ b := by rcases hb with rfl | rfl <;> (intro e; first | exact h1 e.symm | exact h2 e.symm)
  rw [World.cell?_setCell_far X p ⟨b, o, none⟩ u hne]
  exact hc
theorem KeptTwo.putObj {bm bs B : Nat} (h1 : bm < B) (h2 : bs < B) (W : World) (l : Nat) (o o' : Obj) (hl : B ≤ l) (_ : W.heap[l]? = some o) (_ : o.isCells = false) (_ : o.isWalk = false) : KeptTwo bm bs W (W.putObj l o') := fun b q v hb hc => by
  have hne : b ≠ l := by rcases hb with rfl | rfl <;> omega
  unfold World.cell? at hc ⊢
  rw [World.putObj_heap_other hne]
  exact hc
theorem changes_stopsG (nn : Nat) (hn : 1 ≤ nn) (bt bm bs : Nat) (A : Option Addr) (n c T s : Nat) (ea je : Int) (hnl : n ≤ 100) (hT : T ≤ 10) (hs : s ≤ 10) (w : World) (zt : bt < w.heap.size) (zm : bm < w.heap.size) (zs : bs < w.heap.size)
    (ct : w.cell? ⟨bt, 0, none⟩ = some (.slice A n c)) (c0 : w.cell? ⟨bm, 0, none⟩ = some (.int .i64 (T : Int))) (c1 : w.cell? ⟨bm, 1, none⟩ = some (.int .i64 ea)) (c2 : w.cell? ⟨bm, 2, none⟩ = some (.int .i64 je)) (cs : w.cell? ⟨bs, 0, none⟩ = some (.int .i64 (s : Int))) :
    SeqStopsK Fence.wide nn Try.prog 82 #[.pointer (some ⟨bt, 0, none⟩), .pointer (some ⟨bm, 0, none⟩), .pointer (some ⟨bs, 0, none⟩)] (fun x : Chg => #[encC x]) (KeptTwo bm bs) (fun ys => ys = phL T s n) (fun pre => pre <+: phL T s n) (phL T s n).length w :=
  fun l J Jx W hW _ _ hY h0 =>
    changes1_gen Fence.wide nn trivial rfl hn l bt bm bs A n c T s ea je hnl hT hs J Jx (KeptTwo bm bs) (KeptTwo.refl bm bs) KeptTwo.trans (fun o v h hc => h bm o v (.inl rfl) hc) (fun o v h hc => h bs o v (.inr rfl) hc) hY W ((hW.cell (p := ⟨bt, 0, none⟩) zt).trans ct) ((hW.cell (p := ⟨bm, 0, none⟩) zm).trans c0) ((hW.cell (p := ⟨bm, 1, none⟩) zm).trans c1) ((hW.cell (p := ⟨bm, 2, none⟩) zm).trans c2) ((hW.cell (p := ⟨bs, 0, none⟩) zs).trans cs) h0
end Go.Proofs.Ytkmiapfkebdpbaa
