/- Contract of sameInts; words for lists that grow. Conditions: the arguments read as data. -/
import Derived.Test.YtkmiapfkebdpbaaKt
import Derived.Test.YtkmiapfkebdpbaaAp
namespace Go.Proofs.Ytkmiapfkebdpbaa
open Go.RowKit

theorem Try.info_int : (Try.prog.info? 3).map (fun i => (i.zero, i.size, i.bytes)) = some (some (.int .i64 0), 1, 8) := by kernel_rfl
theorem Reads.at1n {w : World} {B n : Nat} {A : Option Addr} {l : List Int} (h : Reads w B 1 A n (nums l)) {k : Nat} (hk : k < n) : ∃ b o, A = some ⟨b, o, none⟩ ∧ b < B ∧ w.cell? ⟨b, o + k, none⟩ = some (.int .i64 (l[k]?.getD 0)) := by
  obtain ⟨b, o, e, hb, hc⟩ := h.2 (by omega)
  have hl : l.length = n := by have := h.1; simpa [nums] using this
  exact ⟨b, o, e, hb, hc _ _ (by simp [nums, show k < l.length by omega])⟩
theorem own_reads {w : World} {base : Nat} {e : TypeId} {size n : Nat} {v : Value} {xs : List Value} (h : w.ownsRow base e size v n xs) : ∃ A c, v = .slice A n c ∧ Reads w w.heap.size size A n xs := by
  rcases Nat.eq_zero_or_pos n with h0 | h0
  · subst h0
    have hx : xs = [] := List.eq_nil_of_length_eq_zero (by simpa using h.1)
    subst hx
    rcases h.2 with ⟨rfl, _⟩ | ⟨g, cap, cur, rfl, _⟩
    · exact ⟨none, 0, rfl, ⟨by simp, fun h => absurd h (by omega)⟩⟩
    · exact ⟨_, _, rfl, ⟨by simp, fun h => absurd h (by omega)⟩⟩
  · obtain ⟨g, cap, rfl, _, hlt⟩ := World.ownsRow.form h h0
    exact ⟨_, _, rfl, (Row.of_own h).1.reads h.1 hlt⟩
theorem row_one (w : World) (t : TypeId) (cs : Array Value) (g : Nat) (hg : g = w.heap.size) : Row (w.alloc (.cells cs t)) g t cs.toList := by subst hg; exact Row.new w t cs
theorem take_eq_of {xs ys : List Int} (hl : xs.length = ys.length) (h : ∀ j, j < xs.length → xs[j]?.getD 0 = ys[j]?.getD 0) : xs = ys := by
  apply List.ext_getElem? 
  intro j
  rcases Nat.lt_or_ge j xs.length with hj | hj
  · have := h j hj
    rw [List.getElem?_eq_getElem hj, List.getElem?_eq_getElem (by omega)] at this ⊢
    simpa using this
  · rw [List.getElem?_eq_none hj, List.getElem?_eq_none (by omega)]

set_option maxHeartbeats 1000000 in
theorem sameInts_any (xs ys : List Int) (A A' : Option Addr) (n m c c' B B' : Nat) (w : World) (hr : Reads w B 1 A n (nums xs)) (hs : Reads w B' 1 A' m (nums ys)) (hn : n ≤ maxLen) (hm : m ≤ maxLen) :
    Calls Try.prog 30 #[.slice A n c, .slice A' m c'] w fun e w' => e = .returned (.bool (decide (xs = ys))) ∧ KeptBut [] w w' := by
  unfold maxLen at hn hm
  have hx : xs.length = n := by simpa [nums] using hr.1
  have hy : ys.length = m := by simpa [nums] using hs.1
  by_cases hnm : n = m
  · subst hnm
    have Hx := Lib.hid hx
    have Hy := Lib.hid hy
    clear hx hy
    go_enter Try.func30, Try.ntmps30
    go_wp2_with fail
    go_loopw [5] (fun i wr => ∃ k : Nat, k ≤ n ∧ i = .int .i64 k ∧ KeptBut [] w wr ∧ ∀ j, j < k → xs[j]?.getD 0 = ys[j]?.getD 0) (fun i _ => n - (intOf i).toNat)
    case atStart => exact ⟨0, Nat.zero_le _, rfl, KeptBut.refl _ _, fun j h => absurd h (by omega)⟩
    case round =>
      obtain ⟨k, hk, rfl, hkr, hall⟩ := hrel
      have Hall := Lib.hid hall
      clear hall
      by_cases hlt : k < n
      · have hkeep : ∀ p : Addr, p.block < w.heap.size → wr.cell? p = w.cell? p := fun p hp => World.cell?_of_block (hkr.block p.block hp (by simp))
        obtain ⟨b, o, rfl, hb, hc⟩ := hr.at1 hlt
        obtain ⟨b', o', rfl, hb', hc'⟩ := hs.at1 hlt
        have q1 := hc k hlt
        have q2 := hc' k hlt
        have l1 := World.new_ne w _ q1
        have l2 := World.new_ne w _ q2
        have bl1 : b < w.heap.size := by
          rcases Nat.lt_or_ge b w.heap.size with h | h
          · exact h
          · simp [World.cell?, Array.getElem?_eq_none h] at q1
        have bl2 : b' < w.heap.size := by
          rcases Nat.lt_or_ge b' w.heap.size with h | h
          · exact h
          · simp [World.cell?, Array.getElem?_eq_none h] at q2
        have p1 := (hkeep ⟨b, o + k, none⟩ bl1).trans q1
        have p2 := (hkeep ⟨b', o' + k, none⟩ bl2).trans q2
        clear hc hc' q1 q2 l1 l2 hkeep
        have hk1 : (k : Int) < (n : Int) := by omega
        by_cases he : xs[k]?.getD 0 = ys[k]?.getD 0
        · have he1 : (xs[k]?.getD 0 != ys[k]?.getD 0) = false := by simpa using he
          have He := Lib.hid he
          clear he
          go_wp2_with fail
          go_quiet (fail)
          go_wp2_with fail
          go_roundw
          case rel => exact ⟨k + 1, by omega, by go_num, hkr.drewN _, fun j hj => by
            rcases Nat.lt_or_ge j k with h | h
            · exact Hall.out j h
            · obtain rfl : j = k := by omega
              exact He.out⟩
          case measure => simp [intOf]; omega
        · have he1 : (xs[k]?.getD 0 != ys[k]?.getD 0) = true := by simpa using he
          have He := Lib.hid he
          clear he
          go_wp2_with fail
          go_quiet (fail)
          go_wp2_with fail
          go_ret
          refine ⟨ret_bool ?_, hkr.drewN _⟩
          rw [eq_comm, decide_eq_false_iff_not]
          intro h
          exact He.out (by rw [h])
      · have hk1 : ¬ (k : Int) < (n : Int) := by omega
        go_wp2_with fail
        go_ret
        refine ⟨ret_bool ?_, hkr⟩
        rw [eq_comm, decide_eq_true_eq]
        exact take_eq_of (Hx.out.trans Hy.out.symm) fun j hj => Hall.out j (by have := Hx.out; omega)
  · have hne : ((n : Int) != (m : Int)) = true := by rw [bne_iff_ne]; omega
    have hd : Hid (decide (xs = ys) = false) := by
      show _ = _
      rw [decide_eq_false_iff_not]
      intro h
      rw [h] at hx
      omega
    clear hx hy hnm
    go_enter Try.func30, Try.ntmps30
    go_wp2_with fail
    go_ret
    exact ⟨ret_bool hd.out.symm, KeptBut.refl _ _⟩

end Go.Proofs.Ytkmiapfkebdpbaa
