/- Contract of numbers: those below n that are chosen. Conditions: the function that chooses only reads. -/
import Derived.Test.YtonbaikdpcmbiaaWo
import Derived.Test.YtonbaikdpcmbiaaAp
namespace Go.Proofs.Ytonbaikdpcmbiaa
open Go.RowKit

def numsI (p : Nat → Bool) (k : Nat) : List Int := ((List.range k).filter p).map fun (i : Nat) => (i : Int)
theorem numsI_yes (p : Nat → Bool) (k : Nat) (h : p k = true) : numsI p (k + 1) = numsI p k ++ [(k : Int)] := by simp [numsI, List.range_succ, List.filter_append, h]
theorem numsI_no (p : Nat → Bool) (k : Nat) (h : p k = false) : numsI p (k + 1) = numsI p k := by simp [numsI, List.range_succ, List.filter_append, h]
theorem numsI_len (p : Nat → Bool) (k : Nat) : (numsI p k).length ≤ k := by
  have := List.length_filter_le p (List.range k)
  simp only [numsI, List.length_map]
  simpa using this
theorem own_reads {w : World} {base : Nat} {e : TypeId} {size n : Nat} {v : Value} {xs : List Value} (h : w.ownsRow base e size v n xs) : ∃ A c, v = .slice A n c ∧ Reads w w.heap.size size A n xs := by
  rcases Nat.eq_zero_or_pos n with h0 | h0
  · subst h0
    have hx : xs = [] := List.eq_nil_of_length_eq_zero (by simpa using h.1)
    subst hx
    rcases h.2 with ⟨rfl, _⟩ | ⟨g, cap, cur, rfl, _⟩
    · exact ⟨none, 0, rfl, ⟨by simp, fun h => absurd h (by omega)⟩⟩
    · exact ⟨_, _, rfl, ⟨by simp, fun h => absurd h (by omega)⟩⟩
  · obtain ⟨g, cap, rfl, _, hlt⟩ := World.ownsRow.form h h0
    exact ⟨_, _, rfl, (Row.of_own h).1.reads h.1 hlt⟩
theorem row_one (w : World) (t : TypeId) (cs : Array Value) (g : Nat) (hg : g = w.heap.size) : Row (w.alloc (.cells cs t)) g t cs.toList := by subst hg; exact Row.new w t cs
/-- What numbers leaves. -/
def NumPost (w : World) (p : Nat → Bool) (n : Nat) (e : Ending) (w' : World) : Prop :=
  Below w.heap.size w w' ∧ ∃ A c, e = .returned (.slice A (numsI p n).length c) ∧ Reads w' w'.heap.size 1 A (numsI p n).length (intCells (numsI p n))
/-- The relation of the loop: the slice holds those of the first k that are chosen. -/
def NumRel (w : World) (p : Nat → Bool) (n : Nat) (v i : Value) (wr : World) : Prop :=
  ∃ k : Nat, k ≤ n ∧ i = .int .i64 k ∧ wr.ownsRow w.heap.size 3 1 v (numsI p k).length (intCells (numsI p k)) ∧ Below w.heap.size w wr

set_option maxHeartbeats 1000000 in
set_option maxRecDepth 100000 in
theorem numbers_any (n : Nat) (fid : FuncId) (caps : Array Value) (p : Nat → Bool) (w : World) (hn : n ≤ 100000)
    (hfid : ∀ a w, Sem.run Try.prog (callFunc fid a) w = Result.ok (Next.enter fid a) w)
    (hsee : ∀ k, k < n → ∀ X, Below w.heap.size w X → Calls Try.prog fid (#[.int .i64 k] ++ caps) X fun e w' => e = .returned (.bool (p k)) ∧ ∃ d, w' = X.drewN d) :
    Calls Try.prog 54 #[.int .i64 n, .func (.func fid) #[] caps] w (NumPost w p n) := by
  obtain ⟨i0, hi, hz0, hz1, hz2⟩ := info_parts Try.info_int
  have Hs := Lib.hid hsee
  clear hsee
  go_enter Try.func54, Try.ntmps54
  go_wp2_with fail
  go_loopw [5, 8] (fun v i wr => NumRel w p n v i wr) (fun _ i _ => n - (intOf i).toNat)
  case atStart => exact ⟨0, Nat.zero_le _, rfl, owns_nil _ _ _ _, Below.refl _ _⟩
  case round =>
    obtain ⟨k, hk, rfl, hown, hbel⟩ := hrel
    by_cases hlt : k < n
    · have hlt' : (k : Int) < (n : Int) := by omega
      go_wp2_with fail
      refine (Hs.out k hlt _ hbel).mono ?_
      rintro e x ⟨rfl, ⟨d, rfl⟩⟩
      have hl := numsI_len p k
      have hs := hbel.size
      cases hp : p k with
      | false =>
        have En := Lib.hid (numsI_no p k hp)
        go_wp2_with fail
        go_roundw
        case rel => exact ⟨k + 1, by omega, by go_num, by rw [En.out]; exact hown, below_drewN hbel _⟩
        case measure => simp [intOf]; omega
      | true =>
        have En := Lib.hid (numsI_yes p k hp)
        clear hp
        have m1 : (numsI p k).length + 1 ≤ maxLen := by unfold maxLen; omega
        have m2 : ((numsI p k).length + 1) * 8 ≤ 140737488355328 := by omega
        go_wp2_with (at_builtin; refine wpList_app _ rfl _ _ 22 rfl w.heap.size 3 i0 (.int .i64 0) 1 8 Try.underlying22 hi hz0 hz1 hz2 rfl (by decide) u5 (numsI p k).length (intCells (numsI p k)) rfl ?qo (wr.heap.size + 1) (some ⟨wr.heap.size, 0, none⟩) 1 1 (intCells [(k : Int)]) rfl ?qr ?q1 m1 m2 ?qb ?_)
        case qo => first | exact owns_alloc hown _ | exact owns_alloc (owns_drewN hown _) _ | exact owns_drewN (owns_alloc hown _) _
        case qr =>
          refine Row.reads (t := 3) ?_ rfl (by omega)
          show Row _ _ _ [.int .i64 k]
          first | exact row_one _ _ _ _ (by simp; done) | exact (row_one _ _ _ _ (by simp; done)).drewN _
        case q1 => intro u hu; simp [intCells] at hu; subst hu; rfl
        case qb => simp; omega
        intro v' w1 hown' hbel'
        go_wp2_with fail
        go_roundw
        case rel => exact ⟨k + 1, by omega, by go_num, by rw [En.out]; simpa [intCells] using hown', Below.trans (by repeat (first | (with_reducible exact hbel) | (with_reducible refine below_drewN ?_ _) | (with_reducible refine Below.alloc ?_ ?_ _) | (simp; omega))) hbel'⟩
        case measure => simp [intOf]; omega
    · have hge : ¬ (k : Int) < (n : Int) := by omega
      have ek : k = n := by omega
      have Hk := Lib.hid ek
      clear ek
      go_wp2_with fail
      go_ret
      obtain ⟨A, c, hv, hr⟩ := own_reads hown
      rw [Hk.out] at hv hr
      exact ⟨hbel, A, c, by rw [hv]; rfl, hr⟩
end Go.Proofs.Ytonbaikdpcmbiaa
