/- Contract of happen, which lets a deal happen. Conditions: the fair as it stands reads as data. -/
import Derived.Test.YtpcceankhgjjmaaWe
import Derived.Test.YtpcceankhgjjmaaWf
import Derived.Test.YtpcceankhgjjmaaWg
import Derived.Test.YtpcceankhgjjmaaWh
import Derived.Test.YtpcceankhgjjmaaWi
namespace Go.Proofs.Ytpcceankhgjjmaa
open Go.RowKit

theorem StepPost.ret {w w' : World} {B : Nat} {F : Fair} {R : Refs} {L : Locs} {r : Option Count} {e : Ending} (h : StepPost w B F R L r e w') : e = .returned (.bool r.isSome) := by
  cases r with
  | none => exact h.1
  | some c => exact h.1
theorem StepPost.lift {w w0 w' : World} {B : Nat} {F : Fair} {R : Refs} {L : Locs} {r r' : Option Count} {e : Ending} (hr : r' = r) (h : StepPost w0 B F R L r e w') (hb : Below w.heap.size w w0) (hz : w.heap.size ≤ w0.heap.size) : StepPost w B F R L r' e w' := by
  subst hr
  cases r' with
  | none => exact ⟨h.1, hb.trans (h.2.mono hz)⟩
  | some c => exact ⟨h.1, h.2.1, (KeptBut.of_below hb).trans h.2.2⟩

section
variable {w : World} {B : Nat} {F : Fair} {R : Refs} {L : Locs} {C : Count}

set_option maxHeartbeats 2000000 in
set_option maxRecDepth 100000 in
theorem happen_any (d : Deal) (hS : Std w B F R L C) :
    Calls Try.prog 68 #[.pointer (some ⟨L.bs, 0, none⟩), dealV d] w (StepPost w B F R L (stepS F C d)) := by
  have hS0 := hS.alloc (.cells #[.int .i64 d.at_, .int .i64 d.kind, .int .i64 d.a, .int .i64 d.b, .int .i64 d.n] 65)
  have B0 := (Below.refl w.heap.size w).alloc (Nat.le_refl _) (.cells #[.int .i64 d.at_, .int .i64 d.kind, .int .i64 d.a, .int .i64 d.b, .int .i64 d.n] 65)
  have Z0 : w.heap.size ≤ (w.alloc (.cells #[.int .i64 d.at_, .int .i64 d.kind, .int .i64 d.a, .int .i64 d.b, .int .i64 d.n] 65)).heap.size := by simp
  obtain ⟨at_, kind, a, b, n⟩ := d
  unfold dealV
  dsimp only at *
  by_cases h1 : kind = 1
  · subst h1
    go_enter Try.func68, Try.ntmps68
    go_wp2_with fail
    refine (sell_any ⟨at_, 1, a, b, n⟩ hS0).mono ?_
    intro e w' hp
    obtain rfl := hp.ret
    go_wp2
    go_ret
    exact hp.lift (by simp [stepS]) B0 Z0
  by_cases h2 : kind = 2
  · subst h2
    go_enter Try.func68, Try.ntmps68
    go_wp2_with fail
    refine (ride_any ⟨at_, 2, a, b, n⟩ hS0).mono ?_
    intro e w' hp
    obtain rfl := hp.ret
    go_wp2
    go_ret
    exact hp.lift (by simp [stepS]) B0 Z0
  by_cases h3 : kind = 3
  · subst h3
    go_enter Try.func68, Try.ntmps68
    go_wp2_with fail
    refine (band_any ⟨at_, 3, a, b, n⟩ hS0).mono ?_
    intro e w' hp
    obtain rfl := hp.ret
    go_wp2
    go_ret
    exact hp.lift (by simp [stepS]) B0 Z0
  by_cases h4 : kind = 4
  · subst h4
    go_enter Try.func68, Try.ntmps68
    go_wp2_with fail
    refine (giveBack_any ⟨at_, 4, a, b, n⟩ hS0).mono ?_
    intro e w' hp
    obtain rfl := hp.ret
    go_wp2
    go_ret
    exact hp.lift (by simp [stepS]) B0 Z0
  by_cases h5 : kind = 5
  · subst h5
    go_enter Try.func68, Try.ntmps68
    go_wp2_with fail
    refine (empty_any ⟨at_, 5, a, b, n⟩ hS0).mono ?_
    intro e w' hp
    obtain rfl := hp.ret
    go_wp2
    go_ret
    exact hp.lift (by simp [stepS]) B0 Z0
  by_cases h6 : kind = 6
  · subst h6
    go_enter Try.func68, Try.ntmps68
    go_wp2_with fail
    refine (give_any ⟨at_, 6, a, b, n⟩ hS0).mono ?_
    intro e w' hp
    obtain rfl := hp.ret
    go_wp2
    go_ret
    exact hp.lift (by simp [stepS]) B0 Z0
  by_cases h7 : kind = 7
  · subst h7
    go_enter Try.func68, Try.ntmps68
    go_wp2_with fail
    refine (lose_any ⟨at_, 7, a, b, n⟩ hS0).mono ?_
    intro e w' hp
    obtain rfl := hp.ret
    go_wp2
    go_ret
    exact hp.lift (by simp [stepS]) B0 Z0
  have g1 : (kind == 1) = false := by simpa using h1
  have g2 : (kind == 2) = false := by simpa using h2
  have g3 : (kind == 3) = false := by simpa using h3
  have g4 : (kind == 4) = false := by simpa using h4
  have g5 : (kind == 5) = false := by simpa using h5
  have g6 : (kind == 6) = false := by simpa using h6
  have g7 : (kind == 7) = false := by simpa using h7
  have Hn : Hid (stepS F C ⟨at_, kind, a, b, n⟩ = none) := by show stepS F C ⟨at_, kind, a, b, n⟩ = none; simp [stepS, h1, h2, h3, h4, h5, h6, h7]
  clear h1 h2 h3 h4 h5 h6 h7
  go_enter Try.func68, Try.ntmps68
  go_wp2_with fail
  go_ret
  exact post_no Hn.out rfl B0
end
end Go.Proofs.Ytpcceankhgjjmaa
