/- An evening of layer 7, plainly: who is on a ride together has room together. No program, no memory. -/
import Derived.Test.YtijbhcdnbaaobaaHf
namespace Go.Proofs.Ytijbhcdnbaaobaa

def crowd (sz : Nat → Int) (r : Nat) (t : Int) : List VisZ → Int
  | [] => 0
  | v :: l => (if v.on = true ∧ v.ride = r ∧ v.left = t then sz v.group else 0) + crowd sz r t l
theorem crowd_snoc (sz : Nat → Int) (r : Nat) (t : Int) (v : VisZ) : ∀ l, crowd sz r t (l ++ [v]) = crowd sz r t l + (if v.on = true ∧ v.ride = r ∧ v.left = t then sz v.group else 0) := by
  intro l
  induction l with
  | nil => simp [crowd]
  | cons x l ih => simp only [List.cons_append, crowd, ih]; omega
theorem crowd_none (sz : Nat → Int) (r : Nat) (t : Int) : ∀ l : List VisZ, (∀ v ∈ l, v.on = true → v.ride = r → v.left ≠ t) → crowd sz r t l = 0 := by
  intro l
  induction l with
  | nil => intro _; rfl
  | cons x l ih =>
    intro h
    simp only [crowd, ih (fun v hv => h v (List.mem_cons_of_mem _ hv))]
    rw [if_neg (fun e => h x List.mem_cons_self e.1 e.2.1 e.2.2)]
    rfl
def sizeS (a : EvS) (i : Nat) : Int := (a.grp i).g.size
def restS (a : EvS) (r : Nat) : Int := (a.rd r).b.cycle + (a.rd r).b.pause
/-- The visits with On at a ride; left: how many seats are free while it is being filled. -/
structure RoomS (a s : EvS) (r : Nat) (left : Option Int) : Prop where
  cap : ∀ t, crowd (sizeS a) r t s.visits ≤ (a.rd r).b.seats
  past : left = none → ∀ v ∈ s.visits, v.on = true → v.ride = r → v.left + restS a r ≤ (s.rd r).ready
  now : left ≠ none → ∀ v ∈ s.visits, v.on = true → v.ride = r → v.left = s.now ∨ v.left + restS a r ≤ s.now
  apart : ∀ v ∈ s.visits, ∀ w ∈ s.visits, v.on = true → w.on = true → v.ride = r → w.ride = r → v.left = w.left ∨ v.left + restS a r ≤ w.left ∨ w.left + restS a r ≤ v.left
  fill : ∀ n, left = some n → crowd (sizeS a) r s.now s.visits + n = (a.rd r).b.seats ∧ 0 ≤ n ∧ (n < (a.rd r).b.seats ∨ ∀ v ∈ s.visits, v.on = true → v.ride = r → v.left ≠ s.now)
theorem room_same {a s t : EvS} {r : Nat} {left : Option Int} (h : RoomS a s r left) (hv : t.visits = s.visits) (hn : t.now = s.now) (hr : (t.rd r).ready = (s.rd r).ready) : RoomS a t r left :=
  ⟨by rw [hv]; exact h.cap, by rw [hv, hr]; exact h.past, by rw [hv, hn]; exact h.now, by rw [hv]; exact h.apart, by rw [hv, hn]; exact h.fill⟩
/-- A visit that does not get on here changes nothing here. -/
theorem room_off {a s t : EvS} {r : Nat} {left : Option Int} {x : VisZ} (h : RoomS a s r left) (hx : ¬ (x.on = true ∧ x.ride = r)) (hv : t.visits = s.visits ++ [x]) (hn : t.now = s.now) (hr : (t.rd r).ready = (s.rd r).ready) : RoomS a t r left := by
  have hc : ∀ u, crowd (sizeS a) r u t.visits = crowd (sizeS a) r u s.visits := fun u => by
    rw [hv, crowd_snoc, if_neg (fun e => hx ⟨e.1, e.2.1⟩)]
    omega
  have hm : ∀ v ∈ t.visits, v.on = true → v.ride = r → v ∈ s.visits := fun v hv' e1 e2 => by
    rw [hv] at hv'
    rcases List.mem_append.1 hv' with h1 | h1
    · exact h1
    · rw [List.mem_singleton] at h1
      rw [h1] at e1 e2
      exact absurd ⟨e1, e2⟩ hx
  refine ⟨fun u => by rw [hc]; exact h.cap u, fun hl v hv' e1 e2 => by rw [hr]; exact h.past hl v (hm v hv' e1 e2) e1 e2, fun hl v hv' e1 e2 => by rw [hn]; exact h.now hl v (hm v hv' e1 e2) e1 e2, fun v hv' w hw e1 e2 e3 e4 => h.apart v (hm v hv' e1 e3) w (hm w hw e2 e4) e1 e2 e3 e4, fun n e => ?_⟩
  obtain ⟨u1, u2, u3⟩ := h.fill n e
  rw [hc, hn]
  exact ⟨u1, u2, u3.imp id fun k v hv' e1 e2 => k v (hm v hv' e1 e2) e1 e2⟩
/-- A visit that gets on here. -/
theorem room_on {a s t : EvS} {r : Nat} {n : Int} {x : VisZ} (h : RoomS a s r (some n)) (hx : x.ride = r) (ho : x.on = true) (hl : x.left = s.now) (h1 : 1 ≤ sizeS a x.group) (h2 : sizeS a x.group ≤ n) (hv : t.visits = s.visits ++ [x]) (hn : t.now = s.now) : RoomS a t r (some (n - sizeS a x.group)) := by
  obtain ⟨u1, u2, u3⟩ := h.fill n rfl
  have hc : ∀ u, crowd (sizeS a) r u t.visits = crowd (sizeS a) r u s.visits + (if s.now = u then sizeS a x.group else 0) := fun u => by
    rw [hv, crowd_snoc, hx, ho, hl]
    simp
  have hm : ∀ v ∈ t.visits, v ∈ s.visits ∨ v = x := fun v hv' => by
    rw [hv] at hv'
    rcases List.mem_append.1 hv' with k | k
    · exact .inl k
    · exact .inr (List.mem_singleton.1 k)
  refine ⟨fun u => ?_, (fun e => by cases e), fun _ v hv' e1 e2 => ?_, fun v hv' w hw e1 e2 e3 e4 => ?_, fun m e => ?_⟩
  · rw [hc]
    have := h.cap u
    split
    · rename_i e
      rw [← e]
      omega
    · omega
  · rw [hn]
    rcases hm v hv' with k | k
    · exact h.now (by simp) v k e1 e2
    · rw [k]; exact .inl hl
  · rcases hm v hv' with k | k <;> rcases hm w hw with k' | k'
    · exact h.apart v k w k' e1 e2 e3 e4
    · rw [k', hl]
      rcases h.now (by simp) v k e1 e3 with z | z
      · exact .inl z
      · exact .inr (.inl z)
    · rw [k, hl]
      rcases h.now (by simp) w k' e2 e4 with z | z
      · exact .inl z.symm
      · exact .inr (.inr z)
    · rw [k, k']; exact .inl rfl
  · cases e
    rw [hn, hc, if_pos rfl]
    refine ⟨by omega, by omega, .inl ?_⟩
    rcases u3 with u3 | u3
    · omega
    · have := crowd_none (sizeS a) r s.now s.visits u3
      omega
end Go.Proofs.Ytijbhcdnbaaobaa
