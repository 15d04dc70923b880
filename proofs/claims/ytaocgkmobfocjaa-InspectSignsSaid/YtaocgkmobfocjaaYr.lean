/- The rule for a drawn region whose invariant speaks of all that has come up; quiet tails with guards. No program. -/
import Derived.Test.YtaocgkmobfocjaaRj
import Derived.Test.YtaocgkmobfocjaaJi
import Derived.Maps.AppendAt
import Derived.StillTailTactics
namespace Go.Proofs.Ytaocgkmobfocjaa
open Go Go.RowKit

/-- The rule for a drawn region whose invariant speaks of what has come up, and of its values. -/
def StepY (P : Program) (ops : Array Oper) (Q : Exit → Act → World → Prop) (a : Act) (ds : List (Nat × Tmp)) (I : (Nat → Bool) → (Nat → Value) → World → Prop) (i : Nat) (dst : Option Tmp) : Prop :=
  ∀ (xs : Nat → Value) (done : Nat → Bool) (y : World), I done xs y → done i = false → (∀ j, aheadB ops 8 j i = true → done j = false) → (∀ j, aheadB ops 8 i j = true → done j = true) → ∀ K : Act → World → Prop,
    Shut (∀ v z, I (setD done i) (setX xs i v) z → K ((putsF a ds xs).put dst v) z) → wpOp P ops Q i K (putsF a ds xs) y
def StepsY (P : Program) (ops : Array Oper) (Q : Exit → Act → World → Prop) (a : Act) (ds : List (Nat × Tmp)) (I : (Nat → Bool) → (Nat → Value) → World → Prop) : Nat → Nat → Prop
  | _, 0 => True
  | k, n + 1 => (∀ o, ops[k]? = some o → StepY P ops Q a ds I k o.dst) ∧ StepsY P ops Q a ds I (k + 1) n
section
variable {P : Program} {ops : Array Oper} {Q : Exit → Act → World → Prop} {a : Act} {ds : List (Nat × Tmp)} {I : (Nat → Bool) → (Nat → Value) → World → Prop}
theorem StepsY.nil {k : Nat} : StepsY P ops Q a ds I k 0 := trivial
theorem StepsY.cons {k k' n : Nat} {o : Oper} (hk : k' = k + 1) (ho : ops[k]? = some o) (h : StepY P ops Q a ds I k o.dst) (hs : StepsY P ops Q a ds I k' n) : StepsY P ops Q a ds I k (n + 1) := by
  subst hk
  exact ⟨fun o' ho' => by rw [ho] at ho'; injection ho' with ho'; subst ho'; exact h, hs⟩
theorem StepsY.at : ∀ (n k : Nat), StepsY P ops Q a ds I k n → ∀ i o, k ≤ i → i < k + n → ops[i]? = some o → StepY P ops Q a ds I i o.dst
  | 0, k, _, i, _, h1, h2, _ => by omega
  | n + 1, k, h, i, o, h1, h2, ho => by
    rcases Nat.lt_or_ge k i with h3 | h3
    · exact StepsY.at n (k + 1) h.2 i o h3 (by omega) ho
    · obtain rfl : i = k := by omega
      exact h.1 o ho
theorem wp_region_stepsY {id : Nat} {w : World} {ord : List Nat} (m : Nat) (hmx : P.follows .mixedOrders = true) (hok : rgB ops ord m ds = true) (hm : ops.size = m) (hI : ∀ xs, I (fun _ => false) xs w.drew)
    (hs : StepsY P ops Q a ds I 0 m)
    (hend : ∀ xs done y, I done xs y → (∀ j, j < m → done j = true) → Q .normal (putsF a ds xs) y) : (Code.region id ops true).wp P Q a w :=
  wp_region_any hmx (anyE_wp _ _ _ _ (rg_startX (E := wpOp P ops Q) (w := w.drew) (m := m) (V := fun _ _ _ => True) (I := I) (fun _ _ _ _ _ h => wpOp_mono h) hok (Nat.le_of_eq hm.symm) hI (fun i o him ho xs done y hy hd hup hdn _ K hK =>
    hs.at m 0 i o (Nat.zero_le _) (by omega) ho xs done y hy hd hup hdn K fun v z hz => hK v z hz trivial fun _ _ _ _ _ _ => trivial) fun xs done y hy hd _ _ => by
      rw [hm, Nat.sub_self]
      exact hend xs done y hy hd))
end
/-- A quiet tail step by step, in a box that the elaborator doesn't open. -/
structure BoxP (p : Prop) : Prop where
  out : p
theorem box_step {P : Program} {ops : Array Oper} {w : World} {Q : Act → Prop} {a : Act} {o : Oper} {rest : List Oper}
    (h : ∀ K : Act → Prop, (∀ a, BoxP (wpStill P ops w Q rest a) → K a) → if Region.wanted o (yielded ops a.tmps) then o.still P a w K else K (a.put o.dst undef)) : BoxP (wpStill P ops w Q (o :: rest) a) :=
  ⟨h _ (fun _ h => h.out)⟩
theorem box_nil {P : Program} {ops : Array Oper} {w : World} {Q : Act → Prop} {a : Act} (h : Q a) : BoxP (wpStill P ops w Q [] a) := ⟨h⟩
/-- An append to a row of the call's own, that says where it lies then. -/
theorem wp_appAt {P : Program} (w : World) {o : Oper} {a : Act} {K : Act → World → Prop} {Q : Exit → Act → World → Prop} (s x : Operand) (t : TypeId)
    (ho : o.op = .call { callee := .builtin .append, args := #[s, x], argTypes := #[t, t] })
    (base : Nat) (e : TypeId) (i : TypeInfo) (z : Value) (size bytes : Nat) (ht : P.underlying t = some (.slice e)) (hi : P.info? e = some i) (hz : i.zero = some z)
    (hsize : i.size = size) (hby : i.bytes = bytes) (hzs : z.cells.size = size) (hsz : 0 < size)
    (v : Value) (n : Nat) (xs : List Value) (hs : a.eval s = v) (hown : w.ownsRow base e size v n xs)
    (ad : Addr) (m c : Nat) (news : List Value) (hx : a.eval x = .slice (some ad) m c) (hl : news.length = m * size) (hnews : ∀ j u, news[j]? = some u → w.cell? (ad.add j) = some u) (h1 : ∀ u ∈ news, u.oneCell' = true)
    (h63 : n + m ≤ maxLen) (hbytes : (n + m) * bytes ≤ 140737488355328) (hbase : base ≤ w.heap.size)
    (h : ∀ v' w', w'.ownsRow base e size v' (n + m) (xs ++ news) → w.grownBy w' v.ownBlock → (v'.ownBlock = v.ownBlock ∨ v'.ownBlock = some w.heap.size) → K (a.put o.dst v') w') : Oper.wp P o a w K Q := by
  obtain ⟨v', w', hrun, h2, h3, _, h5⟩ := run_append_own_at (P := P) w base t o.type e i z size bytes ht hi hz hsize hby hzs hsz v n xs hown ad m c news hl hnews h1 h63 hbytes hbase
  unfold Oper.wp execOp
  simp only [ho, resolve, invoke, builtin, Sem.run_bind, Sem.run_pure, Result.andThen_ok, List.map_toArray, List.map_cons, List.map_nil, hs, hx, hrun]
  exact h v' w' h2 h3 h5
end Go.Proofs.Ytaocgkmobfocjaa
