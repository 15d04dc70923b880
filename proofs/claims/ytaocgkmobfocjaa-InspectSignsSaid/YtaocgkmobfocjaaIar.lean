/- Who may sign a check: pairs in their order, plain; the contract of signers. Conditions: a book that reads as data. -/
import Derived.Test.YtaocgkmobfocjaaIcg
namespace Go.Proofs.Ytaocgkmobfocjaa
open Go.RowKit

theorem Try.info_pairI : (Try.prog.info? 52).map (fun i => (i.zero, i.size, i.bytes)) = some (some (.agg #[.int .i64 0, .int .i64 0]), 2, 16) := by kernel_rfl
/-- Whether the pair of a number may sign. -/
def okT (k : BookZ) (u : RuZ) (t : Nat) : Bool := signB k u ((t / (k.ranks.length + 1) : Nat) : Int) (((t % (k.ranks.length + 1) : Nat) : Int) - 1)
def sgN (k : BookZ) (u : RuZ) (n : Nat) : List Nat := (List.range n).filter (okT k u)
def prC (M t : Nat) : List Value := [.int .i64 ((t / M : Nat) : Int), .int .i64 (((t % M : Nat) : Int) - 1)]
def prCells (M : Nat) (L : List Nat) : List Value := L.flatMap (prC M)
theorem sg_yes {k : BookZ} {u : RuZ} {t : Nat} (h : okT k u t = true) : sgN k u (t + 1) = sgN k u t ++ [t] := by simp [sgN, List.range_succ, List.filter_append, h]
theorem sg_no {k : BookZ} {u : RuZ} {t : Nat} (h : okT k u t = false) : sgN k u (t + 1) = sgN k u t := by simp [sgN, List.range_succ, List.filter_append, h]
theorem sg_len (k : BookZ) (u : RuZ) (n : Nat) : (sgN k u n).length ≤ n := by
  unfold sgN
  have := List.length_filter_le (okT k u) (List.range n)
  rwa [List.length_range] at this
theorem prCells_snoc (M : Nat) (L : List Nat) (t : Nat) : prCells M (L ++ [t]) = prCells M L ++ prC M t := by simp [prCells]
theorem pr_ones (M : Nat) (L : List Nat) : ∀ u ∈ prCells M L, u.oneCell' = true := by
  intro u hu
  simp only [prCells, List.mem_flatMap] at hu
  obtain ⟨x, -, hx⟩ := hu
  simp [prC] at hx
  rcases hx with rfl | rfl <;> rfl
theorem at_div {M n c : Nat} (h : c < M) : (n * M + c) / M = n ∧ (n * M + c) % M = c := by
  refine ⟨?_, ?_⟩
  · rw [Nat.mul_comm, Nat.mul_add_div (by omega), Nat.div_eq_of_lt h]; omega
  · rw [Nat.mul_comm, Nat.mul_add_mod, Nat.mod_eq_of_lt h]
theorem okT_at {k : BookZ} {u : RuZ} {n c : Nat} (h : c < k.ranks.length + 1) : okT k u (n * (k.ranks.length + 1) + c) = signB k u (n : Int) ((c : Int) - 1) := by
  unfold okT
  rw [(at_div h).1, (at_div h).2]
theorem prC_at {M n c : Nat} (h : c < M) : prC M (n * M + c) = [.int .i64 (n : Int), .int .i64 ((c : Int) - 1)] := by
  unfold prC
  rw [(at_div h).1, (at_div h).2]
/-- A slice of pairs that the call has laid. -/
def PrTo (w : World) (M : Nat) (L : List Nat) (e : Ending) (w' : World) : Prop :=
  Below w.heap.size w w' ∧ ∃ A c, e = .returned (.slice A L.length c) ∧ Reads w' w'.heap.size 2 A L.length (prCells M L)
/-- What the list holds behind so many pairs. -/
structure SgIn (w0 w : World) (k : BookZ) (u : RuZ) (v : Value) (t : Nat) : Prop where
  own : w.ownsRow w0.heap.size 52 2 v (sgN k u t).length (prCells (k.ranks.length + 1) (sgN k u t))
  bel : Below w0.heap.size w0 w
theorem SgIn.below {w0 w w' : World} {k : BookZ} {u : RuZ} {v : Value} {t : Nat} (h : SgIn w0 w k u v t) (hb : Below w.heap.size w w') : SgIn w0 w' k u v t := ⟨own_below h.own hb, h.bel.trans (hb.mono h.bel.size)⟩
theorem SgIn.no {w0 w : World} {k : BookZ} {u : RuZ} {v : Value} {n c : Nat} (h : SgIn w0 w k u v (n * (k.ranks.length + 1) + c)) (hc : c < k.ranks.length + 1) (hs : signB k u (n : Int) ((c : Int) - 1) = false) : SgIn w0 w k u v (n * (k.ranks.length + 1) + (c + 1)) := by
  rw [← okT_at hc] at hs
  have e := sg_no hs
  rw [← Nat.add_assoc]
  exact ⟨by rw [e]; exact h.own, h.bel⟩
theorem SgIn.row {w0 w : World} {k : BookZ} {u : RuZ} {v : Value} {n : Nat} (h : SgIn w0 w k u v (n * (k.ranks.length + 1) + (k.ranks.length + 1))) : SgIn w0 w k u v ((n + 1) * (k.ranks.length + 1)) := by
  rwa [Nat.succ_mul]
set_option maxRecDepth 100000 in
set_option maxHeartbeats 2000000 in
theorem signers_any (k : BookZ) (R : BkR) (u : RuZ) (B : Nat) (w : World) (hB : B ≤ w.heap.size) (hk : BkIn w B k R) (hn8 : k.ranks.length ≤ 8) :
    Calls Try.prog 70 #[bookV k R, ruV u] w (PrTo w (k.ranks.length + 1) (sgN k u (k.ranks.length * (k.ranks.length + 1)))) := by
  obtain ⟨W, hW⟩ : ∃ W, W = (w.alloc (.cells #[.slice R.A1 k.rules.length R.c1, .slice R.A2 k.ranks.length R.c2, .slice R.A3 k.insured.length R.c3] 25)).alloc (.cells #[.int .i64 u.ride, .int .i64 u.every, .int .i64 u.rank, .bool u.two] 59) := ⟨_, rfl⟩
  have bW : Below w.heap.size w W := by subst hW; exact ((Below.refl _ _).alloc (Nat.le_refl _) _).alloc (by simp) _
  have r0 : Row W w.heap.size 25 [.slice R.A1 k.rules.length R.c1, .slice R.A2 k.ranks.length R.c2, .slice R.A3 k.insured.length R.c3] := by subst hW; exact (Row.new w _ _).alloc _
  have r1 : Row W (w.heap.size + 1) 59 [.int .i64 u.ride, .int .i64 u.every, .int .i64 u.rank, .bool u.two] := by
    subst hW
    have h := Row.new (w.alloc (.cells #[.slice R.A1 k.rules.length R.c1, .slice R.A2 k.ranks.length R.c2, .slice R.A3 k.insured.length R.c3] 25)) 59 #[.int .i64 u.ride, .int .i64 u.every, .int .i64 u.rank, .bool u.two]
    rw [World.size_alloc] at h
    exact h
  obtain ⟨zb, hzb⟩ : ∃ z, z = w.heap.size := ⟨_, rfl⟩
  obtain ⟨zq, hzq⟩ : ∃ z, z = w.heap.size + 1 := ⟨_, rfl⟩
  rw [← hzb] at r0
  rw [← hzq] at r1
  have HBW := Lib.hid bW
  have HR0 := Lib.hid r0
  have HR1 := Lib.hid r1
  have HM : Hid (∀ (a b : Int) (X : World), Below w.heap.size w X → Calls Try.prog 85 #[bookV k R, ruV u, .int .i64 a, .int .i64 b] X fun e w' => e = .returned (.bool (signB k u a b)) ∧ Below X.heap.size X w') := fun a b X hX => maySign_any k R u a b B X (Nat.le_trans hB hX.size) (hk.below (hX.mono hB))
  have q1 : W.cell? ⟨zb, 1, none⟩ = some (.slice R.A2 k.ranks.length R.c2) := r0.cell (j := 1) (by simp)
  have lW := r0.lt
  obtain ⟨i0, hi, hz0, hz1, hz2⟩ := info_parts Try.info_pairI
  unfold bookV ruV at *
  clear bW r0 r1 hk hB
  go_enter Try.func70, Try.ntmps70
  go_upto_region 1 with fail
  rw [← hW, ← hzq, ← hzb]
  clear hW hzb hzq
  go_upto_region 3 with fail
  clear q1 lW
  go_loopw [5, 11] (fun v q wr => ∃ n : Nat, n ≤ k.ranks.length ∧ q = .int .i64 (n : Int) ∧ Hid (SgIn W wr k u v (n * (k.ranks.length + 1)))) (fun _ q _ => k.ranks.length - (intOf q).toNat)
  case atStart => exact ⟨0, Nat.zero_le _, rfl, ⟨by rw [Nat.zero_mul]; exact owns_nil _ _ _ _, Below.refl _ _⟩⟩
  case round =>
    obtain ⟨n, hn, rfl, hsg⟩ := hrel
    by_cases hlt : n < k.ranks.length
    · have n1 : (n : Int) < (k.ranks.length : Int) := by omega
      have en : IntKind.i64.wrap ((n : Int) + 1) = (n : Int) + 1 := IntWalk.i64_in _ (by omega)
      go_upto_region 6 with fail
      go_loopw [5, 7] (fun v q wz => ∃ (c : Nat) (s : Int), c ≤ k.ranks.length + 1 ∧ q = .int .i64 s ∧ Hid (s = (c : Int) - 1) ∧ -1 ≤ s ∧ s ≤ (k.ranks.length : Int) ∧ Hid (SgIn W wz k u v (n * (k.ranks.length + 1) + c))) (fun _ q _ => ((k.ranks.length : Int) - intOf q).toNat)
      case atStart => exact ⟨0, -1, Nat.zero_le _, rfl, rfl, by omega, by omega, by rw [Nat.add_zero]; exact hsg.out⟩
      case round =>
        clear hsg
        obtain ⟨c, s, hc, rfl, hs, hs1, hs2, hsg⟩ := hrel
        have HBr := Lib.hid (HBW.out.trans (hsg.out.bel.mono HBW.out.size))
        have s0 := HR0.out.below hsg.out.bel HR0.out.lt
        have s1 := HR1.out.below hsg.out.bel HR1.out.lt
        have g0 : wr.cell? ⟨zb, 0, none⟩ = some (.slice R.A1 k.rules.length R.c1) := s0.cell (j := 0) (by simp)
        have g1 : wr.cell? ⟨zb, 1, none⟩ = some (.slice R.A2 k.ranks.length R.c2) := s0.cell (j := 1) (by simp)
        have g2 : wr.cell? ⟨zb, 2, none⟩ = some (.slice R.A3 k.insured.length R.c3) := s0.cell (j := 2) (by simp)
        have p0 : wr.cell? ⟨zq, 0, none⟩ = some (.int .i64 u.ride) := s1.cell (j := 0) (by simp)
        have p1 : wr.cell? ⟨zq, 1, none⟩ = some (.int .i64 u.every) := s1.cell (j := 1) (by simp)
        have p2 : wr.cell? ⟨zq, 2, none⟩ = some (.int .i64 u.rank) := s1.cell (j := 2) (by simp)
        have p3 : wr.cell? ⟨zq, 3, none⟩ = some (.bool u.two) := s1.cell (j := 3) (by simp)
        have lG := s0.lt
        have lP := s1.lt
        clear s0 s1
        by_cases hcl : s < (k.ranks.length : Int)
        · have es : IntKind.i64.wrap (s + 1) = s + 1 := IntWalk.i64_in _ (by omega)
          have hcM : c < k.ranks.length + 1 := by have := hs.out; omega
          have HCM := Lib.hid hcM
          have HA := Lib.hid (HM.out (n : Int) s wr HBr.out)
          obtain ⟨sv, hsv⟩ : ∃ v, v = signB k u (n : Int) s := ⟨_, rfl⟩
          rw [← hsv] at HA
          have HSV : Hid (signB k u (n : Int) ((c : Int) - 1) = sv) := by show _ = _; rw [← hs.out, hsv]
          clear hsv hcM
          go_upto_if 25 with (go_at_call 85; refine HA.out.mono ?_; rintro e X ⟨rfl, hX⟩)
          have HSX := Lib.hid (hsg.out.below hX)
          clear hX HA hsg g0 g1 g2 p0 p1 p2 p3 lG lP
          cases sv with
          | false =>
            go_wp2_with fail
            go_roundw
            case rel => exact ⟨c + 1, s + 1, HCM.out, rfl, (show s + 1 = ((c + 1 : Nat) : Int) - 1 by have := hs.out; omega), by omega, by omega, HSX.out.no HCM.out HSV.out⟩
            case measure => simp [intOf]; omega
          | true =>
            have hL : (sgN k u (n * (k.ranks.length + 1) + c)).length ≤ n * (k.ranks.length + 1) + c := sg_len _ _ _
            have hmul : n * (k.ranks.length + 1) ≤ 72 := Nat.mul_le_mul (show n ≤ 8 by omega) (show k.ranks.length + 1 ≤ 9 by omega)
            have hL2 : (sgN k u (n * (k.ranks.length + 1) + c)).length ≤ 100 := by have := HCM.out; omega
            clear hL hmul
            have hsy : sgN k u (n * (k.ranks.length + 1) + (c + 1)) = sgN k u (n * (k.ranks.length + 1) + c) ++ [n * (k.ranks.length + 1) + c] := by
              rw [← Nat.add_assoc]
              exact sg_yes (by rw [okT_at HCM.out]; exact HSV.out)
            have hpc : prCells (k.ranks.length + 1) (sgN k u (n * (k.ranks.length + 1) + (c + 1))) = prCells (k.ranks.length + 1) (sgN k u (n * (k.ranks.length + 1) + c)) ++ [.int .i64 (n : Int), .int .i64 s] := by
              rw [hsy, prCells_snoc, prC_at HCM.out, hs.out]
            have HPc := Lib.hid hpc
            have HPl : Hid ((sgN k u (n * (k.ranks.length + 1) + (c + 1))).length = (sgN k u (n * (k.ranks.length + 1) + c)).length + 1) := by show _ = _; rw [hsy]; simp
            clear hsy hpc
            have hown := HSX.out.own
            generalize hLn : (sgN k u (n * (k.ranks.length + 1) + c)).length = Ln at hown hL2 HPl
            generalize prCells (k.ranks.length + 1) (sgN k u (n * (k.ranks.length + 1) + c)) = Lc at hown HPc
            clear hLn
            have m3 : Ln + 1 ≤ maxLen := by unfold maxLen; omega
            have m4 : (Ln + 1) * 16 ≤ 140737488355328 := by omega
            obtain ⟨Y, hY⟩ : ∃ Y, Y = X.alloc (.cells #[.int .i64 (n : Int), .int .i64 s] 52) := ⟨_, rfl⟩
            have hownY : Y.ownsRow W.heap.size 52 2 u5 Ln Lc := by rw [hY]; exact owns_alloc hown _
            have rowY : Row Y X.heap.size 52 [.int .i64 (n : Int), .int .i64 s] := by rw [hY]; exact Row.new X _ _
            have bY : Below W.heap.size W Y := by rw [hY]; exact HSX.out.bel.alloc HSX.out.bel.size _
            have hrx := rowY.reads (B := Y.heap.size) (size := 2) (n := 1) rfl rowY.lt
            have szY : W.heap.size ≤ Y.heap.size := bY.size
            have HBY := Lib.hid bY
            clear hown bY HSX
            go_wp2_with (at_builtin; rw [← hY]; refine wpList_app _ rfl _ _ 49 rfl W.heap.size 52 i0 (.agg #[.int .i64 0, .int .i64 0]) 2 16 Try.underlying49 hi hz0 hz1 hz2 rfl (by decide) u5 Ln Lc rfl hownY Y.heap.size (some ⟨X.heap.size, 0, none⟩) 1 1 [.int .i64 (n : Int), .int .i64 s] rfl hrx ?q1 m3 m4 szY ?_; (case q1 => intro u hu; simp at hu; rcases hu with rfl | rfl <;> rfl); intro v' V hown' hbel')
            clear hY
            rw [← HPl.out, ← HPc.out] at hown'
            have HOw := Lib.hid hown'
            have HBV := Lib.hid (HBY.out.trans hbel')
            clear hown' hownY rowY hrx hbel' szY m3 m4
            go_wp2_with fail
            go_roundw
            case rel => exact ⟨c + 1, s + 1, HCM.out, rfl, (show s + 1 = ((c + 1 : Nat) : Int) - 1 by have := hs.out; omega), by omega, by omega, ⟨HOw.out, HBV.out⟩⟩
            case measure => simp [intOf]; omega
        · have hcl2 : ¬ s < (k.ranks.length : Int) := hcl
          have hcM : c = k.ranks.length + 1 := by have := hs.out; omega
          have HSn : Hid (SgIn W wr k u u5 ((n + 1) * (k.ranks.length + 1))) := by have h := hsg.out; rw [hcM] at h; exact h.row
          clear hcM
          go_wp2_with fail
          go_roundw
          case rel => exact ⟨n + 1, by omega, by go_num, HSn.out⟩
          case measure => simp [intOf]; omega
    · have n1 : ¬ (n : Int) < (k.ranks.length : Int) := by omega
      have en : n = k.ranks.length := by omega
      rw [en] at hsg
      obtain ⟨A2, c2, hv, hr2⟩ := own_readsI hsg.out.own
      subst hv
      have HR2 := Lib.hid hr2
      have HBr := Lib.hid (HBW.out.trans (hsg.out.bel.mono HBW.out.size))
      clear en hr2 hlt
      go_wp2_with fail
      go_ret
      exact ⟨HBr.out, A2, c2, rfl, HR2.out⟩
end Go.Proofs.Ytaocgkmobfocjaa
