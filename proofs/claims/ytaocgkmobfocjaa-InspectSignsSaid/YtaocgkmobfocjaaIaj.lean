/- The statement's covers, and that Visits are the fewest days that cover. Conditions: a book and days that read as data; days in range. -/
import Derived.Test.YtaocgkmobfocjaaIce
namespace Go.Proofs.Ytaocgkmobfocjaa
open Go.RowKit

def covI (f d ev z : Int) : Bool := decide (f ≤ z) && (decide (z ≤ d) && decide (d - z < ev))
theorem covI_iff {f d ev z : Int} : covI f d ev z = true ↔ f ≤ z ∧ z ≤ d ∧ d - z < ev := by simp [covI]
def covD (f ev : Int) (zs : List Int) (d : Int) : Bool := zs.any (covI f d ev)
/-- On all days the checks of the first rules are in force. -/
def covN (k : BookZ) (ride f t : Int) (zs : List Int) (n : Nat) : Prop := ∀ i, i < n → (k.rules.getD i default).ride = ride → ∀ d, f ≤ d → d ≤ t → covD f (k.rules.getD i default).every zs d = true
def covTo (f ride ev : Int) (u : RuZ) (zs : List Int) (d : Int) : Prop := u.ride = ride → ∀ x, f ≤ x → x < d → covD f ev zs x = true
def CovIs (k : BookZ) (ride f t : Int) (zs : List Int) (e : Ending) : Prop := ∃ b, e = .returned (.bool b) ∧ (b = true ↔ covN k ride f t zs k.rules.length)
theorem evN_le {k : BookZ} (h : bookB k = true) (ride : Int) : ∀ n, n ≤ k.rules.length → ∀ i, i < n → (k.rules.getD i default).ride = ride → 0 < evN k ride n ∧ evN k ride n ≤ (k.rules.getD i default).every := by
  intro n
  induction n with
  | zero => intro _ i hi; omega
  | succ n ih =>
    intro hn i hi hr
    have hb := (evN_bd h ride n (by omega)).1
    have hp := (book_rule h (show n < k.rules.length by omega)).2.1
    simp only [evN]
    rcases Nat.lt_or_ge i n with q | q
    · have h1 := ih (by omega) i q hr
      split
      · next h2 => rcases h2.2 with h3 | h3 <;> omega
      · exact h1
    · obtain rfl : i = n := by omega
      split
      · omega
      · next h2 =>
        have h3 : ¬ evN k ride i = 0 := fun h3 => h2 ⟨hr, .inl h3⟩
        have h4 : ¬ (k.rules.getD i default).every < evN k ride i := fun h4 => h2 ⟨hr, .inr h4⟩
        omega
theorem evN_ex {k : BookZ} {ride : Int} : ∀ n, evN k ride n ≠ 0 → ∃ i, i < n ∧ (k.rules.getD i default).ride = ride ∧ (k.rules.getD i default).every = evN k ride n := by
  intro n
  induction n with
  | zero => intro h; exact absurd rfl h
  | succ n ih =>
    intro h
    simp only [evN] at h ⊢
    split
    · next h2 => exact ⟨n, by omega, h2.1, rfl⟩
    · next h2 =>
      rw [if_neg h2] at h
      obtain ⟨i, h3, h4, h5⟩ := ih h
      exact ⟨i, by omega, h4, h5⟩
theorem count_more {p q : Int → Bool} (h : ∀ z, p z = true → q z = true) {z : Int} (h1 : p z = false) (h2 : q z = true) : ∀ {zs : List Int}, z ∈ zs → zs.countP p + 1 ≤ zs.countP q := by
  intro zs
  induction zs with
  | nil => intro hz; cases hz
  | cons a l ih =>
    intro hz
    have hm : l.countP p ≤ l.countP q := List.countP_mono_left fun x _ hx => h x hx
    rw [List.countP_cons, List.countP_cons]
    rcases List.mem_cons.1 hz with rfl | hz
    · rw [h1, h2]; simp; omega
    · have h3 := ih hz
      cases hp : p a with
      | false => simp; split <;> omega
      | true => rw [h a hp]; simp; omega
theorem argV_in {k : BookZ} {ride f t : Int} (h : vE k ride f t = 0) : bookB k = true ∧ 0 ≤ f ∧ f ≤ t ∧ t ≤ 10000 := by
  unfold vE at h
  by_cases hb : bookB k = true
  · rw [if_pos hb] at h
    by_cases ha : argV k ride f t = true
    · unfold argV at ha
      simp only [Bool.and_eq_true, inBI] at ha
      exact ⟨hb, ha.2.2.1, ha.2.2.2, ha.2.1.2⟩
    · rw [if_neg ha] at h; omega
  · rw [if_neg hb] at h; omega
theorem cov_vis {k : BookZ} {ride f t : Int} (hb : bookB k = true) (hft : f ≤ t) : covN k ride f t (vL k ride f t) k.rules.length := by
  intro i hi hr d h1 h2
  have hev := evN_le hb ride _ (Nat.le_refl _) i hi hr
  unfold covD vL
  generalize evN k ride k.rules.length = ev at hev
  rw [List.any_eq_true]
  have hq : 0 ≤ (d - f) / ev := Int.ediv_nonneg (by omega) (by omega)
  have hj : (((d - f) / ev).toNat : Int) = (d - f) / ev := Int.toNat_of_nonneg hq
  have e1 : dyv f ev ((d - f) / ev).toNat ≤ d := by
    unfold dyv
    rw [hj]
    have := Int.ediv_mul_le (d - f) (show ev ≠ 0 by omega)
    omega
  have e2 : d < dyv f ev (((d - f) / ev).toNat + 1) := by
    unfold dyv
    rw [Int.natCast_add, hj]
    have := Int.lt_ediv_add_one_mul_self (d - f) (show 0 < ev by omega)
    simp only [Int.natCast_one]
    omega
  rw [dyv_succ] at e2
  have e3 : f ≤ dyv f ev ((d - f) / ev).toNat := by
    unfold dyv
    rw [hj]
    have := Int.mul_nonneg hq (show 0 ≤ ev by omega)
    omega
  have e4 := (dyv_le (f := f) (ev := ev) (t := t) (by omega) hft ((d - f) / ev).toNat).1 (by omega)
  refine ⟨dyv f ev ((d - f) / ev).toNat, ?_, covI_iff.2 ⟨e3, e1, by omega⟩⟩
  unfold visL
  exact List.mem_map.2 ⟨_, List.mem_range.2 e4, rfl⟩
theorem cov_few {k : BookZ} {ride f t : Int} {zs : List Int} (hb : bookB k = true) (hft : f ≤ t) (h : covN k ride f t zs k.rules.length) : (vL k ride f t).length ≤ zs.length := by
  unfold vL
  rw [visL_len]
  by_cases h0 : evN k ride k.rules.length = 0
  · unfold visN; rw [if_pos h0]; omega
  · obtain ⟨i, hi, hr, he⟩ := evN_ex _ h0
    have hpos := (evN_bd hb ride k.rules.length (Nat.le_refl _)).1
    have hc := h i hi hr
    rw [he] at hc
    generalize evN k ride k.rules.length = ev at h0 hpos hc
    have key : ∀ j, j ≤ visN ev f t → j ≤ zs.countP (fun z => decide (z ≤ dyv f ev j - ev)) := by
      intro j
      induction j with
      | zero => intro _; omega
      | succ j ih =>
        intro hj
        have h1 := ih (by omega)
        have h2 := (dyv_le (f := f) (t := t) (show 0 < ev by omega) hft j).2 (by omega)
        have h3 : f ≤ dyv f ev j := by
          unfold dyv
          have := Int.mul_nonneg (show 0 ≤ (j : Int) by omega) (show 0 ≤ ev by omega)
          omega
        have h4 := hc _ h3 h2
        unfold covD at h4
        rw [List.any_eq_true] at h4
        obtain ⟨z, hz, hz2⟩ := h4
        rw [covI_iff] at hz2
        rw [dyv_succ]
        have h5 := count_more (p := fun z => decide (z ≤ dyv f ev j - ev)) (q := fun z => decide (z ≤ dyv f ev j + ev - ev)) (fun z hz => by simp at hz ⊢; omega) (z := z) (by simp; omega) (by simp; omega) hz
        omega
    exact Nat.le_trans (key _ (Nat.le_refl _)) List.countP_le_length
set_option maxRecDepth 100000 in
set_option maxHeartbeats 4000000 in
theorem covers_any (k : BookZ) (R : BkR) (ride f t : Int) (zs : List Int) (A : Option Addr) (c B : Nat) (w : World) (hB : B ≤ w.heap.size) (hk : BkIn w B k R) (hz : zs.length ≤ maxLen) (hr : Reads w B 1 A zs.length (zs.map (Value.int .i64))) (hf : 0 ≤ f) (hft : f ≤ t) (ht : t ≤ 10000) :
    Calls Try.prog 42 #[bookV k R, .agg #[.int .i64 ride, .int .i64 f, .int .i64 t], .slice A zs.length c] w fun e w' => CovIs k ride f t zs e ∧ Below w.heap.size w w' := by
  obtain ⟨W0, hW0⟩ : ∃ W, W = w.alloc (.cells #[.slice R.A1 k.rules.length R.c1, .slice R.A2 k.ranks.length R.c2, .slice R.A3 k.insured.length R.c3] 25) := ⟨_, rfl⟩
  have b0 : Below w.heap.size w W0 := by subst hW0; exact (Below.refl _ _).alloc (Nat.le_refl _) _
  have r0 : Row W0 w.heap.size 25 [.slice R.A1 k.rules.length R.c1, .slice R.A2 k.ranks.length R.c2, .slice R.A3 k.insured.length R.c3] := by subst hW0; exact Row.new w _ _
  obtain ⟨W, hW⟩ : ∃ W, W = W0.alloc (.cells #[.int .i64 ride, .int .i64 f, .int .i64 t] 43) := ⟨_, rfl⟩
  have bW : Below w.heap.size w W := by subst hW; exact b0.alloc b0.size _
  have q0 : Row W0 w.heap.size 25 [.slice R.A1 k.rules.length R.c1, .slice R.A2 k.ranks.length R.c2, .slice R.A3 k.insured.length R.c3] := r0
  have r0 : Row W w.heap.size 25 [.slice R.A1 k.rules.length R.c1, .slice R.A2 k.ranks.length R.c2, .slice R.A3 k.insured.length R.c3] := by subst hW; exact q0.alloc _
  clear q0
  have t0 : Row W W0.heap.size 43 [.int .i64 ride, .int .i64 f, .int .i64 t] := by subst hW; exact Row.new W0 _ _
  obtain ⟨zb, hzb⟩ : ∃ z, z = w.heap.size := ⟨_, rfl⟩
  rw [← hzb] at r0
  have e0 : W0.heap.size = w.heap.size + 1 := by rw [hW0]; simp
  rw [e0] at t0
  obtain ⟨zq, hzq⟩ : ∃ z, z = w.heap.size + 1 := ⟨_, rfl⟩
  rw [← hzq] at t0
  clear e0
  have HBW := Lib.hid bW
  have HGW := Lib.hid r0
  have HFW := Lib.hid t0
  have HRd : Hid (∀ (i : Nat) (hi : i < k.rules.length) (X : World), Below w.heap.size w X → ∃ b o, R.A1 = some ⟨b, o, none⟩ ∧ b < X.heap.size ∧ X.cell? ⟨b, o + i * 4, none⟩ = some (.int .i64 k.rules[i].ride) ∧ X.cell? ⟨b, o + i * 4 + 1, none⟩ = some (.int .i64 k.rules[i].every)) := fun i hi X hX => by
    obtain ⟨b, o, h1, h2, h3, h4, -, -⟩ := ru_at (hk.rules.below (hX.mono hB)) hi
    exact ⟨b, o, h1, by have := hX.size; omega, h3, h4⟩
  have HZs : Hid (∀ (i : Nat) (hi : i < zs.length) (X : World), Below w.heap.size w X → ∃ b o, A = some ⟨b, o, none⟩ ∧ b < X.heap.size ∧ X.cell? ⟨b, o + i, none⟩ = some (.int .i64 zs[i])) := fun i hi X hX => by
    obtain ⟨b, o, h1, h2, h3⟩ := (hr.below (hX.mono hB)).2 (by omega)
    exact ⟨b, o, h1, by have := hX.size; omega, h3 i _ (by simp [hi])⟩
  have hl1 := hk.l1
  unfold maxLen at hl1 hz
  unfold bookV at *
  clear b0 bW r0 t0 hk hr hB
  go_enter Try.func42, Try.ntmps42
  go_upto_region 1 with fail
  rw [← hW0, ← hW, ← hzq, ← hzb]
  clear hW hW0 hzb hzq
  go_wp2_with fail
  go_loopw [7] (fun q wr => ∃ n : Nat, n ≤ k.rules.length ∧ q = .int .i64 n ∧ Hid (covN k ride f t zs n) ∧ Below W.heap.size W wr) (fun q _ => k.rules.length - (intOf q).toNat)
  case atStart => exact ⟨0, Nat.zero_le _, rfl, fun i hi => by omega, Below.refl _ _⟩
  case round =>
    obtain ⟨n, hn, rfl, hcov, hbel⟩ := hrel
    have HBr := Lib.hid (HBW.out.trans (hbel.mono HBW.out.size))
    have HBL := Lib.hid hbel
    have sG := HGW.out.below hbel HGW.out.lt
    have vG := HFW.out.below hbel HFW.out.lt
    have g0 : wr.cell? ⟨zb, 0, none⟩ = some (.slice R.A1 k.rules.length R.c1) := sG.cell (j := 0) (by simp)
    have g1 : wr.cell? ⟨zb, 1, none⟩ = some (.slice R.A2 k.ranks.length R.c2) := sG.cell (j := 1) (by simp)
    have g2 : wr.cell? ⟨zb, 2, none⟩ = some (.slice R.A3 k.insured.length R.c3) := sG.cell (j := 2) (by simp)
    have f0 : wr.cell? ⟨zq, 0, none⟩ = some (.int .i64 ride) := vG.cell (j := 0) (by simp)
    have f1 : wr.cell? ⟨zq, 1, none⟩ = some (.int .i64 f) := vG.cell (j := 1) (by simp)
    have f2 : wr.cell? ⟨zq, 2, none⟩ = some (.int .i64 t) := vG.cell (j := 2) (by simp)
    have lG := sG.lt
    have mG := vG.lt
    clear sG vG hbel
    by_cases hlt : n < k.rules.length
    · have n1 : (n : Int) < (k.rules.length : Int) := by omega
      have n0 : ¬ (n : Int) < 0 := by omega
      have en : IntKind.i64.wrap ((n : Int) + 1) = (n : Int) + 1 := IntWalk.i64_in _ (by omega)
      have HRn := Lib.hid (HRd.out n hlt)
      have HAt := Lib.hid (rules_at hlt)
      generalize k.rules[n] = u at HRn HAt
      go_upto_region 5 with fail
      clear g0 g1 g2 f0 f1 f2 lG mG
      go_loopw [8] (fun q wz => ∃ d : Int, q = .int .i64 d ∧ f ≤ d ∧ d ≤ t + 1 ∧ Hid (covTo f ride u.every u zs d) ∧ Below W.heap.size W wz) (fun q _ => (t + 1 - intOf q).toNat)
      case atStart => exact ⟨f, rfl, by omega, by omega, fun _ x h1 h2 => by omega, HBL.out⟩
      case round =>
        clear HBr HBL
        obtain ⟨d, rfl, hd1, hd2, hto, hbel⟩ := hrel
        have HBr := Lib.hid (HBW.out.trans (hbel.mono HBW.out.size))
        have HBL := Lib.hid hbel
        have sG := HGW.out.below hbel HGW.out.lt
        have vG := HFW.out.below hbel HFW.out.lt
        have g0 : wr.cell? ⟨zb, 0, none⟩ = some (.slice R.A1 k.rules.length R.c1) := sG.cell (j := 0) (by simp)
        have g1 : wr.cell? ⟨zb, 1, none⟩ = some (.slice R.A2 k.ranks.length R.c2) := sG.cell (j := 1) (by simp)
        have g2 : wr.cell? ⟨zb, 2, none⟩ = some (.slice R.A3 k.insured.length R.c3) := sG.cell (j := 2) (by simp)
        have f0 : wr.cell? ⟨zq, 0, none⟩ = some (.int .i64 ride) := vG.cell (j := 0) (by simp)
        have f1 : wr.cell? ⟨zq, 1, none⟩ = some (.int .i64 f) := vG.cell (j := 1) (by simp)
        have f2 : wr.cell? ⟨zq, 2, none⟩ = some (.int .i64 t) := vG.cell (j := 2) (by simp)
        have lG := sG.lt
        have mG := vG.lt
        obtain ⟨br, or, hR, lr, y0, y1⟩ := HRn.out wr HBr.out
        clear sG vG hbel
        rw [hR] at g0
        clear hR
        by_cases hd : d ≤ t
        · have c1 : decide (d ≤ t) = true := decide_eq_true hd
          by_cases hu : u.ride = ride
          · have c2 : decide (u.ride = ride) = true := decide_eq_true hu
            have c3 : (u.ride == ride) = true := by simpa using hu
            have HU := Lib.hid hu
            clear hu
            go_upto_region 5 with fail
            go_quiet (fail)
            go_wp2_with fail
            clear g0 g1 g2 f0 f1 f2 lG mG y0 y1 lr
            go_loopw [9, 10] (fun v q wz => ∃ m : Nat, m ≤ zs.length ∧ q = .int .i64 m ∧ v = .bool ((zs.take m).any (covI f d u.every)) ∧ Below W.heap.size W wz) (fun _ q _ => zs.length - (intOf q).toNat)
            case atStart => exact ⟨0, Nat.zero_le _, rfl, rfl, below_drewN HBL.out _⟩
            case round =>
              clear HBr HBL
              obtain ⟨m, hm, rfl, rfl, hbel⟩ := hrel
              have HBr := Lib.hid (HBW.out.trans (hbel.mono HBW.out.size))
              have HBL := Lib.hid hbel
              have sG := HGW.out.below hbel HGW.out.lt
              have vG := HFW.out.below hbel HFW.out.lt
              have g0 : wr.cell? ⟨zb, 0, none⟩ = some (.slice R.A1 k.rules.length R.c1) := sG.cell (j := 0) (by simp)
              have g1 : wr.cell? ⟨zb, 1, none⟩ = some (.slice R.A2 k.ranks.length R.c2) := sG.cell (j := 1) (by simp)
              have g2 : wr.cell? ⟨zb, 2, none⟩ = some (.slice R.A3 k.insured.length R.c3) := sG.cell (j := 2) (by simp)
              have f0 : wr.cell? ⟨zq, 0, none⟩ = some (.int .i64 ride) := vG.cell (j := 0) (by simp)
              have f1 : wr.cell? ⟨zq, 1, none⟩ = some (.int .i64 f) := vG.cell (j := 1) (by simp)
              have f2 : wr.cell? ⟨zq, 2, none⟩ = some (.int .i64 t) := vG.cell (j := 2) (by simp)
              have lG := sG.lt
              have mG := vG.lt
              obtain ⟨br, or, hR, lr, y0, y1⟩ := HRn.out wr HBr.out
              clear sG vG hbel
              rw [hR] at g0
              clear hR
              by_cases hml : m < zs.length
              · have p1 : (m : Int) < (zs.length : Int) := by omega
                have p0 : ¬ (m : Int) < 0 := by omega
                have em : IntKind.i64.wrap ((m : Int) + 1) = (m : Int) + 1 := IntWalk.i64_in _ (by omega)
                obtain ⟨bz, oz, hA, lz, z0⟩ := HZs.out m hml wr HBr.out
                have HS : Hid ((zs.take (m + 1)).any (covI f d u.every) = ((zs.take m).any (covI f d u.every) || covI f d u.every zs[m])) := by show _ = _; rw [List.take_succ_eq_append_getElem hml, List.any_append]; simp
                generalize zs[m] = z at z0 HS
                subst hA
                generalize (zs.take m).any (covI f d u.every) = acc at HS ⊢
                cases acc with
                | true =>
                  have HV : Hid ((zs.take (m + 1)).any (covI f d u.every) = true) := HS.out
                  clear HS
                  go_upto_region 11 with fail
                  go_quiet (fail)
                  go_wp2_with fail
                  go_roundw
                  case rel => exact ⟨m + 1, by omega, by go_num, by rw [HV.out], below_drewN HBL.out _⟩
                  case measure => simp [intOf]; omega
                | false =>
                  by_cases h1 : f ≤ z
                  · have d1 : decide (f ≤ z) = true := decide_eq_true h1
                    by_cases h2 : z ≤ d
                    · have d2 : decide (z ≤ d) = true := decide_eq_true h2
                      have ew : IntKind.i64.wrap (d - z) = d - z := IntWalk.i64_in _ (by omega)
                      have HV : Hid ((zs.take (m + 1)).any (covI f d u.every) = decide (d - z < u.every)) := by show _ = _; rw [HS.out]; unfold covI; rw [d1, d2]; simp
                      clear HS
                      go_upto_region 11 with fail
                      go_quiet (fail)
                      go_wp2_with fail
                      go_roundw
                      case rel => exact ⟨m + 1, by omega, by go_num, by rw [HV.out], below_drewN HBL.out _⟩
                      case measure => simp [intOf]; omega
                    · have d2 : decide (z ≤ d) = false := decide_eq_false h2
                      have HV : Hid ((zs.take (m + 1)).any (covI f d u.every) = false) := by show _ = _; rw [HS.out]; unfold covI; rw [d1, d2]; rfl
                      clear HS
                      go_upto_region 11 with fail
                      go_quiet (fail)
                      go_wp2_with fail
                      go_roundw
                      case rel => exact ⟨m + 1, by omega, by go_num, by rw [HV.out], below_drewN HBL.out _⟩
                      case measure => simp [intOf]; omega
                  · have d1 : decide (f ≤ z) = false := decide_eq_false h1
                    have HV : Hid ((zs.take (m + 1)).any (covI f d u.every) = false) := by show _ = _; rw [HS.out]; unfold covI; rw [d1]; rfl
                    clear HS
                    go_upto_region 11 with fail
                    go_quiet (fail)
                    go_wp2_with fail
                    go_roundw
                    case rel => exact ⟨m + 1, by omega, by go_num, by rw [HV.out], below_drewN HBL.out _⟩
                    case measure => simp [intOf]; omega
              · have p1 : ¬ (m : Int) < (zs.length : Int) := by omega
                have em : m = zs.length := by omega
                have HS : Hid ((zs.take m).any (covI f d u.every) = covD f u.every zs d) := by show _ = _; rw [em, List.take_length]; rfl
                have ed : IntKind.i64.wrap (d + 1) = d + 1 := IntWalk.i64_in _ (by omega)
                clear em
                generalize (zs.take m).any (covI f d u.every) = acc at HS ⊢
                cases acc with
                | false =>
                  have HN : Hid (¬ covN k ride f t zs k.rules.length) := fun h => by
                    have := h n hlt (by rw [HAt.out]; exact HU.out) d hd1 hd
                    rw [HAt.out, ← HS.out] at this
                    cases this
                  clear HS
                  go_wp2_with fail
                  go_ret
                  exact ⟨⟨false, rfl, ⟨fun h => (by cases h), fun h => absurd h HN.out⟩⟩, HBr.out⟩
                | true =>
                  have HT : Hid (covTo f ride u.every u zs (d + 1)) := fun hr x h1 h2 => by
                    by_cases hx : x = d
                    · rw [hx]; exact HS.out.symm
                    · exact hto.out hr x h1 (by omega)
                  clear HS
                  go_wp2_with fail
                  go_roundw
                  case rel => exact ⟨d + 1, by go_num, by omega, by omega, HT, HBL.out⟩
                  case measure => simp [intOf]; omega
          · have c2 : decide (u.ride = ride) = false := decide_eq_false hu
            have c3 : (u.ride == ride) = false := by simpa using hu
            have HC : Hid (covN k ride f t zs (n + 1)) := fun i hi hr => by
              by_cases hx : i = n
              · rw [hx, HAt.out] at hr; exact absurd hr hu
              · exact hcov.out i (by omega) hr
            clear hu
            go_upto_region 5 with fail
            go_quiet (fail)
            go_wp2_with fail
            go_roundw
            case rel => exact ⟨n + 1, by omega, by go_num, HC, below_drewN HBL.out _⟩
            case measure => simp [intOf]; omega
        · have c1 : decide (d ≤ t) = false := decide_eq_false hd
          have HC : Hid (covN k ride f t zs (n + 1)) := fun i hi hr x h1 h2 => by
            by_cases hx : i = n
            · rw [hx, HAt.out] at hr ⊢; exact hto.out hr x h1 (by omega)
            · exact hcov.out i (by omega) hr x h1 h2
          go_upto_region 5 with fail
          go_quiet (fail)
          go_wp2_with fail
          go_roundw
          case rel => exact ⟨n + 1, by omega, by go_num, HC, below_drewN HBL.out _⟩
          case measure => simp [intOf]; omega
    · have en : n = k.rules.length := by omega
      have n1 : ¬ (n : Int) < (k.rules.length : Int) := by omega
      have HC : Hid (covN k ride f t zs k.rules.length) := by have := hcov.out; rw [en] at this; exact this
      clear en hlt hcov
      go_wp2_with fail
      go_ret
      exact ⟨⟨true, rfl, ⟨fun _ => HC.out, fun _ => rfl⟩⟩, HBr.out⟩
end Go.Proofs.Ytaocgkmobfocjaa
