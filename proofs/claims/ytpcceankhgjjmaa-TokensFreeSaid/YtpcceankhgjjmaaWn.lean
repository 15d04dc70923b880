/- Contracts of the functions that follow tells: unseen and Account's own. Conditions: the arguments read as data. -/
import Derived.Test.YtpcceankhgjjmaaWm
namespace Go.Proofs.Ytpcceankhgjjmaa
open Go.RowKit

theorem fid_ok46 : ∀ a w, Sem.run Try.prog (callFunc 46 a) w = Result.ok (Next.enter 46 a) w := fun a w => by kernel_rfl
theorem fid_ok50 : ∀ a w, Sem.run Try.prog (callFunc 50 a) w = Result.ok (Next.enter 50 a) w := fun a w => by kernel_rfl

set_option maxHeartbeats 400000 in
theorem unseen_ok (B N : Nat) (F : Fair) (R : Refs) (l : List Deal) : SeeOk 46 #[] B N F R l [] (fun _ _ => True) := by
  intro k C C' t x L _ _ _ _ _ _ _ _
  simp only [Array.append_empty]
  go_enter Try.func46, Try.ntmps46
  go_wp2
  go_end0
  exact ⟨rfl, ((KeptBut.refl _ _).alloc _).alloc _, trivial⟩

/-- What the account counts of one deal. -/
def tallyS (F : Fair) (C' : Count) (d : Deal) (a : Int × Int × Int) : Int × Int × Int :=
  if d.kind = 1 then (wrap64 (a.1 + (getb F.bundles d.n).tokens), a.2.1, a.2.2) else if d.kind = 2 then (a.1, wrap64 (a.2.1 + fareS C' d), a.2.2)
  else if d.kind = 4 then (a.1, a.2.1, wrap64 (a.2.2 + d.n)) else a
def nightR (F : Fair) : List Deal → Count → Int × Int × Int → Int × Int × Int
  | [], _, a => a
  | d :: l, C, a => match stepS F C d with | none => a | some C' => nightR F l C' (tallyS F C' d a)
def nightK (F : Fair) (l : List Deal) (k : Nat) : Int × Int × Int := nightR F (l.take k) (beginS F) (0, 0, 0)
theorem nightR_append (F : Fair) (l m : List Deal) : ∀ C t C' t' a, runS F l C t = some (C', t') → nightR F (l ++ m) C a = nightR F m C' (nightR F l C a) := by
  induction l with
  | nil => intro C t C' t' a h; simp [runS] at h; obtain ⟨rfl, rfl⟩ := h; rfl
  | cons d l ih =>
    intro C t C' t' a h
    simp only [runS] at h
    by_cases h1 : inB d.at_ t 1440 = true
    · rw [if_pos h1] at h
      cases h2 : stepS F C d with
      | none => rw [h2] at h; cases h
      | some C1 => rw [h2] at h; simp only [List.cons_append, nightR, h2]; exact ih _ _ _ _ _ h
    · rw [if_neg h1] at h; cases h
theorem nightK_succ (F : Fair) (l : List Deal) (k : Nat) (hk : k < l.length) (C C' : Count) (t : Int) (h : goS F l k = some (C, t)) (hs : stepS F C (getd l k) = some C') : nightK F l (k + 1) = tallyS F C' (getd l k) (nightK F l k) := by
  unfold nightK
  rw [List.take_succ_eq_append_getElem hk, nightR_append F _ _ _ _ _ _ _ h]
  have e : l[k] = getd l k := by simp [getd, List.getElem?_eq_getElem hk]
  simp only [nightR, e, hs]

theorem sold_ok {F : Fair} {C C' : Count} {d : Deal} (h : stepS F C d = some C') (hk : d.kind = 1) : inB d.n 0 ((F.bundles.length : Int) - 1) = true := by
  simp only [stepS, hk, if_true, sellS] at h
  cases hn : inB d.n 0 ((F.bundles.length : Int) - 1) with
  | true => rfl
  | false => simp [hn] at h
theorem rode_ok {F : Fair} {C C' : Count} {d : Deal} (h : stepS F C d = some C') (hk : d.kind = 2) : isPurse F d.a = true := by
  simp [stepS, hk, rideS] at h
  cases hn : isPurse F d.a with
  | true => rfl
  | false => simp [hn] at h

theorem Std.copy {w : World} {B : Nat} {F : Fair} {R : Refs} {L : Locs} {C : Count} (h : Std w B F R L C) : Std (w.alloc (.cells (standCells F R L C).toArray 80)) B F R { L with bs := w.heap.size } C := by
  have h' := StandIn.alloc h (.cells (standCells F R L C).toArray 80)
  obtain ⟨y0, y1, y2, y3, y4⟩ := Std.sizes h
  refine ⟨by have := Row.new w 80 (standCells F R L C).toArray; simpa [standCells] using this, h'.r1, h'.r2, h'.r3, h'.r4, h'.n1, h'.n2, h'.n3, h'.n4, ?_, ?_, h'.fair, h'.val⟩
  · have hn := h.ne
    simp only [Locs.all, List.nodup_cons, List.mem_cons, List.not_mem_nil, or_false, not_or] at hn ⊢
    exact ⟨⟨by omega, by omega, by omega, by omega⟩, hn.2⟩
  · have hl := h.lo
    have := StandIn.size h
    simp [Locs.all] at hl ⊢
    omega

theorem wrap_eq (n : Int) : IntKind.i64.wrap n = wrap64 n := by rw [IntKind.wrap_i64]; unfold wrap64; rfl
/-- The account's own block behind the first k deals. -/
def NightP (gn : Nat) (F : Fair) (l : List Deal) (k : Nat) (x : World) : Prop :=
  Row x gn 42 [.int .i64 (nightK F l k).1, .int .i64 (nightK F l k).2.1, .int .i64 (nightK F l k).2.2, .int .i64 0, .int .i64 0, .int .i64 0]

set_option maxHeartbeats 1000000 in
set_option maxRecDepth 100000 in
theorem tally_ok (B N gn : Nat) (F : Fair) (R : Refs) (l : List Deal) (_hgn : gn < N) (hB : B ≤ gn) :
    SeeOk 50 #[.pointer (some ⟨gn, 0, none⟩)] B N F R l [gn] (NightP gn F l) := by
  intro k C C' t x L hk hgo hst hgo' hS hL hN hp
  have hsucc := nightK_succ F l k hk C C' t hgo hst
  unfold NightP at hp ⊢
  rw [hsucc]
  have hS1 := StandIn.alloc hS (.cells #[.int .i64 (getd l k).at_, .int .i64 (getd l k).kind, .int .i64 (getd l k).a, .int .i64 (getd l k).b, .int .i64 (getd l k).n] 65)
  have hS2 := Std.copy hS1
  have hpf := hp.frozen
  have c0 := hp.cell (j := 0) (by simp)
  have c1 := hp.cell (j := 1) (by simp)
  have c2 := hp.cell (j := 2) (by simp)
  simp only [List.getElem?_cons_zero, List.getElem?_cons_succ] at c0 c1 c2
  have hgl := hp.lt
  generalize nightK F l k = a at *
  generalize hd : getd l k = d at *
  clear hgo hgo' hsucc hd hk
  obtain ⟨at_, kind, da, db, dn⟩ := d
  dsimp only at *
  simp only [List.push_toArray, Array.append_singleton, List.cons_append, List.nil_append]
  by_cases h1 : kind = 1
  · subst h1
    have hn := sold_ok hst rfl
    have hbd := (bounds_of hS.val).b
    have hn' := inB_iff.1 hn
    obtain ⟨dn, rfl⟩ := Int.eq_ofNat_of_zero_le hn'.1
    dsimp only at *
    have hn1 : dn < F.bundles.length := by omega
    have hn2 : (dn : Int) < (F.bundles.length : Int) := by omega
    obtain ⟨A1, c1', A2, c2', A3, c3⟩ := R
    have h3 := (StandIn.fair hS).s3
    dsimp only at h3
    obtain ⟨bb, bo, rfl, hbb, hbt, hbp⟩ := h3.at2 hn1
    clear h3
    have hbw := StandIn.size hS
    have hbb' : bb < x.heap.size := by omega
    have Hst := Lib.hid hst
    clear hst
    go_enter Try.func50, Try.ntmps50
    go_wp2_with fail
    refine wp_tail 12 (by kernel_rfl) (by kernel_rfl) ?_
    simp only [List.take_succ_cons, List.take_zero, List.drop_succ_cons, List.drop_zero]
    repeat still_step
    refine wpStill_nil ?_
    go_wp2
    go_end0
    refine ⟨rfl, ((((KeptBut.refl _ _).alloc _).alloc _).drewN _).set (by simp) _, ?_⟩
    exact ((((hp.alloc _).alloc _).drewN _).set 0 _)
  by_cases h2 : kind = 2
  · subst h2
    have hpu := rode_ok hst rfl
    dsimp only at hpu
    have Hst := Lib.hid hst
    clear hst
    have hgx : gn < x.heap.size + 1 := by omega
    have hS3 : Std ((x.alloc (.cells #[.int .i64 at_, .int .i64 2, .int .i64 da, .int .i64 db, .int .i64 dn] 65)).alloc (.cells (standCells F R L C').toArray 80)) B F R { L with bs := x.heap.size + 1 } C' := by simpa using hS2
    clear hS2 hS1
    go_enter Try.func50, Try.ntmps50
    go_wp2_with fail
    go_region_with
      (first | (go_at_call 51; go_must (refine (fare_any (L := { L with bs := x.heap.size + 1 }) ⟨at_, 2, da, db, dn⟩ hpu (by first | exact hS3 | exact StandIn.drew hS3 | exact StandIn.drewN hS3 _)).mono ?_; rintro e y ⟨rfl, hy⟩; obtain ⟨hyc, hyf⟩ := bcell hy; have k1 := hyc gn 1 (by first | (simp; done) | (simp; omega)); have k2 := fun o => hyc x.heap.size o (by first | (simp; done) | (simp; omega)); have k3 := hyf gn 1 (by first | (simp; done) | (simp; omega)); have hky : KeptBut [gn] x y := KeptBut.below (by repeat (first | (with_reducible exact KeptBut.refl _ _) | (with_reducible refine KeptBut.alloc ?_ _) | (with_reducible refine KeptBut.drew ?_) | (with_reducible refine KeptBut.drewN ?_ _))) hy; have hry := (fun (h : Row _ gn 42 [.int .i64 a.1, .int .i64 a.2.1, .int .i64 a.2.2, .int .i64 0, .int .i64 0, .int .i64 0]) => h.below hy h.lt) (by repeat (first | (with_reducible exact hp) | (with_reducible refine Row.alloc ?_ _) | (with_reducible refine Row.drew ?_) | (with_reducible refine Row.drewN ?_ _))); clear hyc hyf)))
    all_goals (go_wp2_with fail; go_end0)
    all_goals
      refine ⟨rfl, hky.set (by simp) _, ?_⟩
      have e : tallyS F C' ⟨at_, 2, da, db, dn⟩ a = (a.1, wrap64 (a.2.1 + fareS C' ⟨at_, 2, da, db, dn⟩), a.2.2) := by simp [tallyS]
      rw [e, ← wrap_eq]
      exact hry.set 1 _
  by_cases h4 : kind = 4
  · subst h4
    go_enter Try.func50, Try.ntmps50
    go_wp2_with fail
    go_end0
    refine ⟨rfl, (((KeptBut.refl _ _).set (by simp) _).alloc _).alloc _, ?_⟩
    exact (((hp.set 2 _).alloc _).alloc _)
  · have g1 : (kind == 1) = false := by simpa using h1
    have g2 : (kind == 2) = false := by simpa using h2
    have g4 : (kind == 4) = false := by simpa using h4
    have ht : tallyS F C' ⟨at_, kind, da, db, dn⟩ a = a := by simp [tallyS, h1, h2, h4]
    rw [ht]
    clear h1 h2 h4 ht
    go_enter Try.func50, Try.ntmps50
    go_wp2_with fail
    go_end0
    exact ⟨rfl, ((KeptBut.refl _ _).alloc _).alloc _, (hp.alloc _).alloc _⟩
end Go.Proofs.Ytpcceankhgjjmaa
