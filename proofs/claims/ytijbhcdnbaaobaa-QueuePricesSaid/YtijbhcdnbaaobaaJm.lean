/- Contract of queue's fill. Conditions: a valid evening that lies in memory, in a moment of it. -/
import Derived.Test.YtijbhcdnbaaobaaJk
import Derived.Lib.SliceRun
/- Filling a ride, plainly, one group after the other; and slices.Clone of a queue. -/
namespace Go.Proofs.Ytijbhcdnbaaobaa
open Go.RowKit

def FillOk (a s : EvS) (r : Nat) (l : List Nat) : Prop := BothS a s ∧ l.Nodup ∧ ∀ j ∈ l, j < s.groups.length ∧ (s.grp j).place = 2 ∧ (s.grp j).goal = r
theorem fok_rest {a s t : EvS} {r i : Nat} {l : List Nat} (h : FillOk a s r (i :: l)) (ht : BothS a t) (ho : ∀ j, j ≠ i → t.grp j = s.grp j) : FillOk a t r l := by
  obtain ⟨h1, h2, h3⟩ := h
  rw [List.nodup_cons] at h2
  refine ⟨ht, h2.2, fun j hj => ?_⟩
  have hji : j ≠ i := fun e => h2.1 (e ▸ hj)
  have := h3 j (List.mem_cons_of_mem _ hj)
  rw [ho j hji, (fix_len ht.1.fix).1, ← (fix_len h1.1.fix).1]
  exact this
theorem fok_give {a s : EvS} {r i : Nat} {l : List Nat} (hv : ValS a) (h : FillOk a s r (i :: l)) : FillOk a (giveUpS s i) r l := by
  obtain ⟨hi, hp, _⟩ := h.2.2 i List.mem_cons_self
  exact fok_rest h (both_gu hv h.1 hi hp) fun j hj => giveUp_other s hi hj
theorem fok_get {a s : EvS} {r i : Nat} {l : List Nat} (hv : ValS a) (h : FillOk a s r (i :: l)) (hc : costS s i r ≤ (s.grp i).tok) : FillOk a (getOnS s i) r l := by
  obtain ⟨hi, hp, hg⟩ := h.2.2 i List.mem_cons_self
  exact fok_rest h ⟨wf_getOn h.1.1 hv hi hp (by rw [hg]; exact hc), all_getOn h.1.1 h.1.2 hi hp⟩ fun j hj => getOn_other s hi hj
theorem fok_skip {a s : EvS} {r i : Nat} {l : List Nat} (h : FillOk a s r (i :: l)) : FillOk a s r l := fok_rest h h.1 fun _ _ => rfl
/-- What holds of a filling when the first k of the line have been looked at. -/
structure FillP (a s : EvS) (r : Nat) (l : List Nat) (left : Int) (k : Nat) (lk : Int) (sk : EvS) : Prop where
  res : fillS r (l.drop k) lk sk = fillS r l left s
  ok : FillOk a sk r (l.drop k)
  lo : 0 ≤ lk
  hi : lk ≤ 40
  now : sk.now = s.now
section
variable {a s sk : EvS} {r k : Nat} {l : List Nat} {left lk : Int}
theorem FillP.here (h : FillP a s r l left k lk sk) (hk : k < l.length) : l[k] < sk.groups.length ∧ (sk.grp l[k]).place = 2 ∧ (sk.grp l[k]).goal = r := by
  have := h.ok.2.2 l[k] (by rw [List.drop_eq_getElem_cons hk]; exact List.mem_cons_self)
  exact this
theorem FillP.next (h : FillP a s r l left k lk sk) (hk : k < l.length) : fillS r (l[k] :: l.drop (k + 1)) lk sk = fillS r l left s ∧ FillOk a sk r (l[k] :: l.drop (k + 1)) := by
  have h1 := h.res
  have h2 := h.ok
  rw [List.drop_eq_getElem_cons hk] at h1 h2
  exact ⟨h1, h2⟩
theorem FillP.give (h : FillP a s r l left k lk sk) (hk : k < l.length) (hv : ValS a) (hc : (sk.rd r).b.seats < (sk.grp l[k]).g.size ∨ (sk.grp l[k]).tok < costS sk l[k] r) : FillP a s r l left (k + 1) lk (giveUpS sk l[k]) := by
  obtain ⟨h1, h2⟩ := h.next hk
  refine ⟨?_, fok_give hv h2, h.lo, h.hi, ?_⟩
  · rw [← h1]; simp only [fillS]; rw [if_pos hc]
  · exact (goOn_same _ _).2.trans h.now
theorem FillP.get (h : FillP a s r l left k lk sk) (hk : k < l.length) (hv : ValS a) (hc : ¬ ((sk.rd r).b.seats < (sk.grp l[k]).g.size ∨ (sk.grp l[k]).tok < costS sk l[k] r)) (hl : (sk.grp l[k]).g.size ≤ lk) (h1z : 1 ≤ (sk.grp l[k]).g.size) : FillP a s r l left (k + 1) (lk - (sk.grp l[k]).g.size) (getOnS sk l[k]) := by
  obtain ⟨h1, h2⟩ := h.next hk
  have := h.hi
  refine ⟨?_, fok_get hv h2 (by omega), by omega, by omega, ?_⟩
  · rw [← h1]; simp only [fillS]; rw [if_neg hc, if_pos hl]
  · exact h.now
theorem FillP.skip (h : FillP a s r l left k lk sk) (hk : k < l.length) (hc : ¬ ((sk.rd r).b.seats < (sk.grp l[k]).g.size ∨ (sk.grp l[k]).tok < costS sk l[k] r)) (hl : ¬ (sk.grp l[k]).g.size ≤ lk) (hf : (sk.rd r).b.fill = true) : FillP a s r l left (k + 1) lk sk := by
  obtain ⟨h1, h2⟩ := h.next hk
  refine ⟨?_, fok_skip h2, h.lo, h.hi, h.now⟩
  rw [← h1]; simp only [fillS]; rw [if_neg hc, if_neg hl, if_neg (by rw [hf]; decide)]
theorem FillP.stop (h : FillP a s r l left k lk sk) (hk : k < l.length) (hc : ¬ ((sk.rd r).b.seats < (sk.grp l[k]).g.size ∨ (sk.grp l[k]).tok < costS sk l[k] r)) (hl : ¬ (sk.grp l[k]).g.size ≤ lk) (hf : (sk.rd r).b.fill = false) : fillS r l left s = (sk, lk) := by
  obtain ⟨h1, h2⟩ := h.next hk
  rw [← h1]; simp only [fillS]; rw [if_neg hc, if_neg hl, if_pos hf]
theorem FillP.done (h : FillP a s r l left k lk sk) (hk : k = l.length) : fillS r l left s = (sk, lk) := by
  rw [← h.res, List.drop_eq_nil_of_le (by omega)]
  rfl
/-- The group that is looked at stands where it should, and may be moved. -/
theorem FillP.stands (h : FillP a s r l left k lk sk) (hb : BigS a) (hk : k < l.length) : FitS sk ∧ sk.visits.length ≤ 900 ∧ l[k] < sk.groups.length ∧ 0 ≤ (sk.grp l[k]).want ∧ (sk.grp l[k]).want < ((sk.grp l[k]).g.wants.length : Int) ∧ l[k] ∈ (sk.rd (sk.grp l[k]).goal).q ∧ (sk.grp l[k]).goal = r := by
  obtain ⟨hi, hp, hg⟩ := h.here hk
  have hw := h.ok.1
  have h1 := hw.1.at_ l[k] hi (by simp) (.inr (.inl hp))
  have h2 := vis_600 hb hw
  exact ⟨fit_of hb hw, by omega, hi, h1.1, h1.2, hw.1.std l[k] hi (by simp) hp, hg⟩
end
set_option maxHeartbeats 1000000 in
theorem clone_q {w : World} {base : Nat} {u : Value} {l : List Nat} (ho : w.ownsRow base 3 1 u l.length (qL l)) (hl : l.length ≤ 1000) :
    Calls Try.prog 128 #[u] w fun e w' => ∃ A c, e = .returned (.slice A l.length c) ∧ w'.ownsRow w.heap.size 3 1 (.slice A l.length c) l.length (qL l) ∧ Below w.heap.size w w' := by
  obtain ⟨i0, hi, hz0, hz1, hz2⟩ := info_parts Try.info_int
  have q22 : ∀ (w : World) (a : Option Addr) (n c n' c' : Nat), (binOp .eql 37 (.slice a n c) (.slice none n' c')).run Try.prog w = .ok (.bool a.isNone) w := fun w a n c n' c' => Lib.run_eql_slice_nil w _ _ a n c n' c' Try.underlying37
  rcases ho.2 with ⟨rfl, h0⟩ | ⟨g, cap, cur, rfl, hb, hg, hnc, hcm, hcs, htk⟩
  · have hl0 : l = [] := List.eq_nil_of_length_eq_zero h0
    subst hl0
    clear ho
    go_enter Try.func128, Try.ntmps128
    go_wp2_with fail
    go_ret
    exact ⟨none, 0, rfl, World.ownsRow_nil w _ _ _, Below.refl _ _⟩
  · have hc : ∀ j u, (qL l)[j]? = some u → w.cell? ⟨g, 0 + j, none⟩ = some u := fun j u hu => by
      have := ho.cellAt j (by have := (List.getElem?_eq_some_iff.1 hu).1; simpa [qL] using this)
      rw [Nat.zero_add, this, hu]
    have Hc := Lib.hid hc
    have Hll : Hid ((qL l).length = l.length * 1) := by show _ = _; simp [qL]
    clear hc ho htk hcs hg hcm
    have hl2 := hl
    generalize l.length = n at *
    go_enter Try.func128, Try.ntmps128
    go_wp2_with (at_builtin; refine wpList_append_own _ rfl _ _ 37 rfl w.heap.size 3 i0 (.int .i64 0) 1 8 Try.underlying37 hi hz0 hz1 hz2 rfl (by decide) _ _ _ rfl (World.ownsRow_made w #[] 0 (Nat.le_refl _) (Nat.zero_le _) rfl) ⟨g, 0, none⟩ n cap (qL l) rfl Hll.out ?qc2 ?qc3 ?qc4 ?qc5 ?qc6 ?_)
    case qc2 =>
      intro j u hj
      rw [Addr.add_lit]
      exact Lib.cell?_alloc_some _ (Hc.out j u hj)
    case qc3 => intro u hu; obtain ⟨x, _, rfl⟩ := List.mem_map.1 hu; rfl
    case qc4 => unfold maxLen; omega
    case qc5 => omega
    case qc6 => simp
    intro v' w1 hown hgrow hnil
    have hown' : w1.ownsRow w.heap.size 3 1 v' n (qL l) := by simpa using hown
    obtain ⟨A, c, rfl⟩ := own_slice hown'
    clear hown
    have Ho := Lib.hid hown'
    clear hown'
    go_wp2
    go_ret
    exact ⟨A, c, rfl, Ho.out, ((Below.refl _ w).alloc (Nat.le_refl _) _).grown hgrow (by simp) (by intro k hk; simp [Value.ownBlock] at hk; omega)⟩
end Go.Proofs.Ytijbhcdnbaaobaa
namespace Go.Proofs.Ytijbhcdnbaaobaa
open Go.RowKit

theorem fill_start {a s : EvS} (hb : BothS a s) (r : Nat) (h1 : 1 ≤ (s.rd r).b.seats ∧ (s.rd r).b.seats ≤ 40) : FillP a s r (s.rd r).q (s.rd r).b.seats 0 (s.rd r).b.seats s :=
  ⟨rfl, ⟨hb, hb.1.nod r, fun j hj => (by obtain ⟨h1, _, h3, h4⟩ := hb.1.que r j hj; exact ⟨h1, h3, h4⟩)⟩, by omega, by omega, rfl⟩
def FillTo (E : EvE) (w : World) (t : EvS × Int) (e : Ending) (w' : World) : Prop := e = .returned (.int .i64 t.2) ∧ Below E.base w w' ∧ EvAt E w' t.1
set_option maxRecDepth 100000 in
set_option maxHeartbeats 4000000 in
theorem fill_any {a : EvS} (hB : BigS a) {E : EvE} {w : World} {s : EvS} (h : EvAt E w s) (hb : BothS a s) (hn : 0 ≤ s.now ∧ s.now ≤ 4000) {r : Nat} (hr : r < s.rides.length) :
    Calls Try.prog 111 #[.pointer (some ⟨E.v, 0, none⟩), .pointer (some ⟨E.R, r * 9, none⟩)] w (FillTo E w (fillS r (s.rd r).q (s.rd r).b.seats s)) := by
  obtain ⟨qs, uv, h⟩ := h
  have hF := fit_of hB hb
  have hst := (hF.rd r hr).1
  have hP0 := Lib.hid (fill_start hb r hst)
  have hq60 := (hF.que r).1
  have hbas := h.bas
  obtain ⟨c0, _, _, _, _, c5, _, _, _, lR⟩ := h.rc hr
  have Hcl := Lib.hid (clone_q (h.q r hr) (by omega))
  have HE := Lib.hid h
  obtain ⟨l, hl⟩ : ∃ l, l = (s.rd r).q := ⟨_, rfl⟩
  obtain ⟨L0, hL0⟩ : ∃ x, x = (s.rd r).b.seats := ⟨_, rfl⟩
  rw [← hl] at Hcl hP0 hq60 ⊢
  rw [← hL0] at hP0 hst c0 ⊢
  clear h hF hl hL0 hb
  go_enter Try.func111, Try.ntmps111
  go_upto_region 3 with (go_at_call 128; refine Hcl.out.mono ?_; rintro e w1 ⟨A, c, rfl, ho1, hb1⟩; have HO := Lib.hid ho1; have HB1 := Lib.hid hb1; clear ho1 hb1)
  have hBE : Hid (Below E.base w w1) := HB1.out.mono hbas.2.2.2
  by_cases hl0 : l.length = 0
  · have hl1 : l = [] := List.eq_nil_of_length_eq_zero hl0
    subst hl1
    clear hl0 Hcl
    go_loop [5, 20] (fun lf ix => lf = .int .i64 L0 ∧ ix = .int .i64 0) (fun _ _ => 0)
    case atStart => exact ⟨rfl, rfl⟩
    case round =>
      obtain ⟨rfl, rfl⟩ := hrel
      go_wp2_with fail
      go_ret
      have hd := hP0.out.done rfl
      exact ⟨by rw [hd]; rfl, hBE.out, by rw [hd]; exact (HE.out.grow HB1.out).at_⟩
  · have hlp : 0 < l.length := by omega
    clear hl0
    rcases HO.out.2 with ⟨h1, h2⟩ | ⟨gc, cap, cur, h1, hgb, hgc, hnc, hcm, hcs, htk⟩
    · exact absurd h2 (by omega)
    injection h1 with h1 h2 h3
    subst h1 h3
    clear h2
    have hE1 : EvIn { E with pr := (gc, cur) :: E.pr } w1 s qs uv := (HE.out.grow HB1.out).more hgc (fun k hk e => by
      have := ((HE.out.q k hk).lt gc e).2
      omega)
    have HE1 := Lib.hid hE1.at_
    have Hcur : Hid (∀ (X : World) (k : Nat) (hk : k < l.length), X.heap[gc]? = some (.cells cur 3 (0, 0)) → X.cell? ⟨gc, k, none⟩ = some (.int .i64 ((l[k] : Nat) : Int))) := fun X k hk hX => by
      rw [cell_of_row X gc k cur 3 (0, 0) hX, ← Array.getElem?_toList]
      have h4 : (cur.toList.take (l.length * 1))[k]? = (qL l)[k]? := by rw [htk]
      rw [List.getElem?_take, if_pos (by omega)] at h4
      rw [h4]
      unfold qL
      rw [List.getElem?_map, List.getElem?_eq_getElem hk]
      rfl
    clear hE1 htk hcs hcm hgc HO c0 c5 hnc hgb
    go_loopw [5, 20] (fun lf ix wr => ∃ (k : Nat) (lk : Int) (sk : EvS), k ≤ l.length ∧ ix = .int .i64 k ∧ lf = .int .i64 lk ∧ Hid (FillP a s r l L0 k lk sk) ∧ Hid (Below E.base w wr) ∧ Hid (EvAt { E with pr := (gc, cur) :: E.pr } wr sk)) (fun _ ix _ => l.length - (intOf ix).toNat)
    case atStart => exact ⟨0, L0, s, Nat.zero_le _, rfl, rfl, hP0, hBE, HE1⟩
    case round =>
      clear HE1 hBE
      obtain ⟨k, lk, sk, hk, rfl, rfl, HP, HBk, HEk⟩ := hrel
      by_cases hlt : k < l.length
      · obtain ⟨hf, hv9, hi, hw0, hw1, hmq, hgo⟩ := HP.out.stands hB hlt
        have hEk := HEk.out
        have kc := Hcur.out wr k hlt hEk.have_
        have lgc : gc < wr.heap.size := (Array.getElem?_eq_some_iff.1 hEk.have_).1
        obtain ⟨qk, uk, hin⟩ := hEk
        have hrk : r < sk.rides.length := by rw [← hgo]; exact (hin.wish hi hf.wish hw0 hw1).choose_spec.choose_spec.choose_spec.2.2.2.2.2
        have hnk : 0 ≤ sk.now ∧ sk.now ≤ 4000 := by rw [HP.out.now]; exact hn
        have hz := (hf.gp _ hi).2.1
        have hlk0 := HP.out.lo
        have hlk1 := HP.out.hi
        have HQ1 := Lib.hid (fun hc => HP.out.give hlt hB.wish hc)
        have HQ2 := Lib.hid (fun hc hl => HP.out.get hlt hB.wish hc hl hz.1)
        have HQ3 := Lib.hid (fun hc hl hf => HP.out.skip hlt hc hl hf)
        have HQ4 := Lib.hid (fun hc hl hf => HP.out.stop hlt hc hl hf)
        have HG1 : Hid (∀ n, Calls Try.prog 93 #[.pointer (some ⟨E.v, 0, none⟩), .int .i64 (l[k] : Nat)] (wr.drewN n) (StepTo { E with pr := (gc, cur) :: E.pr } (wr.drewN n) (giveUpS sk l[k]))) := fun n => giveUp_any (E := { E with pr := (gc, cur) :: E.pr }) (hin.grow (below_drewN (Below.refl _ _) n)).at_ hi hf hv9 hnk hw0 hw1 hmq
        have HG2 : Hid (∀ n, costS sk l[k] r ≤ (sk.grp l[k]).tok → Calls Try.prog 130 #[.pointer (some ⟨E.v, 0, none⟩), .int .i64 (l[k] : Nat)] (wr.drewN n) (StepTo { E with pr := (gc, cur) :: E.pr } (wr.drewN n) (getOnS sk l[k]))) := fun n hc => getOn_any (E := { E with pr := (gc, cur) :: E.pr }) (hin.grow (below_drewN (Below.refl _ _) n)).at_ hi hf hv9 hnk hw0 hw1 hmq (by rw [hgo]; exact hc)
        have HPr : Hid (∀ n, Calls Try.prog 129 #[.pointer (some ⟨E.R, r * 9, none⟩), .pointer (some ⟨E.G, l[k] * 10, none⟩)] (wr.drewN n) fun e w'' => e = .returned (.int .i64 (costS sk l[k] r)) ∧ ∃ m, w'' = wr.drewN m) := fun n =>
          (price_any (E := { E with pr := (gc, cur) :: E.pr }) (hin.grow (below_drewN (Below.refl _ _) n)) hi hrk (cost_bd hf hi hrk)).mono fun _ _ ⟨he, m, hm⟩ => ⟨he, n + m, by rw [hm, World.drewN_drewN]⟩
        have v3 := hin.vG hi
        have l1 := hin.vc.2.2.2
        obtain ⟨c1, c2, _, _, _, _, _, _, _, lG⟩ := hin.gc hi
        obtain ⟨k0, _, _, _, k4, _, _, _, _, lR'⟩ := hin.rc hrk
        dsimp only at v3 l1 c1 c2 lG k0 k4 lR'
        have HEn : Hid (∀ n, EvAt { E with pr := (gc, cur) :: E.pr } (wr.drewN n) sk) := fun n => (hin.grow (below_drewN (Below.refl _ _) n)).at_
        have hng := hf.ng
        clear hin HP HEk hf hw0 hw1 hmq hgo hv9
        obtain ⟨i, hii⟩ : ∃ i, i = l[k] := ⟨_, rfl⟩
        rw [← hii] at kc hi hz c1 c2 HQ1 HQ2 HQ3 HQ4 HG1 HG2 HPr
        clear hii
        have hi' : (i : Int) < (sk.groups.length : Int) := by omega
        have hi0 : (0 : Int) ≤ (i : Int) := by omega
        have hkn : (k : Int) < (l.length : Int) := by omega
        have hk0 : (0 : Int) ≤ (k : Int) := by omega
        have e1 : IntKind.i64.wrap ((k : Int) + 1) = (k : Int) + 1 := IntWalk.i64_in _ (by omega)
        have e2 : IntKind.i64.wrap (lk - (sk.grp i).g.size) = lk - (sk.grp i).g.size := IntWalk.i64_in _ (by omega)
        by_cases hc1 : (sk.rd r).b.seats < (sk.grp i).g.size
        · have d1 : decide ((sk.rd r).b.seats < (sk.grp i).g.size) = true := by simpa using hc1
          have HC := Lib.hid (HQ1.out (.inl hc1))
          clear hc1 HQ1 HQ2 HQ3 HQ4
          go_wp2_with fail
          go_quiet (fail)
          go_wp2_with (go_at_call 93; refine (HG1.out _).mono ?_; rintro e w2 ⟨rfl, hb2, he2⟩)
          go_roundw
          case rel => exact ⟨k + 1, lk, _, by omega, by go_num, rfl, HC.out, (below_drewN HBk.out _).trans hb2, he2⟩
          case measure => simp [intOf]; omega
        · have d1 : decide ((sk.rd r).b.seats < (sk.grp i).g.size) = false := by simpa using hc1
          have HC1 := Lib.hid hc1
          clear hc1
          by_cases hc2 : (sk.grp i).tok < costS sk i r
          · have d2 : decide ((sk.grp i).tok < costS sk i r) = true := by simpa using hc2
            have HC := Lib.hid (HQ1.out (.inr hc2))
            clear hc2 HQ1 HQ2 HQ3 HQ4
            go_wp2_with fail
            go_quiet ((go_at_call 129; exact HPr.out _))
            go_wp2_with (go_at_call 93; refine (HG1.out _).mono ?_; rintro e w2 ⟨rfl, hb2, he2⟩)
            go_roundw
            case rel => exact ⟨k + 1, lk, _, by omega, by go_num, rfl, HC.out, (below_drewN HBk.out _).trans hb2, he2⟩
            case measure => simp [intOf]; omega
          · have d2 : decide ((sk.grp i).tok < costS sk i r) = false := by simpa using hc2
            have HC2 : Hid (¬ ((sk.rd r).b.seats < (sk.grp i).g.size ∨ (sk.grp i).tok < costS sk i r)) := fun h => h.elim HC1.out hc2
            have Hle : Hid (costS sk i r ≤ (sk.grp i).tok) := Int.not_lt.1 hc2
            clear hc2 HC1 HQ1
            by_cases hc3 : (sk.grp i).g.size ≤ lk
            · have d3 : decide ((sk.grp i).g.size ≤ lk) = true := by simpa using hc3
              have HC := Lib.hid (HQ2.out HC2.out hc3)
              clear hc3 HQ2 HQ3 HQ4
              go_wp2_with fail
              go_quiet ((go_at_call 129; exact HPr.out _))
              go_wp2_with (go_at_call 130; refine (HG2.out _ Hle.out).mono ?_; rintro e w2 ⟨rfl, hb2, he2⟩)
              go_roundw
              case rel => exact ⟨k + 1, _, _, by omega, by go_num, rfl, HC.out, (below_drewN HBk.out _).trans hb2, he2⟩
              case measure => simp [intOf]; omega
            · have d3 : decide ((sk.grp i).g.size ≤ lk) = false := by simpa using hc3
              have HC3 := Lib.hid hc3
              clear hc3 HQ2
              cases hfl : (sk.rd r).b.fill with
              | true =>
                rw [hfl] at k4
                have HC := Lib.hid (HQ3.out HC2.out HC3.out hfl)
                clear HQ3 HQ4 hfl
                go_wp2_with fail
                go_quiet ((go_at_call 129; exact HPr.out _))
                go_wp2_with fail
                go_roundw
                case rel => exact ⟨k + 1, lk, _, by omega, by go_num, rfl, HC.out, below_drewN HBk.out _, HEn.out _⟩
                case measure => simp [intOf]; omega
              | false =>
                rw [hfl] at k4
                have HC := Lib.hid (HQ4.out HC2.out HC3.out hfl)
                clear HQ3 HQ4 hfl
                go_wp2_with fail
                go_quiet ((go_at_call 129; exact HPr.out _))
                go_wp2_with fail
                go_ret
                exact ⟨by rw [HC.out]; rfl, below_drewN HBk.out _, by rw [HC.out]; exact (HEn.out _).less⟩
      · have hkl : k = l.length := by omega
        have HD := Lib.hid (HP.out.done hkl)
        have hnlt : ¬ (k : Int) < (l.length : Int) := by omega
        clear hkl
        go_wp2_with fail
        go_ret
        exact ⟨by rw [HD.out]; rfl, HBk.out, by rw [HD.out]; exact HEk.out.less⟩
end Go.Proofs.Ytijbhcdnbaaobaa
