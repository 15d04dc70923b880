/- Contracts of queue's Waits and of the specification's Waits. Conditions: an evening and groups that read as data; a valid evening is played. -/
import Derived.Test.YtijbhcdnbaaobaaDj
import Derived.Test.YtijbhcdnbaaobaaDw
namespace Go.Proofs.Ytijbhcdnbaaobaa
open Go.RowKit

def szZ (l : List GrpZ) (i : Nat) : Int := (l.getD i default).size
set_option maxRecDepth 100000 in
set_option maxHeartbeats 2000000 in
theorem rwaits_any (f : EveZ) (l : List GrpZ) (A A2 : Option Addr) (c c2 B : Nat) (rs : List (Option Addr × Nat)) (w : World) (hB : B ≤ w.heap.size) (hr : Reads w B 5 A f.rides.length (bthCells f.rides)) (hl : GrpsIn w B A2 rs l) (hc : checkQ f l = 0) (x9 : RawR) (hp : PlayOk f l x9) (L : List VisZ) (hv : x9.vis = L) (hw : WtOk l.length (szZ l) L) :
    Calls Try.prog 56 #[eveV f A c, .slice A2 l.length c2] w fun e w' => e = .returned (.tuple #[.int .i64 (wS (szZ l) L), .int .i64 (wG (szZ l) L)]) ∧ Below w.heap.size w w' := by
  obtain ⟨W, hW⟩ : ∃ W, W = w.alloc (.cells #[.slice A f.rides.length c, .int .i64 f.walk] 24) := ⟨_, rfl⟩
  have bW : Below w.heap.size w W := by subst hW; exact (Below.refl _ _).alloc (Nat.le_refl _) _
  have r0 : Row W w.heap.size 24 [.slice A f.rides.length c, .int .i64 f.walk] := by subst hW; exact Row.new w _ _
  have q0 : W.cell? ⟨w.heap.size, 0, none⟩ = some (.slice A f.rides.length c) := r0.cell (j := 0) (by simp)
  have q1 : W.cell? ⟨w.heap.size, 1, none⟩ = some (.int .i64 f.walk) := r0.cell (j := 1) (by simp)
  have lW : w.heap.size < W.heap.size := r0.lt
  have HBW := Lib.hid bW
  have hBW := Nat.le_trans hB bW.size
  have HPL : Hid (Calls Try.prog 48 #[eveV f A c, .slice A2 l.length c2] W fun e w' => ∃ E : RfE, e = .returned (.pointer (some ⟨E.v, 0, none⟩)) ∧ E.base = W.heap.size ∧ E.f = f ∧ E.l = l ∧ Below W.heap.size W w' ∧ RfAt E w' x9) := by
    obtain ⟨N, hN, hgo⟩ := hp.go
    exact rplayed_any f l A A2 c c2 rs W (eve_lens8 hc).1 (eve_lens8 hc).2 ((hr.below (bW.mono hB)).more hBW) ((hl.below (bW.mono hB)).more hBW) hp.st x9 N hN hgo
  have HL : Hid (∀ X, Below w.heap.size w X → GrpsIn X B A2 rs l) := fun X hX => hl.below (hX.mono hB)
  have HBl : Hid (B ≤ w.heap.size) := hB
  have HW := Lib.hid hw
  unfold eveV at HPL ⊢
  clear hr hl r0 bW hp hc hw
  go_enter Try.func56, Try.ntmps56
  go_upto_region 1 with (fail)
  rw [← hW]
  clear hW
  go_wp2_with (go_at_call 48; refine HPL.out.mono ?_; rintro e w9 ⟨E, rfl, -, hEf, hEl, hb9, qs, uv, hin⟩; have hvis := hin.vis; rw [hv] at hvis; obtain ⟨uA, uc, hu⟩ := own_slice hvis; subst hu; have v9 : w9.cell? ⟨E.v, 8, none⟩ = some (.slice uA L.length uc) := hin.pl.cell (j := 8) (by simp [rfL]); have lv9 : E.v < w9.heap.size := hin.pl.lt; obtain ⟨A', c', hv', hrv⟩ := nown_reads hvis; injection hv' with hv1; rw [← hv1] at hrv; have HB9 := Lib.hid (HBW.out.trans (hb9.mono HBW.out.size)); have HV := Lib.hid hrv; clear hb9 hin hEf hEl hvis hrv hv1)
  go_loopw [6, 7, 9] (fun s g i wr => ∃ k : Nat, k ≤ L.length ∧ i = .int .i64 k ∧ s = .int .i64 (wS (szZ l) (L.take k)) ∧ g = .int .i64 (wG (szZ l) (L.take k)) ∧ Below w9.heap.size w9 wr) (fun _ _ i _ => L.length - (intOf i).toNat)
  case atStart => exact ⟨0, Nat.zero_le _, rfl, rfl, rfl, Below.refl _ _⟩
  case round =>
    obtain ⟨k, hk, rfl, rfl, rfl, hbel⟩ := hrel
    have HBw := Lib.hid hbel
    by_cases hlt : k < L.length
    · have hlt' : (k : Int) < (L.length : Int) := by omega
      obtain ⟨b3, o3, rfl, hb3, t0, t1, t2, t3, t4, t5⟩ := vis_at (HV.out.below hbel) hlt
      have hvm := List.getElem_mem hlt
      obtain ⟨⟨w1, w2⟩, w3, w4⟩ := w_one HW.out hvm
      obtain ⟨u1, u2, u3⟩ := HW.out.v _ hvm
      obtain ⟨⟨x1, x2⟩, x3, x4⟩ := w_bd HW.out k hk
      have hlen := HW.out.len
      have sn := wS_succ (sz := szZ l) hlt
      have gn := wG_succ (sz := szZ l) hlt
      generalize L[k] = v at t0 t1 t2 t3 t4 t5 w1 w2 w3 w4 u1 u2 u3 sn gn
      have HSN := Lib.hid sn
      have HGN := Lib.hid gn
      have lb3 : b3 < wr.heap.size := Nat.lt_of_lt_of_le hb3 hbel.size
      have e1 : IntKind.i64.wrap ((k : Int) + 1) = (k : Int) + 1 := IntWalk.i64_in _ (by omega)
      obtain ⟨b, o, rfl, hb, hcs⟩ := (HL.out wr (HB9.out.trans (hbel.mono HB9.out.size))).outer (by omega)
      obtain ⟨-, g1, -, -, -⟩ := hcs v.group u1
      replace g1 : wr.cell? ⟨b, o + v.group * 5 + 1, none⟩ = some (.int .i64 (szZ l v.group)) := g1
      have lb : b < wr.heap.size := Nat.lt_of_lt_of_le hb (Nat.le_trans HBl.out (Nat.le_trans HB9.out.size hbel.size))
      have hi0 : ¬ (v.group : Int) < 0 := by omega
      have hi1 : (v.group : Int) < (l.length : Int) := by omega
      generalize szZ l v.group = z at w1 w2 w3 w4 g1 HSN HGN
      generalize hS0 : wS (szZ l) (L.take k) = S0 at *
      generalize hG0 : wG (szZ l) (L.take k) = G0 at *
      have e3 : IntKind.i64.wrap (v.left - v.came) = v.left - v.came := IntWalk.i64_in _ (by omega)
      have e4 : IntKind.i64.wrap ((v.left - v.came) * z) = (v.left - v.came) * z := IntWalk.i64_in _ (by omega)
      have e5 : IntKind.i64.wrap (S0 + (v.left - v.came) * z) = S0 + (v.left - v.came) * z := IntWalk.i64_in _ (by omega)
      have e6 : IntKind.i64.wrap (G0 + z) = G0 + z := IntWalk.i64_in _ (by omega)
      clear sn gn hbel hvm hcs hb
      cases hon : v.on with
      | true =>
        rw [hon] at t3
        rw [hon, if_pos rfl] at HSN HGN
        go_upto_region 7 with fail
        go_quiet (fail)
        go_wp2_with fail
        go_roundw
        case rel => exact ⟨k + 1, by omega, by go_num, by rw [HSN.out], by rw [HGN.out], below_drewN HBw.out _⟩
        case measure => simp [intOf]; omega
      | false =>
        rw [hon] at t3
        rw [hon, if_neg (by simp)] at HSN HGN
        rw [Int.add_zero] at HSN HGN
        go_wp2_with fail
        go_roundw
        case rel => exact ⟨k + 1, by omega, by go_num, by rw [HSN.out], by rw [HGN.out], HBw.out⟩
        case measure => simp [intOf]; omega
    · have hge : ¬ (k : Int) < (L.length : Int) := by omega
      have ek : k = L.length := by omega
      have HK := Lib.hid ek
      clear ek hbel
      go_wp2_with fail
      go_ret2
      exact ⟨by rw [HK.out, List.take_length]; rfl, HB9.out.trans (HBw.out.mono HB9.out.size)⟩
/-- Two numbers and an error. -/
def TwoTo (w : World) (a b k : Int) (e : Ending) (w' : World) : Prop := e = .returned (.tuple #[.int .i64 a, .int .i64 b, .int .i64 k]) ∧ Below w.heap.size w w'
def waitsA (f : EveZ) (l : List GrpZ) : Int := if checkQ f l = 0 then wS (szZ l) (eveS f l).visits else 0
def waitsB (f : EveZ) (l : List GrpZ) : Int := if checkQ f l = 0 then wG (szZ l) (eveS f l).visits else 0
set_option maxRecDepth 100000 in
set_option maxHeartbeats 1000000 in
theorem rWaits_any (f : EveZ) (l : List GrpZ) (A A2 : Option Addr) (c c2 B : Nat) (rs : List (Option Addr × Nat)) (w : World) (hB : B ≤ w.heap.size) (hr : Reads w B 5 A f.rides.length (bthCells f.rides)) (hn : f.rides.length ≤ maxLen) (hl : GrpsIn w B A2 rs l) (x9 : RawR) (hp : checkQ f l = 0 → PlayOk f l x9) (hv : checkQ f l = 0 → x9.vis = (eveS f l).visits) :
    Calls Try.prog 33 #[eveV f A c, .slice A2 l.length c2] w (TwoTo w (waitsA f l) (waitsB f l) (checkQ f l)) := by
  obtain ⟨W, hW⟩ : ∃ W, W = w.alloc (.cells #[.slice A f.rides.length c, .int .i64 f.walk] 24) := ⟨_, rfl⟩
  have bW : Below w.heap.size w W := by subst hW; exact (Below.refl _ _).alloc (Nat.le_refl _) _
  have r0 : Row W w.heap.size 24 [.slice A f.rides.length c, .int .i64 f.walk] := by subst hW; exact Row.new w _ _
  have q0 : W.cell? ⟨w.heap.size, 0, none⟩ = some (.slice A f.rides.length c) := r0.cell (j := 0) (by simp)
  have q1 : W.cell? ⟨w.heap.size, 1, none⟩ = some (.int .i64 f.walk) := r0.cell (j := 1) (by simp)
  have lW : w.heap.size < W.heap.size := r0.lt
  have HBW := Lib.hid bW
  have HR0 := Lib.hid r0
  have hBW := Nat.le_trans hB bW.size
  have HC := Lib.hid (rCheck_any f l A A2 c c2 B rs W hBW (hr.below (bW.mono hB)) hn (hl.below (bW.mono hB)))
  by_cases hc : checkQ f l = 0
  · have HPL : Hid (∀ X, Below w.heap.size w X → Calls Try.prog 56 #[eveV f A c, .slice A2 l.length c2] X fun e w' => e = .returned (.tuple #[.int .i64 (waitsA f l), .int .i64 (waitsB f l)]) ∧ Below X.heap.size X w') := fun X hX => by
      have h1 : waitsA f l = wS (szZ l) (eveS f l).visits := if_pos hc
      have h2 : waitsB f l = wG (szZ l) (eveS f l).visits := if_pos hc
      rw [h1, h2]
      exact rwaits_any f l A A2 c c2 B rs X (Nat.le_trans hB hX.size) (hr.below (hX.mono hB)) (hl.below (hX.mono hB)) hc x9 (hp hc) _ (hv hc) (wt_ok hc)
    generalize waitsA f l = a at HPL ⊢
    generalize waitsB f l = b at HPL ⊢
    rw [hc] at HC ⊢
    unfold eveV at HC HPL ⊢
    clear hr hl hn r0 bW hp hv hc
    go_enter Try.func33, Try.ntmps33
    go_upto_region 1 with (fail)
    rw [← hW]
    clear hW
    go_upto_region 4 with (go_at_call 20; refine HC.out.mono ?_; rintro e w1 ⟨rfl, hb1⟩; have HB1 := Lib.hid hb1; clear hb1 HC)
    have r1 := HR0.out.below HB1.out HR0.out.lt
    have q0 : w1.cell? ⟨w.heap.size, 0, none⟩ = some (.slice A f.rides.length c) := r1.cell (j := 0) (by simp)
    have q1 : w1.cell? ⟨w.heap.size, 1, none⟩ = some (.int .i64 f.walk) := r1.cell (j := 1) (by simp)
    have lW : w.heap.size < w1.heap.size := r1.lt
    have hb1 := HBW.out.trans (HB1.out.mono HBW.out.size)
    have HB2 := Lib.hid hb1
    have HC2 := Lib.hid (HPL.out w1 hb1)
    clear r1 hb1 HPL HB1 HR0 HBW
    go_wp2_with (go_at_call 56; refine HC2.out.mono ?_; rintro e w9 ⟨rfl, hb9⟩; have HB9 := Lib.hid (HB2.out.trans (hb9.mono HB2.out.size)); clear hb9 HC2)
    go_ret3
    exact ⟨rfl, HB9.out⟩
  · have HZ : Hid (waitsA f l = 0) := if_neg hc
    have HY : Hid (waitsB f l = 0) := if_neg hc
    generalize checkQ f l = k at hc HC ⊢
    unfold eveV at HC ⊢
    clear hr hl hn r0 bW hp hv HR0
    go_enter Try.func33, Try.ntmps33
    go_upto_region 1 with (fail)
    rw [← hW]
    clear hW
    go_wp2_with (go_at_call 20; refine HC.out.mono ?_; rintro e w1 ⟨rfl, hb1⟩; have HB1 := Lib.hid (HBW.out.trans (hb1.mono HBW.out.size)); clear hb1)
    all_goals first | (go_ret3; rw [HZ.out, HY.out]; exact ⟨rfl, HB1.out⟩) | (exfalso; omega) | trace_state
set_option maxRecDepth 100000 in
set_option maxHeartbeats 1000000 in
theorem Waits_any (f : EveZ) (l : List GrpZ) (A A2 : Option Addr) (c c2 B : Nat) (rs : List (Option Addr × Nat)) (w : World) (hB : B ≤ w.heap.size) (hr : Reads w B 5 A f.rides.length (bthCells f.rides)) (hn : f.rides.length ≤ maxLen) (hl : GrpsIn w B A2 rs l) :
    Calls Try.prog 32 #[eveV f A c, .slice A2 l.length c2] w (TwoTo w (waitsA f l) (waitsB f l) (checkQ f l)) := by
  obtain ⟨W, hW⟩ : ∃ W, W = w.alloc (.cells #[.slice A f.rides.length c, .int .i64 f.walk] 24) := ⟨_, rfl⟩
  have bW : Below w.heap.size w W := by subst hW; exact (Below.refl _ _).alloc (Nat.le_refl _) _
  have r0 : Row W w.heap.size 24 [.slice A f.rides.length c, .int .i64 f.walk] := by subst hW; exact Row.new w _ _
  have q0 : W.cell? ⟨w.heap.size, 0, none⟩ = some (.slice A f.rides.length c) := r0.cell (j := 0) (by simp)
  have q1 : W.cell? ⟨w.heap.size, 1, none⟩ = some (.int .i64 f.walk) := r0.cell (j := 1) (by simp)
  have lW : w.heap.size < W.heap.size := r0.lt
  have HBW := Lib.hid bW
  have hrW := hr.below (bW.mono hB)
  have hlW := hl.below (bW.mono hB)
  have hBW := Nat.le_trans hB bW.size
  by_cases hc : checkQ f l = 0
  · have HC := Lib.hid (cap_ok f l A A2 c c2 B rs W hBW hrW hn hlW hc)
    have hw := wt_ok hc
    obtain ⟨n1, -, -, -⟩ := eve_lens hc
    have hgz : ∀ i, i < (eveS f l).groups.length → ((eveS f l).grp i).g.size = szZ l i := fun i hi => by
      obtain ⟨h1, h2⟩ := checkQ_ok.1 hc
      have g := grp_valid h2
      have hb := play_his f l (fun x hx => (g x hx).2.2.2.1.1) (fun x hx => (g x hx).2.2.2.2.2)
      rw [fix_grp hb.1.fix, start_grp f l (by omega)]
      rfl
    rw [← n1] at hw
    have HG : Hid (∀ i, i < (eveS f l).groups.length → ((eveS f l).grp i).g.size = szZ l i) := hgz
    have HWt : Hid (WtOk (eveS f l).groups.length (szZ l) (eveS f l).visits) := hw
    have h1 : waitsA f l = wS (szZ l) (eveS f l).visits := if_pos hc
    have h2 : waitsB f l = wG (szZ l) (eveS f l).visits := if_pos hc
    obtain ⟨a, ha⟩ : ∃ a, a = wS (szZ l) (eveS f l).visits := ⟨_, rfl⟩
    obtain ⟨b, hb⟩ : ∃ b, b = wG (szZ l) (eveS f l).visits := ⟨_, rfl⟩
    rw [hc, h1, h2, ← ha, ← hb]
    have HA := Lib.hid ha
    have HB := Lib.hid hb
    unfold eveV at HC ⊢
    clear hr hl hrW hlW hn r0 bW hc h1 h2 hw hgz n1 ha hb
    go_enter Try.func32, Try.ntmps32
    go_upto_region 1 with (fail)
    rw [← hW]
    clear hW
    go_upto_region 2 with (go_at_call 46; refine HC.out.mono ?_; rintro e w1 ⟨E, rfl, hE0, hb1, hE⟩)
    have HB1 := Lib.hid (HBW.out.trans (hb1.mono HBW.out.size))
    have hw := waited_any hE HG.out HWt.out
    rw [← HA.out, ← HB.out] at hw
    have HC2 := Lib.hid hw
    clear hb1 HC hE hE0 hw
    go_wp2_with (go_at_call 55; refine HC2.out.mono ?_; rintro e w2 ⟨rfl, hb2⟩; have HB2 := Lib.hid (HB1.out.trans (hb2.mono HB1.out.size)); clear hb2)
    have rX : Row (w2.alloc (.cells #[.int .i64 a, .int .i64 b] 92)) w2.heap.size 92 [.int .i64 a, .int .i64 b] := Row.new w2 _ _
    have bX := HB2.out.alloc HB2.out.size (.cells #[.int .i64 a, .int .i64 b] 92)
    generalize w2.alloc (.cells #[.int .i64 a, .int .i64 b] 92) = X at rX bX ⊢
    have c0 : X.cell? ⟨w2.heap.size, 0, none⟩ = some (.int .i64 a) := rX.cell (j := 0) (by simp)
    have c1 : X.cell? ⟨w2.heap.size, 1, none⟩ = some (.int .i64 b) := rX.cell (j := 1) (by simp)
    have lX := rX.lt
    have HBX := Lib.hid bX
    clear rX bX HC2
    go_quiet (fail)
    go_wp2_with fail
    go_ret3
    exact ⟨rfl, below_drewN HBX.out _⟩
  · have HC := Lib.hid (cap_bad f l A A2 c c2 B rs W hBW hrW hn hlW hc)
    have HZ : Hid (waitsA f l = 0) := if_neg hc
    have HY : Hid (waitsB f l = 0) := if_neg hc
    generalize checkQ f l = k at hc HC ⊢
    unfold eveV at HC ⊢
    clear hr hl hrW hlW hn r0 bW
    go_enter Try.func32, Try.ntmps32
    go_upto_region 1 with (fail)
    rw [← hW]
    clear hW
    go_wp2_with (go_at_call 46; refine HC.out.mono ?_; rintro e w1 ⟨rfl, hb1⟩; have HB1 := Lib.hid (HBW.out.trans (hb1.mono HBW.out.size)); clear hb1)
    all_goals first | (go_ret3; rw [HZ.out, HY.out]; exact ⟨rfl, HB1.out⟩) | (exfalso; omega) | trace_state
end Go.Proofs.Ytijbhcdnbaaobaa
