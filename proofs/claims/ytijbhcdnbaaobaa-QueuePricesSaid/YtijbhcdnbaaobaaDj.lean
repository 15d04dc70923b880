/- Contracts of the specification's Takes, Lines and Home. Conditions: an evening and groups that read as data; a valid evening is played. -/
import Derived.Test.YtijbhcdnbaaobaaDh
import Derived.Test.YtijbhcdnbaaobaaEb
import Derived.Test.YtijbhcdnbaaobaaEh
namespace Go.Proofs.Ytijbhcdnbaaobaa
open Go.RowKit

theorem RfIn.tabR {E : RfE} {w : World} {x : RawR} {qs : Nat → Value} {uv : Value} (h : RfIn E w x qs uv) {k n : Nat} (hk : k < 5) (hn : E.tn k = n) : Reads w w.heap.size 1 (E.aT k) n (((List.range n).map (x.tab k)).map (Value.int .i64)) := by
  subst hn
  refine ⟨by simp, fun h1 => ?_⟩
  have hb := h.tab k hk h1
  refine ⟨E.T k, 0, h.aT k hk h1, hb.lt, fun j u hj => ?_⟩
  rw [List.getElem?_map, List.getElem?_map] at hj
  by_cases hlt : j < E.tn k
  · rw [List.getElem?_range hlt] at hj
    simp only [Option.map_some, Option.some.injEq] at hj
    subst hj
    have := hb.cell0 hlt (by omega)
    simpa using this
  · rw [List.getElem?_eq_none (by simp; omega)] at hj
    cases hj
/-- What a valid evening's walk asks of its steps. -/
structure PlayOk (f : EveZ) (l : List GrpZ) (x9 : RawR) : Prop where
  st : ∀ E : RfE, E.f = f → E.l = l → StatE E
  go : ∃ N : Nat, N = 4001 ∧ ∀ E : RfE, E.f = f → E.l = l → PlayGo E N (raw0 f l) x9
def rtabZ (f : EveZ) (l : List GrpZ) (x9 : RawR) (k n : Nat) : List Int := if checkQ f l = 0 then (List.range n).map (x9.tab k) else []
theorem eve_lens8 {f : EveZ} {l : List GrpZ} (h : checkQ f l = 0) : f.rides.length ≤ 8 ∧ l.length ≤ 60 := by
  unfold checkQ at h
  by_cases h1 : eveB f = false
  · rw [if_pos h1] at h; omega
  · rw [if_neg h1] at h
    by_cases h2 : grpsB f.rides.length l = false
    · rw [if_pos h2] at h; omega
    · exact ⟨eveB_len (by simpa using h1), grpsB_len (by simpa using h2)⟩
set_option maxRecDepth 100000 in
set_option maxHeartbeats 1000000 in
theorem rTakes_any (f : EveZ) (l : List GrpZ) (A A2 : Option Addr) (c c2 B : Nat) (rs : List (Option Addr × Nat)) (w : World) (hB : B ≤ w.heap.size) (hr : Reads w B 5 A f.rides.length (bthCells f.rides)) (hn : f.rides.length ≤ maxLen) (hl : GrpsIn w B A2 rs l) (x9 : RawR) (hp : checkQ f l = 0 → PlayOk f l x9) :
    Calls Try.prog 26 #[eveV f A c, .slice A2 l.length c2] w (ListTo w (rtabZ f l x9 2 f.rides.length) (checkQ f l)) := by
  obtain ⟨W, hW⟩ : ∃ W, W = w.alloc (.cells #[.slice A f.rides.length c, .int .i64 f.walk] 24) := ⟨_, rfl⟩
  have bW : Below w.heap.size w W := by subst hW; exact (Below.refl _ _).alloc (Nat.le_refl _) _
  have r0 : Row W w.heap.size 24 [.slice A f.rides.length c, .int .i64 f.walk] := by subst hW; exact Row.new w _ _
  have q0 : W.cell? ⟨w.heap.size, 0, none⟩ = some (.slice A f.rides.length c) := r0.cell (j := 0) (by simp)
  have q1 : W.cell? ⟨w.heap.size, 1, none⟩ = some (.int .i64 f.walk) := r0.cell (j := 1) (by simp)
  have lW : w.heap.size < W.heap.size := r0.lt
  have HBW := Lib.hid bW
  have HR0 := Lib.hid r0
  have hBW := Nat.le_trans hB bW.size
  have HC := Lib.hid (rCheck_any f l A A2 c c2 B rs W hBW (hr.below (bW.mono hB)) hn (hl.below (bW.mono hB)))
  by_cases hc : checkQ f l = 0
  · obtain ⟨n1, n2, -, -⟩ := eve_lens hc
    have hZ : rtabZ f l x9 2 f.rides.length = (List.range f.rides.length).map (x9.tab 2) := if_pos hc
    have HP := Lib.hid (hp hc)
    have HPL : Hid (∀ X, Below w.heap.size w X → Calls Try.prog 48 #[eveV f A c, .slice A2 l.length c2] X fun e w' => ∃ E : RfE, e = .returned (.pointer (some ⟨E.v, 0, none⟩)) ∧ E.base = X.heap.size ∧ E.f = f ∧ E.l = l ∧ Below X.heap.size X w' ∧ RfAt E w' x9) := fun X hX => by
      obtain ⟨N, hN, hgo⟩ := HP.out.go
      exact rplayed_any f l A A2 c c2 rs X (eve_lens8 hc).1 (eve_lens8 hc).2 ((hr.below (hX.mono hB)).more (Nat.le_trans hB hX.size)) ((hl.below (hX.mono hB)).more (Nat.le_trans hB hX.size)) HP.out.st x9 N hN hgo
    rw [hZ]
    rw [hc] at HC ⊢
    have hlen : ((List.range f.rides.length).map (x9.tab 2)).length = f.rides.length := by simp
    unfold ListTo
    rw [hlen]
    unfold eveV at HC HPL ⊢
    clear hr hl hn r0 bW hZ hlen hp HP n1 n2 hc
    go_enter Try.func26, Try.ntmps26
    go_upto_region 1 with (fail)
    rw [← hW]
    clear hW
    go_upto_region 4 with (go_at_call 20; refine HC.out.mono ?_; rintro e w1 ⟨rfl, hb1⟩; have HB1 := Lib.hid hb1; clear hb1 HC)
    have r1 := HR0.out.below HB1.out HR0.out.lt
    have q0 : w1.cell? ⟨w.heap.size, 0, none⟩ = some (.slice A f.rides.length c) := r1.cell (j := 0) (by simp)
    have q1 : w1.cell? ⟨w.heap.size, 1, none⟩ = some (.int .i64 f.walk) := r1.cell (j := 1) (by simp)
    have lW : w.heap.size < w1.heap.size := r1.lt
    have hb1 := HBW.out.trans (HB1.out.mono HBW.out.size)
    have HB2 := Lib.hid hb1
    have HC2 := Lib.hid (HPL.out w1 hb1)
    clear r1 hb1 HPL HB1 HR0 HBW
    go_wp2_with (go_at_call 48; refine HC2.out.mono ?_; rintro e w9 ⟨E, rfl, -, hEf, hEl, hb9, qs, uv, hin⟩; have v9 : w9.cell? ⟨E.v, 9, none⟩ = some (.slice (E.aT 2) f.rides.length (E.cT 2)) := (hin.pl.cell (j := 9) (by simp [rfL])).trans (by rw [← hEf]; rfl); have lv9 : E.v < w9.heap.size := hin.pl.lt; have HB9 := Lib.hid (HB2.out.trans (hb9.mono HB2.out.size)); have HR9 := Lib.hid (hin.tabR (k := 2) (n := f.rides.length) (by omega) (by rw [← hEf]; rfl)); clear hb9 hin HC2 hEf hEl)
    go_ret2
    exact ⟨HB9.out, _, _, rfl, HR9.out⟩
  · have HZ : Hid (rtabZ f l x9 2 f.rides.length = []) := if_neg hc
    generalize checkQ f l = k at hc HC ⊢
    unfold eveV at HC ⊢
    clear hr hl hn r0 bW hp HR0
    go_enter Try.func26, Try.ntmps26
    go_upto_region 1 with (fail)
    rw [← hW]
    clear hW
    go_wp2_with (go_at_call 20; refine HC.out.mono ?_; rintro e w1 ⟨rfl, hb1⟩; have HB1 := Lib.hid (HBW.out.trans (hb1.mono HBW.out.size)); clear hb1)
    all_goals first | (go_ret2; rw [HZ.out]; exact ⟨HB1.out, none, 0, rfl, reads_none _ _ _⟩) | (exfalso; omega) | trace_state
set_option maxRecDepth 100000 in
set_option maxHeartbeats 1000000 in
theorem rLines_any (f : EveZ) (l : List GrpZ) (A A2 : Option Addr) (c c2 B : Nat) (rs : List (Option Addr × Nat)) (w : World) (hB : B ≤ w.heap.size) (hr : Reads w B 5 A f.rides.length (bthCells f.rides)) (hn : f.rides.length ≤ maxLen) (hl : GrpsIn w B A2 rs l) (x9 : RawR) (hp : checkQ f l = 0 → PlayOk f l x9) :
    Calls Try.prog 31 #[eveV f A c, .slice A2 l.length c2] w (ListTo w (rtabZ f l x9 3 f.rides.length) (checkQ f l)) := by
  obtain ⟨W, hW⟩ : ∃ W, W = w.alloc (.cells #[.slice A f.rides.length c, .int .i64 f.walk] 24) := ⟨_, rfl⟩
  have bW : Below w.heap.size w W := by subst hW; exact (Below.refl _ _).alloc (Nat.le_refl _) _
  have r0 : Row W w.heap.size 24 [.slice A f.rides.length c, .int .i64 f.walk] := by subst hW; exact Row.new w _ _
  have q0 : W.cell? ⟨w.heap.size, 0, none⟩ = some (.slice A f.rides.length c) := r0.cell (j := 0) (by simp)
  have q1 : W.cell? ⟨w.heap.size, 1, none⟩ = some (.int .i64 f.walk) := r0.cell (j := 1) (by simp)
  have lW : w.heap.size < W.heap.size := r0.lt
  have HBW := Lib.hid bW
  have HR0 := Lib.hid r0
  have hBW := Nat.le_trans hB bW.size
  have HC := Lib.hid (rCheck_any f l A A2 c c2 B rs W hBW (hr.below (bW.mono hB)) hn (hl.below (bW.mono hB)))
  by_cases hc : checkQ f l = 0
  · obtain ⟨n1, n2, -, -⟩ := eve_lens hc
    have hZ : rtabZ f l x9 3 f.rides.length = (List.range f.rides.length).map (x9.tab 3) := if_pos hc
    have HP := Lib.hid (hp hc)
    have HPL : Hid (∀ X, Below w.heap.size w X → Calls Try.prog 48 #[eveV f A c, .slice A2 l.length c2] X fun e w' => ∃ E : RfE, e = .returned (.pointer (some ⟨E.v, 0, none⟩)) ∧ E.base = X.heap.size ∧ E.f = f ∧ E.l = l ∧ Below X.heap.size X w' ∧ RfAt E w' x9) := fun X hX => by
      obtain ⟨N, hN, hgo⟩ := HP.out.go
      exact rplayed_any f l A A2 c c2 rs X (eve_lens8 hc).1 (eve_lens8 hc).2 ((hr.below (hX.mono hB)).more (Nat.le_trans hB hX.size)) ((hl.below (hX.mono hB)).more (Nat.le_trans hB hX.size)) HP.out.st x9 N hN hgo
    rw [hZ]
    rw [hc] at HC ⊢
    have hlen : ((List.range f.rides.length).map (x9.tab 3)).length = f.rides.length := by simp
    unfold ListTo
    rw [hlen]
    unfold eveV at HC HPL ⊢
    clear hr hl hn r0 bW hZ hlen hp HP n1 n2 hc
    go_enter Try.func31, Try.ntmps31
    go_upto_region 1 with (fail)
    rw [← hW]
    clear hW
    go_upto_region 4 with (go_at_call 20; refine HC.out.mono ?_; rintro e w1 ⟨rfl, hb1⟩; have HB1 := Lib.hid hb1; clear hb1 HC)
    have r1 := HR0.out.below HB1.out HR0.out.lt
    have q0 : w1.cell? ⟨w.heap.size, 0, none⟩ = some (.slice A f.rides.length c) := r1.cell (j := 0) (by simp)
    have q1 : w1.cell? ⟨w.heap.size, 1, none⟩ = some (.int .i64 f.walk) := r1.cell (j := 1) (by simp)
    have lW : w.heap.size < w1.heap.size := r1.lt
    have hb1 := HBW.out.trans (HB1.out.mono HBW.out.size)
    have HB2 := Lib.hid hb1
    have HC2 := Lib.hid (HPL.out w1 hb1)
    clear r1 hb1 HPL HB1 HR0 HBW
    go_wp2_with (go_at_call 48; refine HC2.out.mono ?_; rintro e w9 ⟨E, rfl, -, hEf, hEl, hb9, qs, uv, hin⟩; have v9 : w9.cell? ⟨E.v, 10, none⟩ = some (.slice (E.aT 3) f.rides.length (E.cT 3)) := (hin.pl.cell (j := 10) (by simp [rfL])).trans (by rw [← hEf]; rfl); have lv9 : E.v < w9.heap.size := hin.pl.lt; have HB9 := Lib.hid (HB2.out.trans (hb9.mono HB2.out.size)); have HR9 := Lib.hid (hin.tabR (k := 3) (n := f.rides.length) (by omega) (by rw [← hEf]; rfl)); clear hb9 hin HC2 hEf hEl)
    go_ret2
    exact ⟨HB9.out, _, _, rfl, HR9.out⟩
  · have HZ : Hid (rtabZ f l x9 3 f.rides.length = []) := if_neg hc
    generalize checkQ f l = k at hc HC ⊢
    unfold eveV at HC ⊢
    clear hr hl hn r0 bW hp HR0
    go_enter Try.func31, Try.ntmps31
    go_upto_region 1 with (fail)
    rw [← hW]
    clear hW
    go_wp2_with (go_at_call 20; refine HC.out.mono ?_; rintro e w1 ⟨rfl, hb1⟩; have HB1 := Lib.hid (HBW.out.trans (hb1.mono HBW.out.size)); clear hb1)
    all_goals first | (go_ret2; rw [HZ.out]; exact ⟨HB1.out, none, 0, rfl, reads_none _ _ _⟩) | (exfalso; omega) | trace_state
set_option maxRecDepth 100000 in
set_option maxHeartbeats 1000000 in
theorem rHome_any (f : EveZ) (l : List GrpZ) (A A2 : Option Addr) (c c2 B : Nat) (rs : List (Option Addr × Nat)) (w : World) (hB : B ≤ w.heap.size) (hr : Reads w B 5 A f.rides.length (bthCells f.rides)) (hn : f.rides.length ≤ maxLen) (hl : GrpsIn w B A2 rs l) (x9 : RawR) (hp : checkQ f l = 0 → PlayOk f l x9) :
    Calls Try.prog 35 #[eveV f A c, .slice A2 l.length c2] w (ListTo w (rtabZ f l x9 4 l.length) (checkQ f l)) := by
  obtain ⟨W, hW⟩ : ∃ W, W = w.alloc (.cells #[.slice A f.rides.length c, .int .i64 f.walk] 24) := ⟨_, rfl⟩
  have bW : Below w.heap.size w W := by subst hW; exact (Below.refl _ _).alloc (Nat.le_refl _) _
  have r0 : Row W w.heap.size 24 [.slice A f.rides.length c, .int .i64 f.walk] := by subst hW; exact Row.new w _ _
  have q0 : W.cell? ⟨w.heap.size, 0, none⟩ = some (.slice A f.rides.length c) := r0.cell (j := 0) (by simp)
  have q1 : W.cell? ⟨w.heap.size, 1, none⟩ = some (.int .i64 f.walk) := r0.cell (j := 1) (by simp)
  have lW : w.heap.size < W.heap.size := r0.lt
  have HBW := Lib.hid bW
  have HR0 := Lib.hid r0
  have hBW := Nat.le_trans hB bW.size
  have HC := Lib.hid (rCheck_any f l A A2 c c2 B rs W hBW (hr.below (bW.mono hB)) hn (hl.below (bW.mono hB)))
  by_cases hc : checkQ f l = 0
  · obtain ⟨n1, n2, -, -⟩ := eve_lens hc
    have hZ : rtabZ f l x9 4 l.length = (List.range l.length).map (x9.tab 4) := if_pos hc
    have HP := Lib.hid (hp hc)
    have HPL : Hid (∀ X, Below w.heap.size w X → Calls Try.prog 48 #[eveV f A c, .slice A2 l.length c2] X fun e w' => ∃ E : RfE, e = .returned (.pointer (some ⟨E.v, 0, none⟩)) ∧ E.base = X.heap.size ∧ E.f = f ∧ E.l = l ∧ Below X.heap.size X w' ∧ RfAt E w' x9) := fun X hX => by
      obtain ⟨N, hN, hgo⟩ := HP.out.go
      exact rplayed_any f l A A2 c c2 rs X (eve_lens8 hc).1 (eve_lens8 hc).2 ((hr.below (hX.mono hB)).more (Nat.le_trans hB hX.size)) ((hl.below (hX.mono hB)).more (Nat.le_trans hB hX.size)) HP.out.st x9 N hN hgo
    rw [hZ]
    rw [hc] at HC ⊢
    have hlen : ((List.range l.length).map (x9.tab 4)).length = l.length := by simp
    unfold ListTo
    rw [hlen]
    unfold eveV at HC HPL ⊢
    clear hr hl hn r0 bW hZ hlen hp HP n1 n2 hc
    go_enter Try.func35, Try.ntmps35
    go_upto_region 1 with (fail)
    rw [← hW]
    clear hW
    go_upto_region 4 with (go_at_call 20; refine HC.out.mono ?_; rintro e w1 ⟨rfl, hb1⟩; have HB1 := Lib.hid hb1; clear hb1 HC)
    have r1 := HR0.out.below HB1.out HR0.out.lt
    have q0 : w1.cell? ⟨w.heap.size, 0, none⟩ = some (.slice A f.rides.length c) := r1.cell (j := 0) (by simp)
    have q1 : w1.cell? ⟨w.heap.size, 1, none⟩ = some (.int .i64 f.walk) := r1.cell (j := 1) (by simp)
    have lW : w.heap.size < w1.heap.size := r1.lt
    have hb1 := HBW.out.trans (HB1.out.mono HBW.out.size)
    have HB2 := Lib.hid hb1
    have HC2 := Lib.hid (HPL.out w1 hb1)
    clear r1 hb1 HPL HB1 HR0 HBW
    go_wp2_with (go_at_call 48; refine HC2.out.mono ?_; rintro e w9 ⟨E, rfl, -, hEf, hEl, hb9, qs, uv, hin⟩; have v9 : w9.cell? ⟨E.v, 11, none⟩ = some (.slice (E.aT 4) l.length (E.cT 4)) := (hin.pl.cell (j := 11) (by simp [rfL])).trans (by rw [← hEl]; rfl); have lv9 : E.v < w9.heap.size := hin.pl.lt; have HB9 := Lib.hid (HB2.out.trans (hb9.mono HB2.out.size)); have HR9 := Lib.hid (hin.tabR (k := 4) (n := l.length) (by omega) (by rw [← hEl]; rfl)); clear hb9 hin HC2 hEf hEl)
    go_ret2
    exact ⟨HB9.out, _, _, rfl, HR9.out⟩
  · have HZ : Hid (rtabZ f l x9 4 l.length = []) := if_neg hc
    generalize checkQ f l = k at hc HC ⊢
    unfold eveV at HC ⊢
    clear hr hl hn r0 bW hp HR0
    go_enter Try.func35, Try.ntmps35
    go_upto_region 1 with (fail)
    rw [← hW]
    clear hW
    go_wp2_with (go_at_call 20; refine HC.out.mono ?_; rintro e w1 ⟨rfl, hb1⟩; have HB1 := Lib.hid (HBW.out.trans (hb1.mono HBW.out.size)); clear hb1)
    all_goals first | (go_ret2; rw [HZ.out]; exact ⟨HB1.out, none, 0, rfl, reads_none _ _ _⟩) | (exfalso; omega) | trace_state
end Go.Proofs.Ytijbhcdnbaaobaa
