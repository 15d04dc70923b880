/- Contract of the specification's Held. Conditions: an evening and groups that read as data; a valid evening is played. -/
import Derived.Test.YtijbhcdnbaaobaaDj
namespace Go.Proofs.Ytijbhcdnbaaobaa
open Go.RowKit

set_option maxRecDepth 100000 in
set_option maxHeartbeats 2000000 in
theorem rHeld_any (f : EveZ) (l : List GrpZ) (A A2 : Option Addr) (c c2 B : Nat) (rs : List (Option Addr × Nat)) (w : World) (hB : B ≤ w.heap.size) (hr : Reads w B 5 A f.rides.length (bthCells f.rides)) (hn : f.rides.length ≤ maxLen) (hl : GrpsIn w B A2 rs l) (x9 : RawR) (hp : checkQ f l = 0 → PlayOk f l x9) (L : List Int) (hL : checkQ f l = 0 → (List.range l.length).map (fun i => x9.gu i 3) = L) (hL0 : checkQ f l ≠ 0 → L = []) :
    Calls Try.prog 28 #[eveV f A c, .slice A2 l.length c2] w (ListTo w L (checkQ f l)) := by
  obtain ⟨i0, hi, hz0, hz1, hz2⟩ := info_parts Try.info_int
  obtain ⟨W, hW⟩ : ∃ W, W = w.alloc (.cells #[.slice A f.rides.length c, .int .i64 f.walk] 24) := ⟨_, rfl⟩
  have bW : Below w.heap.size w W := by subst hW; exact (Below.refl _ _).alloc (Nat.le_refl _) _
  have r0 : Row W w.heap.size 24 [.slice A f.rides.length c, .int .i64 f.walk] := by subst hW; exact Row.new w _ _
  have q0 : W.cell? ⟨w.heap.size, 0, none⟩ = some (.slice A f.rides.length c) := r0.cell (j := 0) (by simp)
  have q1 : W.cell? ⟨w.heap.size, 1, none⟩ = some (.int .i64 f.walk) := r0.cell (j := 1) (by simp)
  have lW : w.heap.size < W.heap.size := r0.lt
  have HBW := Lib.hid bW
  have HR0 := Lib.hid r0
  have hBW := Nat.le_trans hB bW.size
  have HC := Lib.hid (rCheck_any f l A A2 c c2 B rs W hBW (hr.below (bW.mono hB)) hn (hl.below (bW.mono hB)))
  by_cases hc : checkQ f l = 0
  · obtain ⟨n1, n2, -, -⟩ := eve_lens hc
    have hL := hL hc
    have HP := Lib.hid (hp hc)
    have HPL : Hid (∀ X, Below w.heap.size w X → Calls Try.prog 48 #[eveV f A c, .slice A2 l.length c2] X fun e w' => ∃ E : RfE, e = .returned (.pointer (some ⟨E.v, 0, none⟩)) ∧ E.base = X.heap.size ∧ E.f = f ∧ E.l = l ∧ Below X.heap.size X w' ∧ RfAt E w' x9) := fun X hX => by
      obtain ⟨N, hN, hgo⟩ := HP.out.go
      exact rplayed_any f l A A2 c c2 rs X (eve_lens8 hc).1 (eve_lens8 hc).2 ((hr.below (hX.mono hB)).more (Nat.le_trans hB hX.size)) ((hl.below (hX.mono hB)).more (Nat.le_trans hB hX.size)) HP.out.st x9 N hN hgo
    have n60 := (eve_lens8 hc).2
    rw [hc] at HC ⊢
    have hlen : L.length = l.length := by rw [← hL]; simp
    have HL : Hid (∀ k, k < l.length → (L.take (k + 1)).map (Value.int .i64) = (L.take k).map (Value.int .i64) ++ [.int .i64 (x9.gu k 3)]) := fun k hk => by
      have hk' : k < L.length := by omega
      rw [List.take_succ_eq_append_getElem hk', List.map_append]
      congr 1
      subst hL
      simp
    unfold eveV at HC HPL ⊢
    clear hr hl hn r0 bW hL hL0 hp HP n1 n2 hc
    go_enter Try.func28, Try.ntmps28
    go_upto_region 1 with (fail)
    rw [← hW]
    clear hW
    go_upto_region 4 with (go_at_call 20; refine HC.out.mono ?_; rintro e w1 ⟨rfl, hb1⟩; have HB1 := Lib.hid hb1; clear hb1 HC)
    have r1 := HR0.out.below HB1.out HR0.out.lt
    have q0 : w1.cell? ⟨w.heap.size, 0, none⟩ = some (.slice A f.rides.length c) := r1.cell (j := 0) (by simp)
    have q1 : w1.cell? ⟨w.heap.size, 1, none⟩ = some (.int .i64 f.walk) := r1.cell (j := 1) (by simp)
    have lW : w.heap.size < w1.heap.size := r1.lt
    have hb1 := HBW.out.trans (HB1.out.mono HBW.out.size)
    have HB2 := Lib.hid hb1
    have HC2 := Lib.hid (HPL.out w1 hb1)
    clear r1 hb1 HPL HB1 HR0 HBW
    go_wp2_with (go_at_call 48; refine HC2.out.mono ?_; rintro e w9 ⟨E, rfl, -, hEf, hEl, hb9, qs, uv, hin⟩; have HB9 := Lib.hid (HB2.out.trans (hb9.mono HB2.out.size)); have HIN := Lib.hid hin; have HEL := Lib.hid hEl; clear hb9 hin HC2 hEf hEl)
    go_loopw [8, 9] (fun v i wr => NumRel w9 L v i wr) (fun _ i _ => l.length - (intOf i).toNat)
    case atStart => exact ⟨0, Nat.zero_le _, rfl, nowns_nil _ _ _ _, Below.refl _ _⟩
    case round =>
      obtain ⟨k, hk, rfl, hown, hbel⟩ := hrel
      by_cases hlt : k < l.length
      · have hlt' : (k : Int) < (l.length : Int) := by omega
        have hlE : k < E.l.length := by rw [HEL.out]; exact hlt
        have hg := HIN.out.grow hbel
        have p4 := hg.pG (by omega)
        rw [HEL.out] at p4
        obtain ⟨-, -, -, g3, lG⟩ := hg.gc hlE
        have lv := hg.pl.lt
        have En := Lib.hid (HL.out k hlt)
        generalize x9.gu k 3 = z at g3 En
        have m1 : k + 1 ≤ maxLen := by unfold maxLen; omega
        have m2 : (k + 1) * 8 ≤ 140737488355328 := by omega
        have oZ := own_keep hown ((Below.refl _ wr).alloc (Nat.le_refl _) (.cells #[.int .i64 z] 3))
        have bZ := hbel.alloc hbel.size (.cells #[.int .i64 z] 3)
        have m3 := bZ.size
        have HbZ := Lib.hid bZ
        clear hg hown hbel bZ
        go_wp2_with (at_builtin; refine wpList_append_own_at _ rfl _ _ 37 rfl w9.heap.size 3 i0 (.int .i64 0) 1 8 Try.underlying37 hi hz0 hz1 hz2 rfl (by decide) u8 k ((L.take k).map (Value.int .i64)) rfl oZ ⟨wr.heap.size, 0, none⟩ 1 1 [.int .i64 z] rfl rfl (cell_one_new _ _ _) ?q1 m1 m2 m3 ?_)
        case q1 => intro u hu; simp at hu; subst hu; rfl
        intro u U ho hU hnil hat
        have hbU : Below w9.heap.size w9 U := HbZ.out.grown hU HbZ.out.size fun g hg => (oZ.lt g hg).1
        go_wp2_with fail
        go_roundw
        case rel => exact ⟨k + 1, by omega, by go_num, by rw [En.out, List.map_take]; exact ho, hbU⟩
        case measure => simp [intOf]; omega
      · have hge : ¬ (k : Int) < (l.length : Int) := by omega
        have ek : k = L.length := by omega
        have Hk := Lib.hid ek
        have Hb := Lib.hid hbel
        clear ek hbel
        go_wp2_with fail
        go_ret2
        obtain ⟨A5, c5, hv, hr5⟩ := nown_reads hown
        rw [Hk.out, List.take_length] at hr5
        rw [Hk.out] at hv
        exact ⟨HB9.out.trans (Hb.out.mono HB9.out.size), A5, c5, by rw [hv]; rfl, hr5⟩
  · have HZ : Hid (L = []) := hL0 hc
    generalize checkQ f l = k at hc HC ⊢
    unfold eveV at HC ⊢
    clear hr hl hn r0 bW hp HR0 hL hL0
    go_enter Try.func28, Try.ntmps28
    go_upto_region 1 with (fail)
    rw [← hW]
    clear hW
    go_wp2_with (go_at_call 20; refine HC.out.mono ?_; rintro e w1 ⟨rfl, hb1⟩; have HB1 := Lib.hid (HBW.out.trans (hb1.mono HBW.out.size)); clear hb1)
    all_goals first | (go_ret2; rw [HZ.out]; exact ⟨HB1.out, none, 0, rfl, reads_none _ _ _⟩) | (exfalso; omega) | trace_state
end Go.Proofs.Ytijbhcdnbaaobaa
