/- Contract of queue's play. Conditions: a valid evening with its groups, which read as data. -/
import Derived.Test.YtijbhcdnbaaobaaJx
namespace Go.Proofs.Ytijbhcdnbaaobaa
open Go.RowKit

set_option maxRecDepth 100000 in
set_option maxHeartbeats 8000000 in
theorem play_any (f : EveZ) (l : List GrpZ) (A A2 : Option Addr) (c c2 B : Nat) (rs : List (Option Addr × Nat)) (w : World) (hB : B ≤ w.heap.size) (hr : Reads w B 5 A f.rides.length (bthCells f.rides)) (hl : GrpsIn w B A2 rs l) (h1 : eveB f = true) (h2 : grpsB f.rides.length l = true) :
    Calls Try.prog 63 #[eveV f A c, .slice A2 l.length c2] w (PlayTo w (eveS f l)) := by
  obtain ⟨W, hW⟩ : ∃ W, W = w.alloc (.cells #[.slice A f.rides.length c, .int .i64 f.walk] 24) := ⟨_, rfl⟩
  have bW : Below w.heap.size w W := by subst hW; exact (Below.refl _ _).alloc (Nat.le_refl _) _
  have r0 : Row W w.heap.size 24 [.slice A f.rides.length c, .int .i64 f.walk] := by subst hW; exact Row.new w _ _
  have lW : w.heap.size < W.heap.size := by subst hW; simp
  have q0 : W.cell? ⟨w.heap.size, 0, none⟩ = some (.slice A f.rides.length c) := r0.cell (j := 0) (by simp)
  have q1 : W.cell? ⟨w.heap.size, 1, none⟩ = some (.int .i64 f.walk) := r0.cell (j := 1) (by simp)
  have HR : Hid (∀ X, Below w.heap.size w X → Reads X B 5 A f.rides.length (bthCells f.rides)) := fun X hX => hr.below (hX.mono hB)
  have HG : Hid (∀ X, Below w.heap.size w X → GrpsIn X B A2 rs l) := fun X hX => hl.below (hX.mono hB)
  have hn8 := eveB_len h1
  have hm60 : l.length ≤ 60 := grpsB_len h2
  have hL0 : Hid (LayIn w W.heap.size (W.alloc (.cells #[.int .i64 f.walk, .int .i64 0, .slice none 0 0, .slice none 0 0, .slice none 0 0] 83)) f rs l 0 0 (.slice none 0 0) (.slice none 0 0)) := by
    refine ⟨bW.size, bW.alloc bW.size _, ?_, ?_, ?_, fun _ => rfl, fun _ => rfl⟩
    · exact Row.new W _ _
    · exact World.ownsRow_nil _ _ _ _
    · exact World.ownsRow_nil _ _ _ _
  have HB1 := Lib.hid h1
  have HB2 := Lib.hid h2
  unfold eveV
  clear hr hl h1 h2 r0
  go_enter Try.func63, Try.ntmps63
  go_upto_region 1 with (fail)
  rw [← hW]
  clear hW
  go_wp2_with fail
  obtain ⟨iV, hii, hz0, hz1, hz2⟩ := info_parts Try.info_ride
  go_loopw [17] (fun ix wr => ∃ (k : Nat) (ur : Value), k ≤ f.rides.length ∧ ix = .int .i64 k ∧ Hid (LayIn w W.heap.size wr f rs l k 0 ur (.slice none 0 0))) (fun ix _ => f.rides.length - (intOf ix).toNat)
  case atStart => exact ⟨0, _, Nat.zero_le _, rfl, hL0.out⟩
  case round =>
    clear hL0 q0 q1 bW lW
    obtain ⟨k, ur, hk, rfl, HLw⟩ := hrel
    by_cases hlt : k < f.rides.length
    · obtain ⟨b, o, rfl, hb, c0, c1, c2', c3, c4⟩ := (HR.out wr HLw.out.bel).bth hlt rfl
      have Hsn := Lib.hid (rdsL0_succ f.rides k hlt)
      obtain ⟨x, hxx⟩ : ∃ x, x = f.rides.getD k default := ⟨_, rfl⟩
      rw [← hxx] at c0 c1 c2' c3 c4 Hsn
      clear hxx
      have e1 : IntKind.i64.wrap ((k : Int) + 1) = (k : Int) + 1 := IntWalk.i64_in _ (by omega)
      have hkn : (k : Int) < (f.rides.length : Int) := by omega
      have hk0 : (0 : Int) ≤ (k : Int) := by omega
      have hnil : ¬ f.rides = [] := by intro e; rw [e] at hlt; simp at hlt
      have hU := HLw.out.grow ((Below.refl _ wr).alloc (Nat.le_refl _) (.cells #[.int .i64 x.seats, .int .i64 x.price, .int .i64 x.cycle, .int .i64 x.pause, .bool x.fill] 47))
      have kU := Row.new wr 47 #[.int .i64 x.seats, .int .i64 x.price, .int .i64 x.cycle, .int .i64 x.pause, .bool x.fill]
      go_upto_region 5 with (fail)
      obtain ⟨U, hUU⟩ : ∃ X, X = wr.alloc (.cells #[.int .i64 x.seats, .int .i64 x.price, .int .i64 x.cycle, .int .i64 x.pause, .bool x.fill] 47) := ⟨_, rfl⟩
      rw [← hUU] at hU kU ⊢
      clear hUU c0 c1 c2' c3 c4
      obtain ⟨uA, uc, hus⟩ := own_slice hU.rd
      subst hus
      have HL := Lib.hid hU
      have x2 : U.cell? ⟨W.heap.size, 2, none⟩ = some (.slice uA k uc) := hU.ev.cell (j := 2) (by simp)
      have lV := hU.ev.lt
      have lg := kU.lt
      have g0 : U.cell? ⟨wr.heap.size, 0, none⟩ = some (.int .i64 x.seats) := kU.cell (j := 0) (by simp)
      have g1 : U.cell? ⟨wr.heap.size, 1, none⟩ = some (.int .i64 x.price) := kU.cell (j := 1) (by simp)
      have g2 : U.cell? ⟨wr.heap.size, 2, none⟩ = some (.int .i64 x.cycle) := kU.cell (j := 2) (by simp)
      have g3 : U.cell? ⟨wr.heap.size, 3, none⟩ = some (.int .i64 x.pause) := kU.cell (j := 3) (by simp)
      have g4 : U.cell? ⟨wr.heap.size, 4, none⟩ = some (.bool x.fill) := kU.cell (j := 4) (by simp)
      have m1 : k + 1 ≤ maxLen := by unfold maxLen; omega
      have m2 : (k + 1) * 88 ≤ 140737488355328 := by omega
      clear hU kU HLw
      refine wp_region_part 11 (ord := [0, 1, 2, 3, 4, 5, 6, 7, 8, 9, 10, 11]) (ds := [(0, 21), (1, 22), (2, 23), (3, 24), (4, 25), (5, 26), (6, 27), (7, 28), (8, 29), (9, 30), (10, 31)]) (I := appI 8 U (fun y => y.frozen? ⟨W.heap.size, 2, none⟩ = false ∧ y.cell? ⟨W.heap.size, 2, none⟩ = some (.slice uA k uc))) (V := fun j => if j = 7 then newRow U.heap.size 89 1 (rdL0 x) else if j = 8 then layR w W.heap.size f rs l (k + 1) 0 (.slice none 0 0) else isV ((([.pointer (some ⟨W.heap.size, 0, none⟩), .pointer (some ⟨W.heap.size, 0, none⟩), .pointer (some ⟨W.heap.size, 0, none⟩), .pointer (some ⟨W.heap.size, 2, none⟩), .slice uA k uc, .agg #[.int .i64 x.seats, .int .i64 x.price, .int .i64 x.cycle, .int .i64 x.pause, .bool x.fill], .agg #[.int .i64 x.seats, .int .i64 x.price, .int .i64 x.cycle, .int .i64 x.pause, .bool x.fill, .slice none 0 0, .int .i64 0, .int .i64 0, .int .i64 0], undef, undef, .pointer (some ⟨W.heap.size, 0, none⟩), .pointer (some ⟨W.heap.size, 2, none⟩)] : List Value)[j]?).getD undef)) (by kernel_rfl) (by kernel_rfl) (by kernel_rfl) ?ia (StepsE.cons (k := 0) (k' := 1) (o := ⟨some 21, _, _, _, _, _⟩) rfl rfl ?sa0 (StepsE.cons (k := 1) (k' := 2) (o := ⟨some 22, _, _, _, _, _⟩) rfl rfl ?sa1 (StepsE.cons (k := 2) (k' := 3) (o := ⟨some 23, _, _, _, _, _⟩) rfl rfl ?sa2 (StepsE.cons (k := 3) (k' := 4) (o := ⟨some 24, _, _, _, _, _⟩) rfl rfl ?sa3 (StepsE.cons (k := 4) (k' := 5) (o := ⟨some 25, _, _, _, _, _⟩) rfl rfl ?sa4 (StepsE.cons (k := 5) (k' := 6) (o := ⟨some 26, _, _, _, _, _⟩) rfl rfl ?sa5 (StepsE.cons (k := 6) (k' := 7) (o := ⟨some 27, _, _, _, _, _⟩) rfl rfl ?sa6 (StepsE.cons (k := 7) (k' := 8) (o := ⟨some 28, _, _, _, _, _⟩) rfl rfl ?sa7 (StepsE.cons (k := 8) (k' := 9) (o := ⟨some 29, _, _, _, _, _⟩) rfl rfl ?sa8 (StepsE.cons (k := 9) (k' := 10) (o := ⟨some 30, _, _, _, _, _⟩) rfl rfl ?sa9 (StepsE.cons (k := 10) (k' := 11) (o := ⟨some 31, _, _, _, _, _⟩) rfl rfl ?sa10 StepsE.nil))))))))))) ?fina
      case sa0 =>
        intro xs done y hI hd0 hdn hup hV K hK
        refine wpOp_go (o := ⟨some 21, _, _, _, _, _⟩) rfl rfl ?_
        clear hV
        simp only [putsF, List.foldl_cons, List.foldl_nil, Act.put, List.setIfInBounds_toArray, List.set_cons_zero, List.set_cons_succ] at hK ⊢
        go_wp2_with fail
        exact hK.out _ _ (app_same hI (by decide)) (by exact rfl) (fun _ _ _ _ _ h => h)
      case sa1 =>
        intro xs done y hI hd0 hdn hup hV K hK
        refine wpOp_go (o := ⟨some 22, _, _, _, _, _⟩) rfl rfl ?_
        clear hV
        simp only [putsF, List.foldl_cons, List.foldl_nil, Act.put, List.setIfInBounds_toArray, List.set_cons_zero, List.set_cons_succ] at hK ⊢
        go_wp2_with fail
        exact hK.out _ _ (app_same hI (by decide)) (by exact rfl) (fun _ _ _ _ _ h => h)
      case sa2 =>
        intro xs done y hI hd0 hdn hup hV K hK
        refine wpOp_go (o := ⟨some 23, _, _, _, _, _⟩) rfl rfl ?_
        have e1 : xs 1 = .pointer (some ⟨W.heap.size, 0, none⟩) := hV 1 (by kernel_rfl)
        clear hV
        simp only [putsF, List.foldl_cons, List.foldl_nil, Act.put, List.setIfInBounds_toArray, List.set_cons_zero, List.set_cons_succ] at hK ⊢
        simp only [e1] at hK ⊢
        clear e1
        go_wp2_with fail
        exact hK.out _ _ (app_same hI (by decide)) (by exact rfl) (fun _ _ _ _ _ h => h)
      case sa3 =>
        intro xs done y hI hd0 hdn hup hV K hK
        refine wpOp_go (o := ⟨some 24, _, _, _, _, _⟩) rfl rfl ?_
        have e2 : xs 2 = .pointer (some ⟨W.heap.size, 0, none⟩) := hV 2 (by kernel_rfl)
        clear hV
        simp only [putsF, List.foldl_cons, List.foldl_nil, Act.put, List.setIfInBounds_toArray, List.set_cons_zero, List.set_cons_succ] at hK ⊢
        simp only [e2] at hK ⊢
        clear e2
        go_wp2_with fail
        exact hK.out _ _ (app_same hI (by decide)) (by exact rfl) (fun _ _ _ _ _ h => h)
      case sa4 =>
        intro xs done y hI hd0 hdn hup hV K hK
        refine wpOp_go (o := ⟨some 25, _, _, _, _, _⟩) rfl rfl ?_
        have e3 : xs 3 = .pointer (some ⟨W.heap.size, 2, none⟩) := hV 3 (by kernel_rfl)
        clear hV
        simp only [putsF, List.foldl_cons, List.foldl_nil, Act.put, List.setIfInBounds_toArray, List.set_cons_zero, List.set_cons_succ] at hK ⊢
        simp only [e3] at hK ⊢
        clear e3
        have hb := hI.1 (hdn 8 (by kernel_rfl))
        have x2' := (hb.cell (p := ⟨W.heap.size, 2, none⟩) lV).trans x2
        have g0' := (hb.cell (p := ⟨wr.heap.size, 0, none⟩) lg).trans g0
        have g1' := (hb.cell (p := ⟨wr.heap.size, 1, none⟩) lg).trans g1
        have g2' := (hb.cell (p := ⟨wr.heap.size, 2, none⟩) lg).trans g2
        have g3' := (hb.cell (p := ⟨wr.heap.size, 3, none⟩) lg).trans g3
        have g4' := (hb.cell (p := ⟨wr.heap.size, 4, none⟩) lg).trans g4
        go_wp2_with fail
        exact hK.out _ _ (app_same hI (by decide)) (by exact rfl) (fun _ _ _ _ _ h => h)
      case sa5 =>
        intro xs done y hI hd0 hdn hup hV K hK
        refine wpOp_go (o := ⟨some 26, _, _, _, _, _⟩) rfl rfl ?_
        clear hV
        simp only [putsF, List.foldl_cons, List.foldl_nil, Act.put, List.setIfInBounds_toArray, List.set_cons_zero, List.set_cons_succ] at hK ⊢
        have hb := hI.1 (hdn 8 (by kernel_rfl))
        have x2' := (hb.cell (p := ⟨W.heap.size, 2, none⟩) lV).trans x2
        have g0' := (hb.cell (p := ⟨wr.heap.size, 0, none⟩) lg).trans g0
        have g1' := (hb.cell (p := ⟨wr.heap.size, 1, none⟩) lg).trans g1
        have g2' := (hb.cell (p := ⟨wr.heap.size, 2, none⟩) lg).trans g2
        have g3' := (hb.cell (p := ⟨wr.heap.size, 3, none⟩) lg).trans g3
        have g4' := (hb.cell (p := ⟨wr.heap.size, 4, none⟩) lg).trans g4
        go_wp2_with fail
        exact hK.out _ _ (app_same hI (by decide)) (by exact rfl) (fun _ _ _ _ _ h => h)
      case sa6 =>
        intro xs done y hI hd0 hdn hup hV K hK
        refine wpOp_go (o := ⟨some 27, _, _, _, _, _⟩) rfl rfl ?_
        have e5 : xs 5 = .agg #[.int .i64 x.seats, .int .i64 x.price, .int .i64 x.cycle, .int .i64 x.pause, .bool x.fill] := hV 5 (by kernel_rfl)
        clear hV
        simp only [putsF, List.foldl_cons, List.foldl_nil, Act.put, List.setIfInBounds_toArray, List.set_cons_zero, List.set_cons_succ] at hK ⊢
        simp only [e5] at hK ⊢
        clear e5
        go_wp2_with fail
        exact hK.out _ _ (app_same hI (by decide)) (by exact rfl) (fun _ _ _ _ _ h => h)
      case sa7 =>
        intro xs done y hI hd0 hdn hup hV K hK
        refine wpOp_go (o := ⟨some 28, _, _, _, _, _⟩) rfl rfl ?_
        have e6 : xs 6 = .agg #[.int .i64 x.seats, .int .i64 x.price, .int .i64 x.cycle, .int .i64 x.pause, .bool x.fill, .slice none 0 0, .int .i64 0, .int .i64 0, .int .i64 0] := hV 6 (by kernel_rfl)
        clear hV
        simp only [putsF, List.foldl_cons, List.foldl_nil, Act.put, List.setIfInBounds_toArray, List.set_cons_zero, List.set_cons_succ] at hK ⊢
        simp only [e6] at hK ⊢
        clear e6
        have hd := hdn 8 (by kernel_rfl)
        have hsz := (hI.1 hd).size
        go_wp2_with fail
        refine hK.out _ _ (app_below hI (by decide) hd ((Below.refl _ _).alloc (Nat.le_refl _) _)) ⟨y.heap.size, rfl, hsz, Row.new y _ _⟩ (fun j u _ hne hj h => ?_)
        rw [if_neg hne, if_neg (fun e => by rw [e, hd] at hj; cases hj)] at h ⊢
        exact h
      case sa8 =>
        intro xs done y hI hd0 hdn hup hV K hK
        refine wpOp_go (o := ⟨some 29, _, _, _, _, _⟩) rfl rfl ?_
        have e4 : xs 4 = .slice uA k uc := hV 4 (by kernel_rfl)
        have h7 : (newRow U.heap.size 89 1 (rdL0 x)) (xs 7) y := hV 7 (by kernel_rfl)
        clear hV
        simp only [putsF, List.foldl_cons, List.foldl_nil, Act.put, List.setIfInBounds_toArray, List.set_cons_zero, List.set_cons_succ] at hK ⊢
        simp only [e4] at hK ⊢
        clear e4
        obtain ⟨gB, hB31, hgB, hrow⟩ := h7
        simp only [hB31] at hK ⊢
        have hA := hI.1 hd0
        refine wp_append_lies y (.tmp 25) (.tmp 28) 80 rfl w.heap.size 89 iV (.agg #[.int .i64 0, .int .i64 0, .int .i64 0, .int .i64 0, .bool false, .slice none 0 0, .int .i64 0, .int .i64 0, .int .i64 0]) 9 88 Try.underlying80 hii hz0 hz1 hz2 rfl (by decide) (.slice uA k uc) k ((f.rides.take k).flatMap rdL0) rfl (own_keep HL.out.rd hA) ⟨gB, 0, none⟩ 1 1 (rdL0 x) rfl rfl (row_news hrow) (by intro u hu; simp [rdL0] at hu; rcases hu with rfl | rfl | rfl | rfl | rfl | rfl | rfl | rfl | rfl <;> rfl) (by decide) m1 m2 (Nat.le_trans HL.out.bel.size hA.size) _ rfl ?_
        intro g2 cap2 X2 hown2 hgrow2 hat2 hlt2
        have hQ := (HL.out.grow hA).atR (u := .slice (some ⟨g2, 0, none⟩) (k + 1) cap2) hgrow2 (by rw [Hsn.out]; exact hown2)
        refine hK.out _ _ (app_here hQ.1) ⟨g2, cap2, rfl, hQ.2⟩ (fun j u _ hne hj h => ?_)
        by_cases e : j = 7
        · rw [if_pos e] at h ⊢
          exact newRow_kept h hgrow2 (fun k' hk' => (HL.out.rd.lt k' hk').2)
        · rw [if_neg e, if_neg hne] at h ⊢
          exact h
      case sa9 =>
        intro xs done y hI hd0 hdn hup hV K hK
        refine wpOp_go (o := ⟨some 30, _, _, _, _, _⟩) rfl rfl ?_
        have e0 : xs 0 = .pointer (some ⟨W.heap.size, 0, none⟩) := hV 0 (by kernel_rfl)
        clear hV
        simp only [putsF, List.foldl_cons, List.foldl_nil, Act.put, List.setIfInBounds_toArray, List.set_cons_zero, List.set_cons_succ] at hK ⊢
        simp only [e0] at hK ⊢
        clear e0
        go_wp2_with fail
        exact hK.out _ _ (app_same hI (by decide)) (by exact rfl) (fun _ _ _ _ _ h => h)
      case sa10 =>
        intro xs done y hI hd0 hdn hup hV K hK
        refine wpOp_go (o := ⟨some 31, _, _, _, _, _⟩) rfl rfl ?_
        have e9 : xs 9 = .pointer (some ⟨W.heap.size, 0, none⟩) := hV 9 (by kernel_rfl)
        clear hV
        simp only [putsF, List.foldl_cons, List.foldl_nil, Act.put, List.setIfInBounds_toArray, List.set_cons_zero, List.set_cons_succ] at hK ⊢
        simp only [e9] at hK ⊢
        clear e9
        go_wp2_with fail
        exact hK.out _ _ (app_same hI (by decide)) (by exact rfl) (fun _ _ _ _ _ h => h)
      case ia =>
        exact app_start (Below.refl _ _).drew
      case fina =>
        intro xs done y hI hdone hV
        have e0 : xs 0 = .pointer (some ⟨W.heap.size, 0, none⟩) := hV 0 (by decide)
        have e1 : xs 1 = .pointer (some ⟨W.heap.size, 0, none⟩) := hV 1 (by decide)
        have e2 : xs 2 = .pointer (some ⟨W.heap.size, 0, none⟩) := hV 2 (by decide)
        have e3 : xs 3 = .pointer (some ⟨W.heap.size, 2, none⟩) := hV 3 (by decide)
        have e4 : xs 4 = .slice uA k uc := hV 4 (by decide)
        have e5 : xs 5 = .agg #[.int .i64 x.seats, .int .i64 x.price, .int .i64 x.cycle, .int .i64 x.pause, .bool x.fill] := hV 5 (by decide)
        have e6 : xs 6 = .agg #[.int .i64 x.seats, .int .i64 x.price, .int .i64 x.cycle, .int .i64 x.pause, .bool x.fill, .slice none 0 0, .int .i64 0, .int .i64 0, .int .i64 0] := hV 6 (by decide)
        have h7 : (newRow U.heap.size 89 1 (rdL0 x)) (xs 7) y := hV 7 (by decide)
        have h8 : (layR w W.heap.size f rs l (k + 1) 0 (.slice none 0 0)) (xs 8) y := hV 8 (by decide)
        have e9 : xs 9 = .pointer (some ⟨W.heap.size, 0, none⟩) := hV 9 (by decide)
        have e10 : xs 10 = .pointer (some ⟨W.heap.size, 2, none⟩) := hV 10 (by decide)
        clear hV
        simp only [putsF, List.foldl_cons, List.foldl_nil, Act.put, List.setIfInBounds_toArray, List.set_cons_zero, List.set_cons_succ]
        simp only [e0, e1, e2, e3, e4, e5, e6, e9, e10]
        clear e0 e1 e2 e3 e4 e5 e6 e9 e10
        obtain ⟨hf4, hc4⟩ := hI.2 (hdone 8 (by decide))
        obtain ⟨g2, cap2, e32, hF⟩ := h8
        obtain ⟨gB, e31, _⟩ := h7
        simp only [e32, e31]
        rw [e32] at hF
        have HF := Lib.hid hF
        clear hI hdone e32 e31 hF
        refine wpOp_go (o := ⟨none, _, _, _, _, _⟩) rfl rfl ?_
        go_wp2_with fail
        refine opsE_nil ?_
        go_wp2_with fail
        go_roundw
        case rel => exact ⟨k + 1, _, by omega, by go_num, HF.out⟩
        case measure => simp [intOf]; omega
    · obtain rfl : k = f.rides.length := by omega
      clear hii hz0 hz1 hz2 hk
      go_wp2_with fail
      obtain ⟨iV, hii, hz0, hz1, hz2⟩ := info_parts Try.info_group
      go_loopw [35] (fun ix wr => ∃ (k : Nat) (ug : Value), k ≤ l.length ∧ ix = .int .i64 k ∧ Hid (LayIn w W.heap.size wr f rs l f.rides.length k ur ug)) (fun ix _ => l.length - (intOf ix).toNat)
      case atStart => exact ⟨0, _, Nat.zero_le _, rfl, HLw.out⟩
      case round =>
        clear HLw
        obtain ⟨k, ug, hk, rfl, HLw⟩ := hrel
        by_cases hlt : k < l.length
        · obtain ⟨b, o, rfl, hb, hc⟩ := (HG.out wr HLw.out.bel).outer (by omega)
          obtain ⟨c0, c1, c2', c3, c4⟩ := hc k hlt
          clear hc
          have Hsn := Lib.hid (gpsL0_succ rs l k)
          obtain ⟨x, hxx⟩ : ∃ x, x = l.getD k default := ⟨_, rfl⟩
          obtain ⟨⟨Ar, cr⟩, hrs⟩ : ∃ r, r = rs.getD k default := ⟨_, rfl⟩
          rw [← hxx, ← hrs] at c3 Hsn
          rw [← hxx] at c0 c1 c2' c4
          dsimp only at c3
          clear hxx hrs
          have e1 : IntKind.i64.wrap ((k : Int) + 1) = (k : Int) + 1 := IntWalk.i64_in _ (by omega)
          have hkn : (k : Int) < (l.length : Int) := by omega
          have hk0 : (0 : Int) ≤ (k : Int) := by omega
          have hnil : ¬ l = [] := by intro e; rw [e] at hlt; simp at hlt
          have hU := HLw.out.grow ((Below.refl _ wr).alloc (Nat.le_refl _) (.cells #[.int .i64 x.at_, .int .i64 x.size, .int .i64 x.tokens, .slice Ar x.wants.length cr, .int .i64 x.patience] 55))
          have kU := Row.new wr 55 #[.int .i64 x.at_, .int .i64 x.size, .int .i64 x.tokens, .slice Ar x.wants.length cr, .int .i64 x.patience]
          go_upto_region 10 with (fail)
          obtain ⟨U, hUU⟩ : ∃ X, X = wr.alloc (.cells #[.int .i64 x.at_, .int .i64 x.size, .int .i64 x.tokens, .slice Ar x.wants.length cr, .int .i64 x.patience] 55) := ⟨_, rfl⟩
          rw [← hUU] at hU kU ⊢
          clear hUU c0 c1 c2' c3 c4
          obtain ⟨uA, uc, hus⟩ := own_slice hU.gp
          subst hus
          have HL := Lib.hid hU
          have x2 : U.cell? ⟨W.heap.size, 3, none⟩ = some (.slice uA k uc) := hU.ev.cell (j := 3) (by simp)
          have lV := hU.ev.lt
          have lg := kU.lt
          have g0 : U.cell? ⟨wr.heap.size, 0, none⟩ = some (.int .i64 x.at_) := kU.cell (j := 0) (by simp)
          have g1 : U.cell? ⟨wr.heap.size, 1, none⟩ = some (.int .i64 x.size) := kU.cell (j := 1) (by simp)
          have g2 : U.cell? ⟨wr.heap.size, 2, none⟩ = some (.int .i64 x.tokens) := kU.cell (j := 2) (by simp)
          have g3 : U.cell? ⟨wr.heap.size, 3, none⟩ = some (.slice Ar x.wants.length cr) := kU.cell (j := 3) (by simp)
          have g4 : U.cell? ⟨wr.heap.size, 4, none⟩ = some (.int .i64 x.patience) := kU.cell (j := 4) (by simp)
          have m1 : k + 1 ≤ maxLen := by unfold maxLen; omega
          have m2 : (k + 1) * 96 ≤ 140737488355328 := by omega
          clear hU kU HLw
          refine wp_region_part 13 (ord := [0, 1, 2, 3, 4, 5, 6, 7, 8, 9, 10, 11, 12, 13]) (ds := [(0, 39), (1, 40), (2, 41), (3, 42), (4, 43), (5, 44), (6, 45), (7, 46), (8, 47), (9, 48), (10, 49), (11, 50), (12, 51)]) (I := appI 10 U (fun y => y.frozen? ⟨W.heap.size, 3, none⟩ = false ∧ y.cell? ⟨W.heap.size, 3, none⟩ = some (.slice uA k uc))) (V := fun j => if j = 9 then newRow U.heap.size 79 1 (gpL0 (Ar, cr) x) else if j = 10 then layG w W.heap.size f rs l f.rides.length (k + 1) ur else isV ((([.pointer (some ⟨W.heap.size, 0, none⟩), .pointer (some ⟨W.heap.size, 0, none⟩), .pointer (some ⟨W.heap.size, 0, none⟩), .pointer (some ⟨W.heap.size, 3, none⟩), .slice uA k uc, .agg #[.int .i64 x.at_, .int .i64 x.size, .int .i64 x.tokens, .slice Ar x.wants.length cr, .int .i64 x.patience], .pointer (some ⟨wr.heap.size, 0, none⟩), .int .i64 x.at_, .agg #[.int .i64 x.at_, .int .i64 x.size, .int .i64 x.tokens, .slice Ar x.wants.length cr, .int .i64 x.patience, .int .i64 0, .int .i64 x.at_, .int .i64 (-1), .int .i64 0, .int .i64 (-1)], undef, undef, .pointer (some ⟨W.heap.size, 0, none⟩), .pointer (some ⟨W.heap.size, 3, none⟩)] : List Value)[j]?).getD undef)) (by kernel_rfl) (by kernel_rfl) (by kernel_rfl) ?ib (StepsE.cons (k := 0) (k' := 1) (o := ⟨some 39, _, _, _, _, _⟩) rfl rfl ?sb0 (StepsE.cons (k := 1) (k' := 2) (o := ⟨some 40, _, _, _, _, _⟩) rfl rfl ?sb1 (StepsE.cons (k := 2) (k' := 3) (o := ⟨some 41, _, _, _, _, _⟩) rfl rfl ?sb2 (StepsE.cons (k := 3) (k' := 4) (o := ⟨some 42, _, _, _, _, _⟩) rfl rfl ?sb3 (StepsE.cons (k := 4) (k' := 5) (o := ⟨some 43, _, _, _, _, _⟩) rfl rfl ?sb4 (StepsE.cons (k := 5) (k' := 6) (o := ⟨some 44, _, _, _, _, _⟩) rfl rfl ?sb5 (StepsE.cons (k := 6) (k' := 7) (o := ⟨some 45, _, _, _, _, _⟩) rfl rfl ?sb6 (StepsE.cons (k := 7) (k' := 8) (o := ⟨some 46, _, _, _, _, _⟩) rfl rfl ?sb7 (StepsE.cons (k := 8) (k' := 9) (o := ⟨some 47, _, _, _, _, _⟩) rfl rfl ?sb8 (StepsE.cons (k := 9) (k' := 10) (o := ⟨some 48, _, _, _, _, _⟩) rfl rfl ?sb9 (StepsE.cons (k := 10) (k' := 11) (o := ⟨some 49, _, _, _, _, _⟩) rfl rfl ?sb10 (StepsE.cons (k := 11) (k' := 12) (o := ⟨some 50, _, _, _, _, _⟩) rfl rfl ?sb11 (StepsE.cons (k := 12) (k' := 13) (o := ⟨some 51, _, _, _, _, _⟩) rfl rfl ?sb12 StepsE.nil))))))))))))) ?finb
          case sb0 =>
            intro xs done y hI hd0 hdn hup hV K hK
            refine wpOp_go (o := ⟨some 39, _, _, _, _, _⟩) rfl rfl ?_
            clear hV
            simp only [putsF, List.foldl_cons, List.foldl_nil, Act.put, List.setIfInBounds_toArray, List.set_cons_zero, List.set_cons_succ] at hK ⊢
            go_wp2_with fail
            exact hK.out _ _ (app_same hI (by decide)) (by exact rfl) (fun _ _ _ _ _ h => h)
          case sb1 =>
            intro xs done y hI hd0 hdn hup hV K hK
            refine wpOp_go (o := ⟨some 40, _, _, _, _, _⟩) rfl rfl ?_
            clear hV
            simp only [putsF, List.foldl_cons, List.foldl_nil, Act.put, List.setIfInBounds_toArray, List.set_cons_zero, List.set_cons_succ] at hK ⊢
            go_wp2_with fail
            exact hK.out _ _ (app_same hI (by decide)) (by exact rfl) (fun _ _ _ _ _ h => h)
          case sb2 =>
            intro xs done y hI hd0 hdn hup hV K hK
            refine wpOp_go (o := ⟨some 41, _, _, _, _, _⟩) rfl rfl ?_
            have e1 : xs 1 = .pointer (some ⟨W.heap.size, 0, none⟩) := hV 1 (by kernel_rfl)
            clear hV
            simp only [putsF, List.foldl_cons, List.foldl_nil, Act.put, List.setIfInBounds_toArray, List.set_cons_zero, List.set_cons_succ] at hK ⊢
            simp only [e1] at hK ⊢
            clear e1
            go_wp2_with fail
            exact hK.out _ _ (app_same hI (by decide)) (by exact rfl) (fun _ _ _ _ _ h => h)
          case sb3 =>
            intro xs done y hI hd0 hdn hup hV K hK
            refine wpOp_go (o := ⟨some 42, _, _, _, _, _⟩) rfl rfl ?_
            have e2 : xs 2 = .pointer (some ⟨W.heap.size, 0, none⟩) := hV 2 (by kernel_rfl)
            clear hV
            simp only [putsF, List.foldl_cons, List.foldl_nil, Act.put, List.setIfInBounds_toArray, List.set_cons_zero, List.set_cons_succ] at hK ⊢
            simp only [e2] at hK ⊢
            clear e2
            go_wp2_with fail
            exact hK.out _ _ (app_same hI (by decide)) (by exact rfl) (fun _ _ _ _ _ h => h)
          case sb4 =>
            intro xs done y hI hd0 hdn hup hV K hK
            refine wpOp_go (o := ⟨some 43, _, _, _, _, _⟩) rfl rfl ?_
            have e3 : xs 3 = .pointer (some ⟨W.heap.size, 3, none⟩) := hV 3 (by kernel_rfl)
            clear hV
            simp only [putsF, List.foldl_cons, List.foldl_nil, Act.put, List.setIfInBounds_toArray, List.set_cons_zero, List.set_cons_succ] at hK ⊢
            simp only [e3] at hK ⊢
            clear e3
            have hb := hI.1 (hdn 10 (by kernel_rfl))
            have x2' := (hb.cell (p := ⟨W.heap.size, 3, none⟩) lV).trans x2
            have g0' := (hb.cell (p := ⟨wr.heap.size, 0, none⟩) lg).trans g0
            have g1' := (hb.cell (p := ⟨wr.heap.size, 1, none⟩) lg).trans g1
            have g2' := (hb.cell (p := ⟨wr.heap.size, 2, none⟩) lg).trans g2
            have g3' := (hb.cell (p := ⟨wr.heap.size, 3, none⟩) lg).trans g3
            have g4' := (hb.cell (p := ⟨wr.heap.size, 4, none⟩) lg).trans g4
            go_wp2_with fail
            exact hK.out _ _ (app_same hI (by decide)) (by exact rfl) (fun _ _ _ _ _ h => h)
          case sb5 =>
            intro xs done y hI hd0 hdn hup hV K hK
            refine wpOp_go (o := ⟨some 44, _, _, _, _, _⟩) rfl rfl ?_
            clear hV
            simp only [putsF, List.foldl_cons, List.foldl_nil, Act.put, List.setIfInBounds_toArray, List.set_cons_zero, List.set_cons_succ] at hK ⊢
            have hb := hI.1 (hdn 10 (by kernel_rfl))
            have x2' := (hb.cell (p := ⟨W.heap.size, 3, none⟩) lV).trans x2
            have g0' := (hb.cell (p := ⟨wr.heap.size, 0, none⟩) lg).trans g0
            have g1' := (hb.cell (p := ⟨wr.heap.size, 1, none⟩) lg).trans g1
            have g2' := (hb.cell (p := ⟨wr.heap.size, 2, none⟩) lg).trans g2
            have g3' := (hb.cell (p := ⟨wr.heap.size, 3, none⟩) lg).trans g3
            have g4' := (hb.cell (p := ⟨wr.heap.size, 4, none⟩) lg).trans g4
            go_wp2_with fail
            exact hK.out _ _ (app_same hI (by decide)) (by exact rfl) (fun _ _ _ _ _ h => h)
          case sb6 =>
            intro xs done y hI hd0 hdn hup hV K hK
            refine wpOp_go (o := ⟨some 45, _, _, _, _, _⟩) rfl rfl ?_
            clear hV
            simp only [putsF, List.foldl_cons, List.foldl_nil, Act.put, List.setIfInBounds_toArray, List.set_cons_zero, List.set_cons_succ] at hK ⊢
            go_wp2_with fail
            exact hK.out _ _ (app_same hI (by decide)) (by exact rfl) (fun _ _ _ _ _ h => h)
          case sb7 =>
            intro xs done y hI hd0 hdn hup hV K hK
            refine wpOp_go (o := ⟨some 46, _, _, _, _, _⟩) rfl rfl ?_
            have e6 : xs 6 = .pointer (some ⟨wr.heap.size, 0, none⟩) := hV 6 (by kernel_rfl)
            clear hV
            simp only [putsF, List.foldl_cons, List.foldl_nil, Act.put, List.setIfInBounds_toArray, List.set_cons_zero, List.set_cons_succ] at hK ⊢
            simp only [e6] at hK ⊢
            clear e6
            have hb := hI.1 (hdn 10 (by kernel_rfl))
            have x2' := (hb.cell (p := ⟨W.heap.size, 3, none⟩) lV).trans x2
            have g0' := (hb.cell (p := ⟨wr.heap.size, 0, none⟩) lg).trans g0
            have g1' := (hb.cell (p := ⟨wr.heap.size, 1, none⟩) lg).trans g1
            have g2' := (hb.cell (p := ⟨wr.heap.size, 2, none⟩) lg).trans g2
            have g3' := (hb.cell (p := ⟨wr.heap.size, 3, none⟩) lg).trans g3
            have g4' := (hb.cell (p := ⟨wr.heap.size, 4, none⟩) lg).trans g4
            go_wp2_with fail
            exact hK.out _ _ (app_same hI (by decide)) (by exact rfl) (fun _ _ _ _ _ h => h)
          case sb8 =>
            intro xs done y hI hd0 hdn hup hV K hK
            refine wpOp_go (o := ⟨some 47, _, _, _, _, _⟩) rfl rfl ?_
            have e5 : xs 5 = .agg #[.int .i64 x.at_, .int .i64 x.size, .int .i64 x.tokens, .slice Ar x.wants.length cr, .int .i64 x.patience] := hV 5 (by kernel_rfl)
            have e7 : xs 7 = .int .i64 x.at_ := hV 7 (by kernel_rfl)
            clear hV
            simp only [putsF, List.foldl_cons, List.foldl_nil, Act.put, List.setIfInBounds_toArray, List.set_cons_zero, List.set_cons_succ] at hK ⊢
            simp only [e5, e7] at hK ⊢
            clear e5 e7
            go_wp2_with fail
            exact hK.out _ _ (app_same hI (by decide)) (by exact rfl) (fun _ _ _ _ _ h => h)
          case sb9 =>
            intro xs done y hI hd0 hdn hup hV K hK
            refine wpOp_go (o := ⟨some 48, _, _, _, _, _⟩) rfl rfl ?_
            have e8 : xs 8 = .agg #[.int .i64 x.at_, .int .i64 x.size, .int .i64 x.tokens, .slice Ar x.wants.length cr, .int .i64 x.patience, .int .i64 0, .int .i64 x.at_, .int .i64 (-1), .int .i64 0, .int .i64 (-1)] := hV 8 (by kernel_rfl)
            clear hV
            simp only [putsF, List.foldl_cons, List.foldl_nil, Act.put, List.setIfInBounds_toArray, List.set_cons_zero, List.set_cons_succ] at hK ⊢
            simp only [e8] at hK ⊢
            clear e8
            have hd := hdn 10 (by kernel_rfl)
            have hsz := (hI.1 hd).size
            go_wp2_with fail
            refine hK.out _ _ (app_below hI (by decide) hd ((Below.refl _ _).alloc (Nat.le_refl _) _)) ⟨y.heap.size, rfl, hsz, Row.new y _ _⟩ (fun j u _ hne hj h => ?_)
            rw [if_neg hne, if_neg (fun e => by rw [e, hd] at hj; cases hj)] at h ⊢
            exact h
          case sb10 =>
            intro xs done y hI hd0 hdn hup hV K hK
            refine wpOp_go (o := ⟨some 49, _, _, _, _, _⟩) rfl rfl ?_
            have e4 : xs 4 = .slice uA k uc := hV 4 (by kernel_rfl)
            have h9 : (newRow U.heap.size 79 1 (gpL0 (Ar, cr) x)) (xs 9) y := hV 9 (by kernel_rfl)
            clear hV
            simp only [putsF, List.foldl_cons, List.foldl_nil, Act.put, List.setIfInBounds_toArray, List.set_cons_zero, List.set_cons_succ] at hK ⊢
            simp only [e4] at hK ⊢
            clear e4
            obtain ⟨gB, hB31, hgB, hrow⟩ := h9
            simp only [hB31] at hK ⊢
            have hA := hI.1 hd0
            refine wp_append_lies y (.tmp 43) (.tmp 48) 81 rfl w.heap.size 79 iV (.agg #[.int .i64 0, .int .i64 0, .int .i64 0, .slice none 0 0, .int .i64 0, .int .i64 0, .int .i64 0, .int .i64 0, .int .i64 0, .int .i64 0]) 10 96 Try.underlying81 hii hz0 hz1 hz2 rfl (by decide) (.slice uA k uc) k (gpsL0 rs l k) rfl (own_keep HL.out.gp hA) ⟨gB, 0, none⟩ 1 1 (gpL0 (Ar, cr) x) rfl rfl (row_news hrow) (by intro u hu; simp [gpL0] at hu; rcases hu with rfl | rfl | rfl | rfl | rfl | rfl | rfl | rfl | rfl | rfl <;> rfl) (by decide) m1 m2 (Nat.le_trans HL.out.bel.size hA.size) _ rfl ?_
            intro g2 cap2 X2 hown2 hgrow2 hat2 hlt2
            have hQ := (HL.out.grow hA).atG (u := .slice (some ⟨g2, 0, none⟩) (k + 1) cap2) hgrow2 (by rw [Hsn.out]; exact hown2)
            refine hK.out _ _ (app_here hQ.1) ⟨g2, cap2, rfl, hQ.2⟩ (fun j u _ hne hj h => ?_)
            by_cases e : j = 9
            · rw [if_pos e] at h ⊢
              exact newRow_kept h hgrow2 (fun k' hk' => (HL.out.gp.lt k' hk').2)
            · rw [if_neg e, if_neg hne] at h ⊢
              exact h
          case sb11 =>
            intro xs done y hI hd0 hdn hup hV K hK
            refine wpOp_go (o := ⟨some 50, _, _, _, _, _⟩) rfl rfl ?_
            have e0 : xs 0 = .pointer (some ⟨W.heap.size, 0, none⟩) := hV 0 (by kernel_rfl)
            clear hV
            simp only [putsF, List.foldl_cons, List.foldl_nil, Act.put, List.setIfInBounds_toArray, List.set_cons_zero, List.set_cons_succ] at hK ⊢
            simp only [e0] at hK ⊢
            clear e0
            go_wp2_with fail
            exact hK.out _ _ (app_same hI (by decide)) (by exact rfl) (fun _ _ _ _ _ h => h)
          case sb12 =>
            intro xs done y hI hd0 hdn hup hV K hK
            refine wpOp_go (o := ⟨some 51, _, _, _, _, _⟩) rfl rfl ?_
            have e11 : xs 11 = .pointer (some ⟨W.heap.size, 0, none⟩) := hV 11 (by kernel_rfl)
            clear hV
            simp only [putsF, List.foldl_cons, List.foldl_nil, Act.put, List.setIfInBounds_toArray, List.set_cons_zero, List.set_cons_succ] at hK ⊢
            simp only [e11] at hK ⊢
            clear e11
            go_wp2_with fail
            exact hK.out _ _ (app_same hI (by decide)) (by exact rfl) (fun _ _ _ _ _ h => h)
          case ib =>
            exact app_start (Below.refl _ _).drew
          case finb =>
            intro xs done y hI hdone hV
            have e0 : xs 0 = .pointer (some ⟨W.heap.size, 0, none⟩) := hV 0 (by decide)
            have e1 : xs 1 = .pointer (some ⟨W.heap.size, 0, none⟩) := hV 1 (by decide)
            have e2 : xs 2 = .pointer (some ⟨W.heap.size, 0, none⟩) := hV 2 (by decide)
            have e3 : xs 3 = .pointer (some ⟨W.heap.size, 3, none⟩) := hV 3 (by decide)
            have e4 : xs 4 = .slice uA k uc := hV 4 (by decide)
            have e5 : xs 5 = .agg #[.int .i64 x.at_, .int .i64 x.size, .int .i64 x.tokens, .slice Ar x.wants.length cr, .int .i64 x.patience] := hV 5 (by decide)
            have e6 : xs 6 = .pointer (some ⟨wr.heap.size, 0, none⟩) := hV 6 (by decide)
            have e7 : xs 7 = .int .i64 x.at_ := hV 7 (by decide)
            have e8 : xs 8 = .agg #[.int .i64 x.at_, .int .i64 x.size, .int .i64 x.tokens, .slice Ar x.wants.length cr, .int .i64 x.patience, .int .i64 0, .int .i64 x.at_, .int .i64 (-1), .int .i64 0, .int .i64 (-1)] := hV 8 (by decide)
            have h9 : (newRow U.heap.size 79 1 (gpL0 (Ar, cr) x)) (xs 9) y := hV 9 (by decide)
            have h10 : (layG w W.heap.size f rs l f.rides.length (k + 1) ur) (xs 10) y := hV 10 (by decide)
            have e11 : xs 11 = .pointer (some ⟨W.heap.size, 0, none⟩) := hV 11 (by decide)
            have e12 : xs 12 = .pointer (some ⟨W.heap.size, 3, none⟩) := hV 12 (by decide)
            clear hV
            simp only [putsF, List.foldl_cons, List.foldl_nil, Act.put, List.setIfInBounds_toArray, List.set_cons_zero, List.set_cons_succ]
            simp only [e0, e1, e2, e3, e4, e5, e6, e7, e8, e11, e12]
            clear e0 e1 e2 e3 e4 e5 e6 e7 e8 e11 e12
            obtain ⟨hf4, hc4⟩ := hI.2 (hdone 10 (by decide))
            obtain ⟨g2, cap2, e32, hF⟩ := h10
            obtain ⟨gB, e31, _⟩ := h9
            simp only [e32, e31]
            rw [e32] at hF
            have HF := Lib.hid hF
            clear hI hdone e32 e31 hF
            refine wpOp_go (o := ⟨none, _, _, _, _, _⟩) rfl rfl ?_
            go_wp2_with fail
            refine opsE_nil ?_
            go_wp2_with fail
            go_roundw
            case rel => exact ⟨k + 1, _, by omega, by go_num, HF.out⟩
            case measure => simp [intOf]; omega
        · obtain rfl : k = l.length := by omega
          clear hii hz0 hz1 hz2 hk
          go_wp2_with fail
          obtain ⟨E, hEv, hEb, hE0⟩ := lay_done HLw.out (HG.out wr HLw.out.bel) hB
          obtain ⟨hBig, hB0⟩ := big_start HB1.out HB2.out
          have HE0 := Lib.hid hE0
          have HBl := Lib.hid HLw.out.bel
          have HEb := Lib.hid hEb
          have hb60 := hBig.ng
          clear HLw hE0 hlt
          rw [← hEv]
          clear hEv
          go_loopg [53] 4001 (fun gg _ wx => ∃ (k : Nat) (sk : EvS), k ≤ 4001 ∧ 4001 - k ≤ gg ∧ Hid (ticksS (4001 - k) sk = eveS f l) ∧ Hid (BothS (startS f l) sk ∧ sk.now = (k : Int)) ∧ Hid (Below w.heap.size w wx) ∧ Hid (EvAt E wx sk))
          case atStart => exact ⟨0, startS f l, by omega, by omega, rfl, ⟨hB0, rfl⟩, HBl.out, HE0.out⟩
          case round =>
            clear HE0
            obtain ⟨k, sk, hk, hg, HT, HP, HBk, HEk⟩ := hrel
            obtain ⟨hbk, hnk⟩ := HP.out
            obtain ⟨q, u, hin⟩ := HEk.out
            obtain ⟨_, v1, _, l1⟩ := hin.vc
            have fv := hin.frv 1
            rw [hnk] at v1
            have hlm : sk.groups.length ≤ 60 := by rw [(fix_len hbk.1.fix).1]; exact hb60
            have Hov := Lib.hid (over_any HEk.out hlm)
            by_cases hle : k ≤ 4000
            · have d1 : decide ((k : Int) ≤ 4000) = true := by simp; omega
              have h40 : (k : Int) ≤ 4000 := by omega
              have HTe : Hid (ticksS (4001 - k) sk = if overS sk then sk else ticksS (4000 - k) { tickS sk with now := sk.now + 1 }) := by
                show _ = _
                rw [show 4001 - k = (4000 - k) + 1 by omega]
                rfl
              cases hov : overS sk with
              | true =>
                rw [hov] at Hov
                have HR : Hid (eveS f l = sk) := by show _ = _; rw [← HT.out, HTe.out, hov]; rfl
                clear hbk hnk HT HTe hov hin
                go_wp2_with (go_at_call 76; refine Hov.out.mono ?_; rintro e w2 ⟨rfl, hb2⟩)
                go_ret
                exact ⟨E, rfl, HEb.out, HBk.out.trans (hb2.mono HBk.out.size), by rw [HR.out]; obtain ⟨q, u, h⟩ := HEk.out; exact (h.grow hb2).at_⟩
              | false =>
                rw [hov] at Hov
                have HTi : Hid (∀ X, EvAt E X sk → Calls Try.prog 77 #[.pointer (some ⟨E.v, 0, none⟩)] X (StepTo E X (tickS sk))) := fun X hX => tick_any hBig hX hbk (by rw [hnk]; omega)
                have HR : Hid (ticksS (4001 - (k + 1)) { tickS sk with now := ((k + 1 : Nat) : Int) } = eveS f l) := by
                  show _ = _
                  rw [← HT.out, HTe.out, hov, hnk, show 4001 - (k + 1) = 4000 - k by omega]
                  rfl
                have hbt := both_tick hBig.wish hbk
                have hnt : (tickS sk).now = (k : Int) := (now_tick sk).trans hnk
                have HPn : Hid (BothS (startS f l) { tickS sk with now := ((k + 1 : Nat) : Int) } ∧ ({ tickS sk with now := ((k + 1 : Nat) : Int) } : EvS).now = ((k + 1 : Nat) : Int)) := ⟨⟨wf_now hbt.1 _, his_now hbt.2 _ (by rw [hnt]; omega)⟩, rfl⟩
                have Hnt := Lib.hid hnt
                have e1 : IntKind.i64.wrap ((k : Int) + 1) = (k : Int) + 1 := IntWalk.i64_in _ (by omega)
                clear hbk hnk HT HTe hov hin hbt hnt v1 fv
                have v1 : wr.cell? ⟨E.v, 1, none⟩ = some (.int .i64 (k : Int)) := by
                  obtain ⟨q, u, h⟩ := HEk.out
                  rw [← HP.out.2]
                  exact h.vc.2.1
                go_wp2_with (first
                  | (go_at_call 76; refine Hov.out.mono ?_; rintro e w2 ⟨rfl, hb2⟩; have HB2' := Lib.hid hb2; have HE2 : Hid (EvAt E w2 sk) := (by obtain ⟨q, u, h⟩ := HEk.out; exact (h.grow hb2).at_); clear hb2)
                  | (go_at_call 77; refine (HTi.out _ HE2.out).mono ?_; rintro e w3 ⟨rfl, hb3, q3, u3, h3⟩; have HB3 := Lib.hid hb3; have f3 := h3.frv 1; have l3 := h3.vc.2.2.2; have v3 := h3.vc.2.1; rw [Hnt.out] at v3; have H3 := Lib.hid (h3.setN ((k + 1 : Nat) : Int)); have hv0 := Lib.hid h3.bas.1; clear hb3 h3))
                go_roundg (4001 - (k + 1))
                case measure => omega
                case rel =>
                  refine ⟨k + 1, _, by omega, by omega, HR.out, ⟨HPn.out.1, rfl⟩, ?_, ?_⟩
                  · have hb4 : Below w.heap.size w w3 := (HBk.out.trans (HB2'.out.mono HBk.out.size)).trans (by rw [← HEb.out]; exact HB3.out)
                    exact hb4.setCell (by rw [← HEb.out]; exact hv0.out) _
                  · have h5 := H3.out
                    have e5 : ((k + 1 : Nat) : Int) = (k : Int) + 1 := by omega
                    rw [e5] at h5
                    show EvAt _ _ _
                    rw [e5]
                    exact h5.at_
            · have hk1 : k = 4001 := by omega
              have d1 : decide ((k : Int) ≤ 4000) = false := by simp; omega
              have hnle : ¬ (k : Int) ≤ 4000 := by omega
              have HR : Hid (eveS f l = sk) := by show _ = _; rw [← HT.out, hk1]; rfl
              clear hbk hnk HT hin hk1 Hov
              go_wp2_with fail
              go_ret
              exact ⟨E, rfl, HEb.out, HBk.out, by rw [HR.out]; exact HEk.out⟩
end Go.Proofs.Ytijbhcdnbaaobaa
