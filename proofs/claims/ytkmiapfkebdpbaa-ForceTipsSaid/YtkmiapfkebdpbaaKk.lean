/- Contract of Keeps. Conditions: a path reads as points. -/
import Derived.Test.YtkmiapfkebdpbaaKf
import Derived.Test.YtkmiapfkebdpbaaKh
import Derived.Test.YtkmiapfkebdpbaaKr
import Derived.Shelf.RegionOpen
namespace Go.Proofs.Ytkmiapfkebdpbaa
open Go.RowKit Go.Shelf

attribute [local go_sem] Oper.semAt_some

theorem row_own {β : Type} (g : Nat) (t : TypeId) (xs : List Value) : Own (fun (_ : β) W => Row W g t xs) := fun s X Y row hs hg hr =>
  hs.keep (hg.block g hs.lt fun e => by
    obtain ⟨o, ho, hc⟩ := hr g e.symm
    obtain ⟨cs, h, _⟩ := hs
    rw [h] at ho
    injection ho with ho
    subst ho
    cases hc)
/-- What Keeps answers: a change, whether all are kept, and an error. -/
def stepOf (m : Mot) (fails : Bool) : Int := if fails then m.jerk else m.ease
def keepS (t : List Pt) (m : Mot) (x : Lim) (fails : Bool) : Chg × Bool × Int :=
  if limE t m x ≠ 0 then (⟨0, 0, 0⟩, false, limE t m x) else ((keepsZ t m.top.toNat (stepOf m fails).toNat x).1, (keepsZ t m.top.toNat (stepOf m fails).toNat x).2, 0)
def KPost (w : World) (t : List Pt) (m : Mot) (x : Lim) (fails : Bool) (e : Ending) (w' : World) : Prop :=
  Below w.heap.size w w' ∧ e = .returned (.tuple #[encC (keepS t m x fails).1, .bool (keepS t m x fails).2.1, .int .i64 (keepS t m x fails).2.2])

theorem firstBeyond_new (x : Lim) (p : Pt) (hx : limB x = true) (hp : feltB p = true) (r : Int) (hres : r = if keptB x p = true then -1 else 0) (c : Nat) (g : Nat) (w : World) (hg : w.heap.size = g) :
    Calls Try.prog 54 #[limV x, .slice (some ⟨g, 0, none⟩) 1 c] (w.alloc (.cells #[.int .i64 p.x, .int .i64 p.y, .int .i64 p.z] 28)) fun e w' => e = .returned (.int .i64 r) ∧ Below w.heap.size w w' := by
  subst hg
  have h := Row.new w 28 #[.int .i64 p.x, .int .i64 p.y, .int .i64 p.z]
  have hb : Below w.heap.size w (w.alloc (.cells #[.int .i64 p.x, .int .i64 p.y, .int .i64 p.z] 28)) := (Below.refl _ _).alloc (Nat.le_refl _) _
  refine (firstBeyond_any x [p] (some ⟨w.heap.size, 0, none⟩) 1 c (w.heap.size + 1) _ (by simp) (h.reads (n := 1) (size := 3) (xs := ptCells [p]) rfl (Nat.lt_succ_self _)) (by decide) hx (by simpa using hp)).mono ?_
  rintro e w' ⟨rfl, h2⟩
  refine ⟨ret_int ?_, hb.trans (h2.mono hb.size)⟩
  rw [hres]
  cases hk : keptB x p with
  | true => rw [beyond_none (by simpa using hk), if_pos rfl]
  | false => rw [beyond_some (k := 0) (by simp) (by simp) (by simpa [ptAt] using hk), if_neg (by simp)]; rfl
theorem feltX_bd {t : List Pt} (h : pathB t = true) (ch : Chg) : feltB (feltX t ch) = true := by
  have hb := feltD_bd ((pathB_iff t).1 h).2.2 ch.ph (IntKind.i64.wrap ((ch.ph : Int) - (ch.bf : Int))) (IntKind.i64.wrap ((ch.ph : Int) + (ch.af : Int)))
  exact (feltB_iff _).2 ⟨hb.1, hb.2.1⟩
theorem feltX_at (p : Pt) (t : List Pt) (x : Chg) (hp : p = feltX t x) (A : Option Addr) (c B : Nat) (w : World) (hB : B ≤ w.heap.size) (hr : Reads w B 3 A t.length (ptCells t)) (ht : pathB t = true) :
    Calls Try.prog 48 #[.slice A t.length c, chgV x.ph x.bf x.af] w fun e w' => e = .returned (ptV p) ∧ Below w.heap.size w w' := by
  subst hp
  exact feltX_any t x A c B w hB hr ht
theorem row_turn {X Y : World} {row : Option Nat} {g : Nat} {t : TypeId} {xs : List Value} (hs : Row X g t xs) (hg : X.grownBy Y row) (hr : ∀ r, row = some r → ∃ o : Obj, X.heap[r]? = some o ∧ o.isCells = false) : Row Y g t xs :=
  row_own (β := Unit) g t xs () X Y row hs hg hr
theorem changes_stops (nn : Nat) (hn : 1 ≤ nn) (bt bm bs n₀ : Nat) (A : Option Addr) (n c T s : Nat) (ea je : Int) (hnl : n ≤ 100) (hT : T ≤ 10) (hs : s ≤ 10) (w : World) (hw : n₀ ≤ w.heap.size) (zt : bt < n₀) (zm : bm < n₀) (zs : bs < n₀)
    (ct : w.cell? ⟨bt, 0, none⟩ = some (.slice A n c)) (c0 : w.cell? ⟨bm, 0, none⟩ = some (.int .i64 (T : Int))) (c1 : w.cell? ⟨bm, 1, none⟩ = some (.int .i64 ea)) (c2 : w.cell? ⟨bm, 2, none⟩ = some (.int .i64 je)) (cs : w.cell? ⟨bs, 0, none⟩ = some (.int .i64 (s : Int))) :
    SeqStopsK Fence.wide nn Try.prog 82 #[.pointer (some ⟨bt, 0, none⟩), .pointer (some ⟨bm, 0, none⟩), .pointer (some ⟨bs, 0, none⟩)] (fun x : Chg => #[encC x]) (Below n₀) (fun ys => ys = phL T s n) (fun pre => pre <+: phL T s n) (phL T s n).length w :=
  fun l J Jx W hW _ _ hY h0 =>
    changes1_in Fence.wide nn trivial rfl hn l bt bm bs n₀ A n c T s ea je hnl hT hs zt zm zs J Jx hY W ((hW.cell (p := ⟨bt, 0, none⟩) (show bt < w.heap.size by omega)).trans ct) ((hW.cell (p := ⟨bm, 0, none⟩) (show bm < w.heap.size by omega)).trans c0) ((hW.cell (p := ⟨bm, 1, none⟩) (show bm < w.heap.size by omega)).trans c1) ((hW.cell (p := ⟨bm, 2, none⟩) (show bm < w.heap.size by omega)).trans c2) ((hW.cell (p := ⟨bs, 0, none⟩) (show bs < w.heap.size by omega)).trans cs) h0

theorem feltX_in {t : List Pt} {n T s : Nat} {ch : Chg} (hn : t.length = n) (hl : n ≤ 100) (hT : T ≤ 10) (h : ch ∈ phL T s n) : feltX t ch = feltZ t ch := by
  subst hn
  rw [← chgs_ph, mem_chgs] at h
  exact feltX_eq h.1 hl (by omega) (by omega)
theorem keeps_all {t : List Pt} {T s : Nat} {x : Lim} (hn : t.length ≤ 100) (hT : T ≤ 10) (h : ∀ ch ∈ phL T s t.length, keptB x (feltX t ch) = true) : keepsZ t T s x = (⟨0, 0, 0⟩, true) := by
  have e : (chgs t.length T s).find? (fun c => !keptB x (feltZ t c)) = none := by
    rw [List.find?_eq_none]
    intro c hc
    rw [chgs_ph] at hc
    have := h c hc
    rw [feltX_in rfl hn hT hc] at this
    simp [this]
  unfold keepsZ
  rw [e]
theorem keeps_first {t : List Pt} {T s : Nat} {x : Lim} {pre : List Chg} {ch : Chg} (hn : t.length ≤ 100) (hT : T ≤ 10) (hp : (pre ++ [ch]) <+: phL T s t.length) (h : ∀ y ∈ pre, keptB x (feltX t y) = true) (hc : keptB x (feltX t ch) = false) : keepsZ t T s x = (ch, false) := by
  obtain ⟨r, hr⟩ := hp
  have hm : ∀ y, y ∈ pre ++ [ch] → y ∈ phL T s t.length := fun y hy => by rw [← hr]; exact List.mem_append_left _ hy
  have e : (chgs t.length T s).find? (fun c => !keptB x (feltZ t c)) = some ch := by
    rw [List.find?_eq_some_iff_append]
    refine ⟨?_, pre, r, ?_, ?_⟩
    · rw [← feltX_in rfl hn hT (hm ch (by simp)), hc]; rfl
    · rw [chgs_ph, ← hr]; simp
    · intro y hy
      rw [← feltX_in rfl hn hT (hm y (by simp [hy])), h y hy]; rfl
  unfold keepsZ
  rw [e]
theorem keeps_end {w Z : World} {t : List Pt} {m : Mot} {x : Lim} {fails : Bool} {D : Nat} {ch : Chg} {b : Bool} (hK : Z.heap[D]? = some (.deferred (some []))) (hD : w.heap.size ≤ D) (r2 : Row Z (w.heap.size + 2) 24 [.int .i64 ch.ph, .int .i64 ch.bf, .int .i64 ch.af])
    (r3 : Row Z (w.heap.size + 3) 4 [.bool b]) (r4 : Row Z (w.heap.size + 4) 29 [.int .i64 0]) (hb : Below w.heap.size w Z) (hs : keepS t m x fails = (ch, b, 0)) (tmps : Array Value)
    (h8 : tmps[8]? = some (.pointer (some ⟨w.heap.size + 2, 0, none⟩))) (h9 : tmps[9]? = some (.pointer (some ⟨w.heap.size + 3, 0, none⟩))) (h10 : tmps[10]? = some (.pointer (some ⟨w.heap.size + 4, 0, none⟩))) :
    bodyPostM Fence.wide 8 Try.prog Try.f20 (KPost w t m x fails) Exit.ret { tmps := tmps, defers := [{ target := .collected D, args := #[] }] } Z := by
  refine ⟨by simp, .inl ⟨_, _, rfl, run_takeDeferred hK, ?_⟩⟩
  have hg := grownBy_putObj' Z D (.deferred none)
  have hr : ∀ r, some D = some r → ∃ o : Obj, Z.heap[r]? = some o ∧ o.isCells = false := fun r e => by cases e; exact ⟨_, hK, rfl⟩
  have t2 := row_turn r2 hg hr
  have t3 := row_turn r3 hg hr
  have t4 := row_turn r4 hg hr
  have bb := hb.trans (belowK_b (w := w) (Nat.le_refl _) Z D _ (.deferred none) hD hK rfl rfl)
  generalize Z.putObj D (.deferred none) = Y at *
  obtain ⟨_, a0, a1, a2⟩ := Row.at_3 t2
  have a3 : Y.cell? ⟨w.heap.size + 3, 0, none⟩ = some (.bool b) := t3.cell (j := 0) (by simp)
  have a4 : Y.cell? ⟨w.heap.size + 4, 0, none⟩ = some (.int .i64 0) := t4.cell (j := 0) (by simp)
  refine ⟨.tuple #[.agg #[.int .i64 ch.ph, .int .i64 ch.bf, .int .i64 ch.af], .bool b, .int .i64 0], by simp [results, Try.results20, go_sem, *], bb, ?_⟩
  rw [hs]
  rfl

set_option maxRecDepth 100000 in
set_option maxHeartbeats 4000000 in
theorem Keeps_any (t : List Pt) (m : Mot) (x : Lim) (fails : Bool) (A : Option Addr) (c B : Nat) (w : World) (hB : B ≤ w.heap.size) (hr : Reads w B 3 A t.length (ptCells t)) (hn : t.length ≤ maxLen) :
    Calls Try.prog 20 #[.slice A t.length c, motV m, limV x, .bool fails] w (KPost w t m x fails) := by
  obtain ⟨W, hW⟩ : ∃ W, W = ((((w.alloc (.cells #[.int .i64 m.top, .int .i64 m.ease, .int .i64 m.jerk] 35)).alloc (.cells #[.int .i64 x.side, .int .i64 x.low, .int .i64 x.high] 37)).alloc (.cells #[.int .i64 0, .int .i64 0, .int .i64 0] 24)).alloc (.cells #[.bool false] 4)).alloc (.cells #[.int .i64 0] 29) := ⟨_, rfl⟩
  have sW : W.heap.size = w.heap.size + 5 := by subst hW; simp
  have bW : Below w.heap.size w W := by subst hW; exact (((((Below.refl _ _).alloc (Nat.le_refl _) _).alloc (by simp) _).alloc (by simp; omega) _).alloc (by simp; omega) _).alloc (by simp; omega) _
  have r0 : Row W w.heap.size 35 [.int .i64 m.top, .int .i64 m.ease, .int .i64 m.jerk] := by subst hW; exact ((((Row.new w _ _).alloc _).alloc _).alloc _).alloc _
  have r1 : Row W (w.heap.size + 1) 37 [.int .i64 x.side, .int .i64 x.low, .int .i64 x.high] := by
    subst hW
    have h := (((Row.new (w.alloc (.cells #[.int .i64 m.top, .int .i64 m.ease, .int .i64 m.jerk] 35)) 37 #[.int .i64 x.side, .int .i64 x.low, .int .i64 x.high]).alloc (.cells #[.int .i64 0, .int .i64 0, .int .i64 0] 24)).alloc (.cells #[.bool false] 4)).alloc (.cells #[.int .i64 0] 29)
    simpa only [World.size_alloc] using h
  have r2 : Row W (w.heap.size + 2) 24 [.int .i64 0, .int .i64 0, .int .i64 0] := by
    subst hW
    have h := ((Row.new ((w.alloc (.cells #[.int .i64 m.top, .int .i64 m.ease, .int .i64 m.jerk] 35)).alloc (.cells #[.int .i64 x.side, .int .i64 x.low, .int .i64 x.high] 37)) 24 #[.int .i64 0, .int .i64 0, .int .i64 0]).alloc (.cells #[.bool false] 4)).alloc (.cells #[.int .i64 0] 29)
    simpa only [World.size_alloc] using h
  have r3 : Row W (w.heap.size + 3) 4 [.bool false] := by
    subst hW
    have h := (Row.new (((w.alloc (.cells #[.int .i64 m.top, .int .i64 m.ease, .int .i64 m.jerk] 35)).alloc (.cells #[.int .i64 x.side, .int .i64 x.low, .int .i64 x.high] 37)).alloc (.cells #[.int .i64 0, .int .i64 0, .int .i64 0] 24)) 4 #[.bool false]).alloc (.cells #[.int .i64 0] 29)
    simpa only [World.size_alloc] using h
  have r4 : Row W (w.heap.size + 4) 29 [.int .i64 0] := by
    subst hW
    have h := Row.new ((((w.alloc (.cells #[.int .i64 m.top, .int .i64 m.ease, .int .i64 m.jerk] 35)).alloc (.cells #[.int .i64 x.side, .int .i64 x.low, .int .i64 x.high] 37)).alloc (.cells #[.int .i64 0, .int .i64 0, .int .i64 0] 24)).alloc (.cells #[.bool false] 4)) 29 #[.int .i64 0]
    simpa only [World.size_alloc] using h
  unfold motV limV
  refine (callsIn_wide (n := 8)).1 ?_
  refine callsIn_of_wp_marks Try.func20 rfl trivial ?_ rfl
  simp only [Try.ntmps20, List.size_toArray, List.length_cons, List.length_nil, Nat.reduceAdd, Nat.reduceSub, Array.replicate_succ, Array.replicate_zero, List.push_toArray, List.append_toArray, List.nil_append, List.cons_append]
  gi_wp2
  rw [← hW]
  clear hW
  refine ⟨trivial, ?_⟩
  refine (callsIn_wide.2 (checkLimited_any t m x A c B W (by omega) (hr.below (bW.mono hB)) hn)).mono ?_
  rintro e w1 ⟨rfl, hb1⟩
  have b1 := bW.trans (hb1.mono bW.size)
  have s0 := r0.below hb1 r0.lt
  have s1 := r1.below hb1 r1.lt
  have s2 := r2.below hb1 r2.lt
  have s3 := r3.below hb1 r3.lt
  have s4 := r4.below hb1 r4.lt
  have zz : w.heap.size + 5 ≤ w1.heap.size := by have := hb1.size; omega
  obtain ⟨q, hq⟩ : ∃ q, q = limE t m x := ⟨_, rfl⟩
  rw [← hq]
  have Hq := Lib.hid hq
  have bW' := bW
  clear hq r0 r1 r2 r3 r4 bW
  obtain ⟨f2, k0, k1, k2⟩ := Row.at_3 s2
  have l0 : w1.cell? ⟨w.heap.size + 3, 0, none⟩ = some (.bool false) := s3.cell (j := 0) (by simp)
  have l1 := s3.frozen 0
  have j0 : w1.cell? ⟨w.heap.size + 4, 0, none⟩ = some (.int .i64 0) := s4.cell (j := 0) (by simp)
  have j1 := s4.frozen 0
  obtain ⟨_, m0, m1, m2⟩ := Row.at_3 s0
  obtain ⟨_, x0, x1, x2⟩ := Row.at_3 s1
  by_cases h0 : q = 0
  case neg =>
    have h1 : (q != 0) = true := by simpa using h0
    gi_wp2
    obtain ⟨Z, hZ⟩ : ∃ Z, Z = (((((w1.setCell ⟨w.heap.size + 2, 0, none⟩ (.int .i64 0)).setCell ⟨w.heap.size + 2, 1, none⟩ (.int .i64 0)).setCell ⟨w.heap.size + 2, 2, none⟩ (.int .i64 0)).setCell ⟨w.heap.size + 3, 0, none⟩ (.bool false)).setCell ⟨w.heap.size + 4, 0, none⟩ (.int .i64 q)) := ⟨_, rfl⟩
    have bZ : Below w.heap.size w Z := by subst hZ; exact ((below_set3 b1 (by simp) _ _ _).setCell (by simp) _).setCell (by simp) _
    have t2 : Row Z (w.heap.size + 2) 24 [.int .i64 0, .int .i64 0, .int .i64 0] := by subst hZ; exact ((row_set3 s2 _ _ _).far (by simp) _).far (by simp) _
    have t3 : Row Z (w.heap.size + 3) 4 [.bool false] := by subst hZ; exact ((row_far3 s3 (by simp) _ _ _).set 0 _).far (by simp) _
    have t4 : Row Z (w.heap.size + 4) 29 [.int .i64 q] := by subst hZ; exact ((row_far3 s4 (by simp) _ _ _).far (by simp) _).set 0 _
    rw [show w.heap.size + 1 + 1 = w.heap.size + 2 from rfl, show w.heap.size + 2 + 1 = w.heap.size + 3 from rfl, show w.heap.size + 3 + 1 = w.heap.size + 4 from rfl]
    rw [← hZ]
    clear hZ
    obtain ⟨_, a0, a1, a2⟩ := Row.at_3 t2
    have a3 : Z.cell? ⟨w.heap.size + 3, 0, none⟩ = some (.bool false) := t3.cell (j := 0) (by simp)
    have a4 : Z.cell? ⟨w.heap.size + 4, 0, none⟩ = some (.int .i64 q) := t4.cell (j := 0) (by simp)
    refine ⟨.tuple #[.agg #[.int .i64 0, .int .i64 0, .int .i64 0], .bool false, .int .i64 q], by simp [results, Try.results20, go_sem, *], bZ, ?_⟩
    unfold keepS
    rw [← Hq.out, if_pos h0]
    rfl
  case pos =>
    subst h0
    have hE := limE_zero.1 Hq.out.symm
    obtain ⟨hpa, hmo, hli⟩ := hE
    have hmo' := (motB_iff m).1 hmo
    obtain ⟨p1, p2, p3⟩ := (pathB_iff t).1 hpa
    obtain ⟨V, hV⟩ : ∃ V, V = w1.alloc (.cells #[.slice A t.length c] 76) := ⟨_, rfl⟩
    have bV : Below w.heap.size w V := by subst hV; exact b1.alloc b1.size _
    have sV : V.heap.size = w1.heap.size + 1 := by subst hV; simp
    have bV1 : Below w1.heap.size w1 V := by subst hV; exact (Below.refl _ _).alloc (Nat.le_refl _) _
    have rV : Row V w1.heap.size 76 [.slice A t.length c] := by subst hV; exact Row.new w1 _ _
    have zz0 : w.heap.size < w1.heap.size := by omega
    have zz1 : w.heap.size + 1 < w1.heap.size := by omega
    gi_wp2
    rw [← hV]
    clear hV
    refine ⟨trivial, ?_⟩
    refine (callsIn_wide.2 (changes_any A t.length c m fails V)).mono ?_
    rintro e w3 ⟨rfl, hb3, z3, c0, c1, c2⟩
    gi_wp2
    obtain ⟨T, hT⟩ := Int.eq_ofNat_of_zero_le (show 0 ≤ m.top by omega)
    obtain ⟨sp, hsp⟩ := Int.eq_ofNat_of_zero_le (show 0 ≤ (if fails = true then m.jerk else m.ease) by split <;> omega)
    have hsp10 : sp ≤ 10 := by have : (sp : Int) ≤ 10 := by rw [← hsp]; split <;> omega
                               omega
    rw [sV] at z3
    have b3 := bV.trans (hb3.mono bV.size)
    have v1 := (s1.below bV1 s1.lt).below hb3 (by omega)
    have v2 := (s2.below bV1 s2.lt).below hb3 (by omega)
    have v3 := (s3.below bV1 s3.lt).below hb3 (by omega)
    have v4 := (s4.below bV1 s4.lt).below hb3 (by omega)
    have vt := rV.below hb3 rV.lt
    have d0 : w3.cell? ⟨w1.heap.size + 1, 0, none⟩ = some (.slice A t.length c) := by rw [← sV]; exact c0.cell (j := 0) (by simp)
    have d1 : w3.cell? ⟨w1.heap.size + 1 + 1, 0, none⟩ = some (.int .i64 (T : Int)) := by rw [← sV, ← hT]; exact c1.cell (j := 0) (by simp)
    have d2 : w3.cell? ⟨w1.heap.size + 1 + 1, 1, none⟩ = some (.int .i64 m.ease) := by rw [← sV]; exact c1.cell (j := 1) (by simp)
    have d3 : w3.cell? ⟨w1.heap.size + 1 + 1, 2, none⟩ = some (.int .i64 m.jerk) := by rw [← sV]; exact c1.cell (j := 2) (by simp)
    have d4 : w3.cell? ⟨w1.heap.size + 1 + 2, 0, none⟩ = some (.int .i64 (sp : Int)) := by rw [← sV, ← hsp]; exact c2.cell (j := 0) (by simp)
    have hr3 := hr.below (b3.mono hB)
    have hT10 : T ≤ 10 := by omega
    have HT := Lib.hid hT
    have Hsp := Lib.hid hsp
    clear hT hsp
    clear c0 c1 c2 s0 s1 s2 s3 s4 f2 k0 k1 k2 l0 l1 j0 j1 m0 m1 m2 x0 x1 x2 rV
    refine wpIn_rangeFunc_ownH rfl (by omega) (gf := 82) (lb := #[.pointer (some ⟨w1.heap.size + 1, 0, none⟩), .pointer (some ⟨w1.heap.size + 1 + 1, 0, none⟩), .pointer (some ⟨w1.heap.size + 1 + 2, 0, none⟩)]) rfl trivial (enters_of Try.func82 (by kernel_rfl) rfl)
      (changes_stops 7 (by omega) (w1.heap.size + 1) (w1.heap.size + 1 + 1) (w1.heap.size + 1 + 2) w3.heap.size A t.length c T sp m.ease m.jerk (by omega) hT10 hsp10 w3 (Nat.le_refl _) (by omega) (by omega) (by omega) d0 d1 d2 d3 d4)
      belowK_t (belowK_b (Nat.le_refl _)) (Below.refl _ _) (fun _ => rfl)
      (fun pre W => (∀ ch ∈ pre, keptB x (feltX t ch) = true) ∧ Below w3.heap.size w3 W)
      (fun cd pre W => cd = .ret ∧ (∃ pre' ch, pre = pre' ++ [ch] ∧ (∀ y ∈ pre', keptB x (feltX t y) = true) ∧ keptB x (feltX t ch) = false ∧ Row W (w.heap.size + 2) 24 [.int .i64 ch.ph, .int .i64 ch.bf, .int .i64 ch.af]) ∧ Row W (w.heap.size + 3) 4 [.bool false] ∧ Row W (w.heap.size + 4) 29 [.int .i64 0] ∧ Below w.heap.size w W)
      (OwnFrom.and (ownFrom_pure _ _) (ownFrom_below (Nat.le_refl _) (Nat.le_refl _)))
      (fun cd pre X Y row hs hg hr => by
        obtain ⟨h1, ⟨pre', ch, h2, h3, h4, h5⟩, h6, h7, h8⟩ := hs
        have hr2 := fun r e => (hr r e).2
        exact ⟨h1, ⟨pre', ch, h2, h3, h4, row_turn h5 hg hr2⟩, row_turn h6 hg hr2, row_turn h7 hg hr2, h8.grown hg h8.size fun k e => by have := (hr k e).1; have := b3.size; omega⟩)
      ⟨by simp, Below.refl _ _⟩
      (fun ch a' W => ∃ bx, w3.heap.size ≤ bx ∧ Row W bx 24 [.int .i64 ch.ph, .int .i64 ch.bf, .int .i64 ch.af] ∧ a' = { tmps := #[.slice A t.length c, .agg #[.int .i64 m.top, .int .i64 m.ease, .int .i64 m.jerk], .agg #[.int .i64 x.side, .int .i64 x.low, .int .i64 x.high], .bool fails, undef, .pointer (some ⟨w.heap.size, 0, none⟩), .pointer (some ⟨w.heap.size + 1, 0, none⟩), undef, .pointer (some ⟨w.heap.size + 1 + 1, 0, none⟩), .pointer (some ⟨w.heap.size + 1 + 1 + 1, 0, none⟩), .pointer (some ⟨w.heap.size + 1 + 1 + 1 + 1, 0, none⟩), .int .i64 0, .pointer (some ⟨w1.heap.size, 0, none⟩), .pointer (some ⟨bx, 0, none⟩), .slice A t.length c, .agg #[.int .i64 m.top, .int .i64 m.ease, .int .i64 m.jerk], .agg #[.int .i64 x.side, .int .i64 x.low, .int .i64 x.high], .int .i64 0, .int .i64 0, .bool false, undef, undef, .slice A t.length c, .slice A t.length c, .agg #[.int .i64 m.top, .int .i64 m.ease, .int .i64 m.jerk], .bool fails, .func (.func 82) #[] #[.pointer (some ⟨w1.heap.size + 1, 0, none⟩), .pointer (some ⟨w1.heap.size + 1 + 1, 0, none⟩), .pointer (some ⟨w1.heap.size + 1 + 2, 0, none⟩)], encC ch, undef, undef, undef, undef, undef, undef, undef, undef, undef], defers := [] })
      (fun ch a' _ X Y row hs hg hr => by obtain ⟨bx, h1, h2, h3⟩ := hs; exact ⟨bx, h1, row_turn h2 hg (fun r e => (hr r e).2), h3⟩)
      ?assign ?body ?done ?stop
    case assign =>
      rintro l pre ch Z K ⟨hI1, hI2⟩ hK
      unfold encC chgV
      gi_wp2
      exact hK _ _ ((KeepsOthers.alloc _ _).from _) ((Below.refl _ Z).alloc hI2.size _) ⟨hI1, hI2.alloc hI2.size _⟩ ⟨Z.heap.size, hI2.size, Row.new Z _ _, rfl⟩
    case body =>
      rintro l pre ch a' Z hl ⟨r, hrec⟩ ⟨hI1, hI2⟩ ⟨bx, hbx, rX, rfl⟩ hlt
      have bZ := b3.trans (hI2.mono b3.size)
      have u1 := (v1.below hI2 v1.lt).drew
      have u2 := (v2.below hI2 v2.lt).drew
      have u3 := (v3.below hI2 v3.lt).drew
      have u4 := (v4.below hI2 v4.lt).drew
      have ut := (vt.below hI2 vt.lt).drew
      have uX := rX.drew
      have hrZ : Reads Z.drew B 3 A t.length (ptCells t) := (hr3.below (hI2.mono (by have := b3.size; omega))).keep fun _ _ => rfl
      have zB : B ≤ Z.drew.heap.size := by have h1 := hI2.size; have h2 := b3.size; show B ≤ Z.heap.size; omega
      have zl : w.heap.size + 1 < Z.drew.heap.size := u1.lt
      obtain ⟨_, i0, i1, i2⟩ := Row.at_3 u1
      obtain ⟨_, e0, e1, e2⟩ := Row.at_3 uX
      have tr0 : Z.drew.cell? ⟨w1.heap.size, 0, none⟩ = some (.slice A t.length c) := ut.cell (j := 0) (by simp)
      obtain ⟨p, hp⟩ : ∃ p, p = feltX t ch := ⟨_, rfl⟩
      have hfe : feltB p = true := by rw [hp]; exact feltX_bd hpa ch
      have hmx : Try.prog.follows .mixedOrders = true := by kernel_rfl
      have hd : 1 ≤ 8 - 1 - 1 := by omega
      have Hp := Lib.hid hp
      clear hp
      cases hk : keptB x p with
      | true =>
        gi_wp2
        gi_region_with_o (first
          | (refine ⟨trivial, ?_⟩; gi_at_call 48; refine (CallsIn.inRound l (callsIn_wide.2 (feltX_at p t ch Hp.out A c B _ zB hrZ hpa))).mono ?_; rintro e y1 ⟨rfl, hy1⟩; have rl1 := u1.below hy1 u1.lt; obtain ⟨_, i0, i1, i2⟩ := Row.at_3 rl1; have zy := rl1.lt; unfold ptV)
          | (refine ⟨trivial, ?_⟩; gi_at_call 54; refine (CallsIn.inRound l (callsIn_wide.2 (firstBeyond_new x p hli hfe (-1) (by rw [hk]; rfl) _ _ _ rfl))).mono ?_; rintro e y2 ⟨rfl, hy2⟩))
        all_goals gi_wp2
        all_goals
          have hby := (below_drewN_out hy1).trans (hy2.mono hy1.size)
          refine ⟨(others_below hby).from _, hby.mono hI2.size, fun y hy => ?_, hI2.trans (hby.mono hI2.size)⟩
          rcases List.mem_append.1 hy with hy | hy
          · exact hI1 y hy
          · obtain rfl : y = ch := by simpa using hy
            rw [← Hp.out]
            exact hk
      | false =>
        gi_wp2
        gi_region_with_o (first
          | (refine ⟨trivial, ?_⟩; gi_at_call 48; refine (CallsIn.inRound l (callsIn_wide.2 (feltX_at p t ch Hp.out A c B _ zB hrZ hpa))).mono ?_; rintro e y1 ⟨rfl, hy1⟩; have rl1 := u1.below hy1 u1.lt; obtain ⟨_, i0, i1, i2⟩ := Row.at_3 rl1; have zy := rl1.lt; unfold ptV)
          | (refine ⟨trivial, ?_⟩; gi_at_call 54; refine (CallsIn.inRound l (callsIn_wide.2 (firstBeyond_new x p hli hfe 0 (by rw [hk]; rfl) _ _ _ rfl))).mono ?_; rintro e y2 ⟨rfl, hy2⟩; have hby := (below_drewN_out hy1).trans (hy2.mono hy1.size); have xX := rX.below hby rX.lt; have x2 := (v2.below hI2 v2.lt).below hby (by have := v2.lt; have := hI2.size; omega); have x3 := (v3.below hI2 v3.lt).below hby (by have := v3.lt; have := hI2.size; omega); have x4 := (v4.below hI2 v4.lt).below hby (by have := v4.lt; have := hI2.size; omega); obtain ⟨_, e0, e1, e2⟩ := Row.at_3 xX; obtain ⟨f2, k0, k1, k2⟩ := Row.at_3 x2; have l0 : y2.cell? ⟨w.heap.size + 3, 0, none⟩ = some (.bool false) := x3.cell (j := 0) (by simp); have l1 := x3.frozen 0; have j0 : y2.cell? ⟨w.heap.size + 4, 0, none⟩ = some (.int .i64 0) := x4.cell (j := 0) (by simp); have j1 := x4.frozen 0))
        all_goals gi_wp2
        all_goals
          have bz2 := bZ.trans (hby.mono bZ.size)
          have k5 := ((KeepsOthers.setCell y2 ⟨w.heap.size + 2, 0, none⟩ (.int .i64 ch.ph)).trans ((KeepsOthers.setCell _ ⟨w.heap.size + 2, 1, none⟩ (.int .i64 ch.bf)).trans ((KeepsOthers.setCell _ ⟨w.heap.size + 2, 2, none⟩ (.int .i64 ch.af)).trans ((KeepsOthers.setCell _ ⟨w.heap.size + 3, 0, none⟩ (.bool false)).trans (KeepsOthers.setCell _ ⟨w.heap.size + 4, 0, none⟩ (.int .i64 0))))))
          have q2 := ((row_set3 x2 (.int .i64 ch.ph) (.int .i64 ch.bf) (.int .i64 ch.af)).far (p := ⟨w.heap.size + 3, 0, none⟩) (by simp) (.bool false)).far (p := ⟨w.heap.size + 4, 0, none⟩) (by simp) (.int .i64 0)
          have q3 := ((row_far3 (g := w.heap.size + 2) x3 (by simp) (.int .i64 ch.ph) (.int .i64 ch.bf) (.int .i64 ch.af)).set 0 (.bool false)).far (p := ⟨w.heap.size + 4, 0, none⟩) (by simp) (.int .i64 0)
          have q4 := ((row_far3 (g := w.heap.size + 2) x4 (by simp) (.int .i64 ch.ph) (.int .i64 ch.bf) (.int .i64 ch.af)).far (p := ⟨w.heap.size + 3, 0, none⟩) (by simp) (.bool false)).set 0 (.int .i64 0)
          have q5 := ((below_set3 (g := w.heap.size + 2) bz2 (by simp) (.int .i64 ch.ph) (.int .i64 ch.bf) (.int .i64 ch.af)).setCell (p := ⟨w.heap.size + 3, 0, none⟩) (by simp) (.bool false)).setCell (p := ⟨w.heap.size + 4, 0, none⟩) (by simp) (.int .i64 0)
          exact ⟨((others_below hby).trans k5).from _, rfl, ⟨pre, ch, rfl, hI1, by rw [← Hp.out]; exact hk, q2⟩, q3, q4, q5⟩
    case done =>
      rintro D ys Z hD rfl ⟨hI1, hI2⟩ hK
      have bZ := b3.trans (hI2.mono b3.size)
      have u2 := v2.below hI2 v2.lt
      have u3 := v3.below hI2 v3.lt
      have u4 := v4.below hI2 v4.lt
      obtain ⟨f2, k0, k1, k2⟩ := Row.at_3 u2
      have l0 : Z.cell? ⟨w.heap.size + 3, 0, none⟩ = some (.bool false) := u3.cell (j := 0) (by simp)
      have l1 := u3.frozen 0
      have j0 : Z.cell? ⟨w.heap.size + 4, 0, none⟩ = some (.int .i64 0) := u4.cell (j := 0) (by simp)
      have j1 := u4.frozen 0
      gi_wp2
      refine keeps_end (ch := ⟨0, 0, 0⟩) (b := true) ?_ (by have := b3.size; omega) (((row_set3 u2 _ _ _).far (by simp) _).far (by simp) _) (((row_far3 u3 (by simp) _ _ _).set 0 _).far (by simp) _) (((row_far3 u4 (by simp) _ _ _).far (by simp) _).set 0 _) (((below_set3 bZ (by simp) _ _ _).setCell (by simp) _).setCell (by simp) _) ?_ _ rfl rfl rfl
      · exact ((KeepsOthers.setCell _ _ _).trans ((KeepsOthers.setCell _ _ _).trans ((KeepsOthers.setCell _ _ _).trans ((KeepsOthers.setCell _ _ _).trans (KeepsOthers.setCell _ _ _))))).same D _ hK rfl
      · unfold keepS
        rw [if_neg (by rw [← Hq.out]; simp)]
        have e := keeps_all (x := x) (by omega) hT10 hI1
        rw [show m.top.toNat = T from by rw [HT.out]; rfl, show (stepOf m fails).toNat = sp from by unfold stepOf; rw [Hsp.out]; rfl, e]
    case stop =>
      rintro D cd pre Z hD hpre ⟨rfl, ⟨pre', ch, rfl, h3, h4, h5⟩, h6, h7, h8⟩ hK
      gi_wp2
      refine keeps_end (ch := ch) (b := false) hK (by have := b3.size; omega) h5 h6 h7 h8 ?_ _ rfl rfl rfl
      unfold keepS
      rw [if_neg (by rw [← Hq.out]; simp)]
      have e := keeps_first (x := x) (by omega) hT10 hpre h3 h4
      rw [show m.top.toNat = T from by rw [HT.out]; rfl, show (stepOf m fails).toNat = sp from by unfold stepOf; rw [Hsp.out]; rfl, e]
end Go.Proofs.Ytkmiapfkebdpbaa
