/- Contracts of queue's Held, Home, Takes, Lines. Conditions: the evening and the groups read as data. -/
import Derived.Test.YtijbhcdnbaaobaaJy
/- Contract of queue's numbers of groups and of rides. Conditions: the evening lies in memory; the function told only reads. -/
namespace Go.Proofs.Ytijbhcdnbaaobaa
open Go.RowKit

theorem nowns_nil (w : World) (base : Nat) (e : TypeId) (size : Nat) : w.ownsRow base e size (.slice none 0 0) 0 [] := ⟨by simp, .inl ⟨rfl, rfl⟩⟩
theorem nown_reads {w : World} {base : Nat} {e : TypeId} {size n : Nat} {v : Value} {xs : List Value} (h : w.ownsRow base e size v n xs) : ∃ A c, v = .slice A n c ∧ Reads w w.heap.size size A n xs := by
  rcases Nat.eq_zero_or_pos n with h0 | h0
  · subst h0
    have hx : xs = [] := List.eq_nil_of_length_eq_zero (by simpa using h.1)
    subst hx
    rcases h.2 with ⟨rfl, _⟩ | ⟨g, cap, cur, rfl, _⟩
    · exact ⟨none, 0, rfl, ⟨by simp, fun h => absurd h (by omega)⟩⟩
    · exact ⟨_, _, rfl, ⟨by simp, fun h => absurd h (by omega)⟩⟩
  · obtain ⟨g, cap, rfl, _, hlt⟩ := World.ownsRow.form h h0
    exact ⟨_, _, rfl, (Row.of_own h).1.reads h.1 hlt⟩
/-- A list of numbers in memory of the call's own. -/
def NumTo (w : World) (l : List Int) (e : Ending) (w' : World) : Prop := Below w.heap.size w w' ∧ ∃ A c, e = .returned (.slice A l.length c) ∧ Reads w' w'.heap.size 1 A l.length (l.map (Value.int .i64))
/-- The relation of the loop: the slice holds the first k numbers. -/
def NumRel (w : World) (l : List Int) (v i : Value) (wr : World) : Prop :=
  ∃ k : Nat, k ≤ l.length ∧ i = .int .i64 k ∧ wr.ownsRow w.heap.size 3 1 v k ((l.take k).map (Value.int .i64)) ∧ Below w.heap.size w wr

def groupV (E : EvE) (s : EvS) (_ : Nat → Value) (k : Nat) : Value := .agg #[.int .i64 (s.grp k).g.at_, .int .i64 (s.grp k).g.size, .int .i64 (s.grp k).tok, .slice (E.ref k).1 (s.grp k).g.wants.length (E.ref k).2, .int .i64 (s.grp k).g.patience, .int .i64 (s.grp k).place, .int .i64 (s.grp k).til, .int .i64 (s.grp k).want, .int .i64 (s.grp k).came, .int .i64 (s.grp k).home]
set_option maxHeartbeats 2000000 in
set_option maxRecDepth 100000 in
theorem numbers_group {E : EvE} {w : World} {s : EvS} {qs : Nat → Value} {uv : Value} (h : EvIn E w s qs uv) (hm : s.groups.length ≤ 60) (fid : FuncId) (num : GpS → Int)
    (hfid : ∀ a w, Sem.run Try.prog (callFunc fid a) w = Result.ok (Next.enter fid a) w)
    (hsee : ∀ k, k < s.groups.length → ∀ X, Calls Try.prog fid #[groupV E s qs k] X fun e w' => e = .returned (.int .i64 (num (s.grp k))) ∧ Below X.heap.size X w') :
    Calls Try.prog 51 #[.slice (slA E.G s.groups.length) s.groups.length E.cG, .func (.func fid) #[] #[]] w (NumTo w (s.groups.map num)) := by
  obtain ⟨i0, hi, hz0, hz1, hz2⟩ := info_parts Try.info_int
  have HE := Lib.hid h
  have Hs : Hid (∀ k, k < s.groups.length → ∀ X, Calls Try.prog fid (#[groupV E s qs k] ++ #[]) X fun e w' => e = .returned (.int .i64 (num (s.grp k))) ∧ Below X.heap.size X w') := hsee
  obtain ⟨l, hl⟩ : ∃ l, l = s.groups.map num := ⟨_, rfl⟩
  obtain ⟨n, hn⟩ : ∃ n, n = s.groups.length := ⟨_, rfl⟩
  have hln : l.length = n := by rw [hl, hn, List.length_map]
  have HL : Hid (∀ k, k < n → (l.take (k + 1)).map (Value.int .i64) = (l.take k).map (Value.int .i64) ++ [.int .i64 (num (s.grp k))]) := fun k hk => by
    have hk' : k < l.length := by omega
    rw [List.take_succ_eq_append_getElem hk', List.map_append]
    congr 1
    have hk2 : k < s.groups.length := by omega
    simp only [List.map_cons, List.map_nil, hl, List.getElem_map]
    congr 2
    unfold EvS.grp
    rw [List.getD_eq_getElem?_getD, List.getElem?_eq_getElem hk2]
    rfl
  have HN := Lib.hid hn
  rw [← hl, ← hn]
  rw [← hn] at hm
  clear hl hn h hsee
  go_enter Try.func51, Try.ntmps51
  go_wp2_with fail
  go_loopw [5, 10] (fun v i wr => NumRel w l v i wr) (fun _ i _ => n - (intOf i).toNat)
  case atStart => exact ⟨0, Nat.zero_le _, rfl, nowns_nil _ _ _ _, Below.refl _ _⟩
  case round =>
    obtain ⟨k, hk, rfl, hown, hbel⟩ := hrel
    by_cases hlt : k < n
    · have hlt' : (k : Int) < (n : Int) := by omega
      have hlt2 : k < s.groups.length := by rw [← HN.out]; exact hlt
      have hg := HE.out.grow hbel
      have hks := (hg.gp (by omega))
      have k0 := hks.cell0 hlt2 (by omega)
      have k1 := hks.cell hlt2 (j := 1) (by omega)
      have k2 := hks.cell hlt2 (j := 2) (by omega)
      have k3 := hks.cell hlt2 (j := 3) (by omega)
      have k4 := hks.cell hlt2 (j := 4) (by omega)
      have k5 := hks.cell hlt2 (j := 5) (by omega)
      have k6 := hks.cell hlt2 (j := 6) (by omega)
      have k7 := hks.cell hlt2 (j := 7) (by omega)
      have k8 := hks.cell hlt2 (j := 8) (by omega)
      have k9 := hks.cell hlt2 (j := 9) (by omega)
      have lG := hks.lt
      have hsl : slA E.G n = some ⟨E.G, 0, none⟩ := slA_pos (by omega)
      rw [hsl]
      simp only [gpV] at k0 k1 k2 k3 k4 k5 k6 k7 k8 k9
      have hs := hbel.size
      have Hsk := Hs.out k hlt2
      unfold groupV at Hsk
      skip
      have HSK := Lib.hid Hsk
      clear Hsk
      clear hg hks hsl
      go_upto_region 5 with (fail)
      obtain ⟨X, hX⟩ : ∃ X, X = wr.alloc (.cells #[.int .i64 (s.grp k).g.at_, .int .i64 (s.grp k).g.size, .int .i64 (s.grp k).tok, .slice (E.ref k).1 (s.grp k).g.wants.length (E.ref k).2, .int .i64 (s.grp k).g.patience, .int .i64 (s.grp k).place, .int .i64 (s.grp k).til, .int .i64 (s.grp k).want, .int .i64 (s.grp k).came, .int .i64 (s.grp k).home] 79) := ⟨_, rfl⟩
      rw [← hX]
      have rX : Row X wr.heap.size 79 [.int .i64 (s.grp k).g.at_, .int .i64 (s.grp k).g.size, .int .i64 (s.grp k).tok, .slice (E.ref k).1 (s.grp k).g.wants.length (E.ref k).2, .int .i64 (s.grp k).g.patience, .int .i64 (s.grp k).place, .int .i64 (s.grp k).til, .int .i64 (s.grp k).want, .int .i64 (s.grp k).came, .int .i64 (s.grp k).home] := by subst hX; exact Row.new wr _ _
      have oX : X.ownsRow w.heap.size 3 1 u5 k ((l.take k).map (Value.int .i64)) := by subst hX; exact own_keep hown ((Below.refl _ wr).alloc (Nat.le_refl _) _)
      have bX : Below w.heap.size w X := by subst hX; exact hbel.alloc hbel.size _
      have sX : wr.heap.size < X.heap.size := rX.lt
      clear hX hown hbel k0 k1 k2 k3 k4 k5 k6 k7 k8 k9
      have k0 : X.cell? ⟨wr.heap.size, 0, none⟩ = some (.int .i64 (s.grp k).g.at_) := rX.cell (j := 0) (by simp)
      have k1 : X.cell? ⟨wr.heap.size, 1, none⟩ = some (.int .i64 (s.grp k).g.size) := rX.cell (j := 1) (by simp)
      have k2 : X.cell? ⟨wr.heap.size, 2, none⟩ = some (.int .i64 (s.grp k).tok) := rX.cell (j := 2) (by simp)
      have k3 : X.cell? ⟨wr.heap.size, 3, none⟩ = some (.slice (E.ref k).1 (s.grp k).g.wants.length (E.ref k).2) := rX.cell (j := 3) (by simp)
      have k4 : X.cell? ⟨wr.heap.size, 4, none⟩ = some (.int .i64 (s.grp k).g.patience) := rX.cell (j := 4) (by simp)
      have k5 : X.cell? ⟨wr.heap.size, 5, none⟩ = some (.int .i64 (s.grp k).place) := rX.cell (j := 5) (by simp)
      have k6 : X.cell? ⟨wr.heap.size, 6, none⟩ = some (.int .i64 (s.grp k).til) := rX.cell (j := 6) (by simp)
      have k7 : X.cell? ⟨wr.heap.size, 7, none⟩ = some (.int .i64 (s.grp k).want) := rX.cell (j := 7) (by simp)
      have k8 : X.cell? ⟨wr.heap.size, 8, none⟩ = some (.int .i64 (s.grp k).came) := rX.cell (j := 8) (by simp)
      have k9 : X.cell? ⟨wr.heap.size, 9, none⟩ = some (.int .i64 (s.grp k).home) := rX.cell (j := 9) (by simp)
      have oHX := Lib.hid oX
      have bHX := Lib.hid bX
      clear rX oX bX
      have m1 : k + 1 ≤ maxLen := by unfold maxLen; omega
      have m2 : (k + 1) * 8 ≤ 140737488355328 := by omega
      go_wp2_with fail
      refine (HSK.out _).mono ?_
      rintro e Y ⟨rfl, hY⟩
      have oY := own_keep oHX.out hY
      have bY := bHX.out.trans (hY.mono bHX.out.size)
      have En := Lib.hid (HL.out k hlt)
      generalize num (s.grp k) = z at En ⊢
      clear k0 k1 k2 k3 k4 k5 k6 k7 k8 k9 oHX bHX sX lG hY
      have oZ := own_keep oY ((Below.refl _ Y).alloc (Nat.le_refl _) (.cells #[.int .i64 z] 3))
      have bZ := bY.alloc bY.size (.cells #[.int .i64 z] 3)
      have m3 := bZ.size
      have HbZ := Lib.hid bZ
      clear oY bY bZ
      go_wp2_with (at_builtin; refine wpList_append_own_at _ rfl _ _ 37 rfl w.heap.size 3 i0 (.int .i64 0) 1 8 Try.underlying37 hi hz0 hz1 hz2 rfl (by decide) u5 k ((l.take k).map (Value.int .i64)) rfl oZ ⟨Y.heap.size, 0, none⟩ 1 1 [.int .i64 z] rfl rfl (cell_one_new _ _ _) ?q1 m1 m2 m3 ?_)
      case q1 => intro u hu; simp at hu; subst hu; rfl
      intro u U ho hU hnil hat
      have hbU : Below w.heap.size w U := HbZ.out.grown hU HbZ.out.size fun g hg => (oZ.lt g hg).1
      go_wp2_with fail
      go_roundw
      case rel => exact ⟨k + 1, by omega, by go_num, by rw [En.out, List.map_take]; exact ho, hbU⟩
      case measure => simp [intOf]; omega
    · have hge : ¬ (k : Int) < (n : Int) := by omega
      have ek : k = n := by omega
      have Hk := Lib.hid ek
      clear ek
      go_wp2_with fail
      go_ret
      obtain ⟨A, c, hv, hr⟩ := nown_reads hown
      rw [Hk.out, ← hln, List.take_length] at hr
      rw [Hk.out, ← hln] at hv
      exact ⟨hbel, A, c, by rw [hv]; rfl, hr⟩

def rideV (_ : EvE) (s : EvS) (qs : Nat → Value) (k : Nat) : Value := .agg #[.int .i64 (s.rd k).b.seats, .int .i64 (s.rd k).b.price, .int .i64 (s.rd k).b.cycle, .int .i64 (s.rd k).b.pause, .bool (s.rd k).b.fill, (qs k), .int .i64 (s.rd k).ready, .int .i64 (s.rd k).taken, .int .i64 (s.rd k).longest]
set_option maxHeartbeats 2000000 in
set_option maxRecDepth 100000 in
theorem numbers_ride {E : EvE} {w : World} {s : EvS} {qs : Nat → Value} {uv : Value} (h : EvIn E w s qs uv) (hm : s.rides.length ≤ 60) (fid : FuncId) (num : RdS → Int)
    (hfid : ∀ a w, Sem.run Try.prog (callFunc fid a) w = Result.ok (Next.enter fid a) w)
    (hsee : ∀ k, k < s.rides.length → ∀ X, Calls Try.prog fid #[rideV E s qs k] X fun e w' => e = .returned (.int .i64 (num (s.rd k))) ∧ Below X.heap.size X w') :
    Calls Try.prog 53 #[.slice (slA E.R s.rides.length) s.rides.length E.cR, .func (.func fid) #[] #[]] w (NumTo w (s.rides.map num)) := by
  obtain ⟨i0, hi, hz0, hz1, hz2⟩ := info_parts Try.info_int
  have HE := Lib.hid h
  have Hs : Hid (∀ k, k < s.rides.length → ∀ X, Calls Try.prog fid (#[rideV E s qs k] ++ #[]) X fun e w' => e = .returned (.int .i64 (num (s.rd k))) ∧ Below X.heap.size X w') := hsee
  obtain ⟨l, hl⟩ : ∃ l, l = s.rides.map num := ⟨_, rfl⟩
  obtain ⟨n, hn⟩ : ∃ n, n = s.rides.length := ⟨_, rfl⟩
  have hln : l.length = n := by rw [hl, hn, List.length_map]
  have HL : Hid (∀ k, k < n → (l.take (k + 1)).map (Value.int .i64) = (l.take k).map (Value.int .i64) ++ [.int .i64 (num (s.rd k))]) := fun k hk => by
    have hk' : k < l.length := by omega
    rw [List.take_succ_eq_append_getElem hk', List.map_append]
    congr 1
    have hk2 : k < s.rides.length := by omega
    simp only [List.map_cons, List.map_nil, hl, List.getElem_map]
    congr 2
    unfold EvS.rd
    rw [List.getD_eq_getElem?_getD, List.getElem?_eq_getElem hk2]
    rfl
  have HN := Lib.hid hn
  rw [← hl, ← hn]
  rw [← hn] at hm
  clear hl hn h hsee
  go_enter Try.func53, Try.ntmps53
  go_wp2_with fail
  go_loopw [5, 10] (fun v i wr => NumRel w l v i wr) (fun _ i _ => n - (intOf i).toNat)
  case atStart => exact ⟨0, Nat.zero_le _, rfl, nowns_nil _ _ _ _, Below.refl _ _⟩
  case round =>
    obtain ⟨k, hk, rfl, hown, hbel⟩ := hrel
    by_cases hlt : k < n
    · have hlt' : (k : Int) < (n : Int) := by omega
      have hlt2 : k < s.rides.length := by rw [← HN.out]; exact hlt
      have hg := HE.out.grow hbel
      have hks := (hg.rd (by omega))
      have k0 := hks.cell0 hlt2 (by omega)
      have k1 := hks.cell hlt2 (j := 1) (by omega)
      have k2 := hks.cell hlt2 (j := 2) (by omega)
      have k3 := hks.cell hlt2 (j := 3) (by omega)
      have k4 := hks.cell hlt2 (j := 4) (by omega)
      have k5 := hks.cell hlt2 (j := 5) (by omega)
      have k6 := hks.cell hlt2 (j := 6) (by omega)
      have k7 := hks.cell hlt2 (j := 7) (by omega)
      have k8 := hks.cell hlt2 (j := 8) (by omega)
      have lG := hks.lt
      have hsl : slA E.R n = some ⟨E.R, 0, none⟩ := slA_pos (by omega)
      rw [hsl]
      simp only [rdV] at k0 k1 k2 k3 k4 k5 k6 k7 k8
      have hs := hbel.size
      have Hsk := Hs.out k hlt2
      unfold rideV at Hsk
      obtain ⟨qA, qc, hq⟩ := own_slice (hg.q k hlt2)
      rw [hq] at k5 Hsk
      clear hq
      have HSK := Lib.hid Hsk
      clear Hsk
      clear hg hks hsl
      go_upto_region 5 with (fail)
      obtain ⟨X, hX⟩ : ∃ X, X = wr.alloc (.cells #[.int .i64 (s.rd k).b.seats, .int .i64 (s.rd k).b.price, .int .i64 (s.rd k).b.cycle, .int .i64 (s.rd k).b.pause, .bool (s.rd k).b.fill, .slice qA (s.rd k).q.length qc, .int .i64 (s.rd k).ready, .int .i64 (s.rd k).taken, .int .i64 (s.rd k).longest] 89) := ⟨_, rfl⟩
      rw [← hX]
      have rX : Row X wr.heap.size 89 [.int .i64 (s.rd k).b.seats, .int .i64 (s.rd k).b.price, .int .i64 (s.rd k).b.cycle, .int .i64 (s.rd k).b.pause, .bool (s.rd k).b.fill, .slice qA (s.rd k).q.length qc, .int .i64 (s.rd k).ready, .int .i64 (s.rd k).taken, .int .i64 (s.rd k).longest] := by subst hX; exact Row.new wr _ _
      have oX : X.ownsRow w.heap.size 3 1 u5 k ((l.take k).map (Value.int .i64)) := by subst hX; exact own_keep hown ((Below.refl _ wr).alloc (Nat.le_refl _) _)
      have bX : Below w.heap.size w X := by subst hX; exact hbel.alloc hbel.size _
      have sX : wr.heap.size < X.heap.size := rX.lt
      clear hX hown hbel k0 k1 k2 k3 k4 k5 k6 k7 k8
      have k0 : X.cell? ⟨wr.heap.size, 0, none⟩ = some (.int .i64 (s.rd k).b.seats) := rX.cell (j := 0) (by simp)
      have k1 : X.cell? ⟨wr.heap.size, 1, none⟩ = some (.int .i64 (s.rd k).b.price) := rX.cell (j := 1) (by simp)
      have k2 : X.cell? ⟨wr.heap.size, 2, none⟩ = some (.int .i64 (s.rd k).b.cycle) := rX.cell (j := 2) (by simp)
      have k3 : X.cell? ⟨wr.heap.size, 3, none⟩ = some (.int .i64 (s.rd k).b.pause) := rX.cell (j := 3) (by simp)
      have k4 : X.cell? ⟨wr.heap.size, 4, none⟩ = some (.bool (s.rd k).b.fill) := rX.cell (j := 4) (by simp)
      have k5 : X.cell? ⟨wr.heap.size, 5, none⟩ = some (.slice qA (s.rd k).q.length qc) := rX.cell (j := 5) (by simp)
      have k6 : X.cell? ⟨wr.heap.size, 6, none⟩ = some (.int .i64 (s.rd k).ready) := rX.cell (j := 6) (by simp)
      have k7 : X.cell? ⟨wr.heap.size, 7, none⟩ = some (.int .i64 (s.rd k).taken) := rX.cell (j := 7) (by simp)
      have k8 : X.cell? ⟨wr.heap.size, 8, none⟩ = some (.int .i64 (s.rd k).longest) := rX.cell (j := 8) (by simp)
      have oHX := Lib.hid oX
      have bHX := Lib.hid bX
      clear rX oX bX
      have m1 : k + 1 ≤ maxLen := by unfold maxLen; omega
      have m2 : (k + 1) * 8 ≤ 140737488355328 := by omega
      go_wp2_with fail
      refine (HSK.out _).mono ?_
      rintro e Y ⟨rfl, hY⟩
      have oY := own_keep oHX.out hY
      have bY := bHX.out.trans (hY.mono bHX.out.size)
      have En := Lib.hid (HL.out k hlt)
      generalize num (s.rd k) = z at En ⊢
      clear k0 k1 k2 k3 k4 k5 k6 k7 k8 oHX bHX sX lG hY
      have oZ := own_keep oY ((Below.refl _ Y).alloc (Nat.le_refl _) (.cells #[.int .i64 z] 3))
      have bZ := bY.alloc bY.size (.cells #[.int .i64 z] 3)
      have m3 := bZ.size
      have HbZ := Lib.hid bZ
      clear oY bY bZ
      go_wp2_with (at_builtin; refine wpList_append_own_at _ rfl _ _ 37 rfl w.heap.size 3 i0 (.int .i64 0) 1 8 Try.underlying37 hi hz0 hz1 hz2 rfl (by decide) u5 k ((l.take k).map (Value.int .i64)) rfl oZ ⟨Y.heap.size, 0, none⟩ 1 1 [.int .i64 z] rfl rfl (cell_one_new _ _ _) ?q1 m1 m2 m3 ?_)
      case q1 => intro u hu; simp at hu; subst hu; rfl
      intro u U ho hU hnil hat
      have hbU : Below w.heap.size w U := HbZ.out.grown hU HbZ.out.size fun g hg => (oZ.lt g hg).1
      go_wp2_with fail
      go_roundw
      case rel => exact ⟨k + 1, by omega, by go_num, by rw [En.out, List.map_take]; exact ho, hbU⟩
      case measure => simp [intOf]; omega
    · have hge : ¬ (k : Int) < (n : Int) := by omega
      have ek : k = n := by omega
      have Hk := Lib.hid ek
      clear ek
      go_wp2_with fail
      go_ret
      obtain ⟨A, c, hv, hr⟩ := nown_reads hown
      rw [Hk.out, ← hln, List.take_length] at hr
      rw [Hk.out, ← hln] at hv
      exact ⟨hbel, A, c, by rw [hv]; rfl, hr⟩

theorem Held1_any (E : EvE) (s : EvS) (qs : Nat → Value) (k : Nat) (X : World) : Calls Try.prog 52 #[groupV E s qs k] X fun e w' => e = .returned (.int .i64 (s.grp k).tok) ∧ Below X.heap.size X w' := by
  have HB := Lib.hid (Below.refl X.heap.size X)
  unfold groupV
  skip
  go_enter Try.func52, Try.ntmps52
  go_wp2_with fail
  go_ret
  exact ⟨rfl, HB.out.alloc (Nat.le_refl _) _⟩
theorem Held1_enters : ∀ a w, Sem.run Try.prog (callFunc 52 a) w = Result.ok (Next.enter 52 a) w := fun a w => enters_of Try.func52 (by kernel_rfl) rfl a w

theorem Home1_any (E : EvE) (s : EvS) (qs : Nat → Value) (k : Nat) (X : World) : Calls Try.prog 57 #[groupV E s qs k] X fun e w' => e = .returned (.int .i64 (s.grp k).home) ∧ Below X.heap.size X w' := by
  have HB := Lib.hid (Below.refl X.heap.size X)
  unfold groupV
  skip
  go_enter Try.func57, Try.ntmps57
  go_wp2_with fail
  go_ret
  exact ⟨rfl, HB.out.alloc (Nat.le_refl _) _⟩
theorem Home1_enters : ∀ a w, Sem.run Try.prog (callFunc 57 a) w = Result.ok (Next.enter 57 a) w := fun a w => enters_of Try.func57 (by kernel_rfl) rfl a w

theorem takes1_any (E : EvE) (s : EvS) (qs : Nat → Value) (k : Nat) (X : World) (hq : ∃ A m c, qs k = .slice A m c) : Calls Try.prog 68 #[rideV E s qs k] X fun e w' => e = .returned (.int .i64 (s.rd k).taken) ∧ Below X.heap.size X w' := by
  have HB := Lib.hid (Below.refl X.heap.size X)
  unfold rideV
  obtain ⟨qA, qm, qc, hq⟩ := hq
  rw [hq]
  clear hq
  go_enter Try.func68, Try.ntmps68
  go_wp2_with fail
  go_ret
  exact ⟨rfl, HB.out.alloc (Nat.le_refl _) _⟩
theorem takes1_enters : ∀ a w, Sem.run Try.prog (callFunc 68 a) w = Result.ok (Next.enter 68 a) w := fun a w => enters_of Try.func68 (by kernel_rfl) rfl a w

theorem Lines1_any (E : EvE) (s : EvS) (qs : Nat → Value) (k : Nat) (X : World) (hq : ∃ A m c, qs k = .slice A m c) : Calls Try.prog 54 #[rideV E s qs k] X fun e w' => e = .returned (.int .i64 (s.rd k).longest) ∧ Below X.heap.size X w' := by
  have HB := Lib.hid (Below.refl X.heap.size X)
  unfold rideV
  obtain ⟨qA, qm, qc, hq⟩ := hq
  rw [hq]
  clear hq
  go_enter Try.func54, Try.ntmps54
  go_wp2_with fail
  go_ret
  exact ⟨rfl, HB.out.alloc (Nat.le_refl _) _⟩
theorem Lines1_enters : ∀ a w, Sem.run Try.prog (callFunc 54 a) w = Result.ok (Next.enter 54 a) w := fun a w => enters_of Try.func54 (by kernel_rfl) rfl a w
end Go.Proofs.Ytijbhcdnbaaobaa
namespace Go.Proofs.Ytijbhcdnbaaobaa
open Go.RowKit

/-- A list of numbers in memory of the call's own, and an error. -/
def ListTo (w : World) (l : List Int) (c : Int) (e : Ending) (w' : World) : Prop := Below w.heap.size w w' ∧ ∃ A cc, e = .returned (.tuple #[.slice A l.length cc, .int .i64 c]) ∧ Reads w' w'.heap.size 1 A l.length (l.map (Value.int .i64))
theorem reads_none (w : World) (B size : Nat) : Reads w B size none 0 [] := ⟨by simp, fun h => absurd h (by omega)⟩
theorem eve_lens {f : EveZ} {l : List GrpZ} (hc : checkQ f l = 0) : (eveS f l).groups.length = l.length ∧ (eveS f l).rides.length = f.rides.length ∧ l.length ≤ 60 ∧ f.rides.length ≤ 8 := by
  obtain ⟨h1, h2⟩ := checkQ_ok.1 hc
  have g := grp_valid h2
  have a := agree_ok f l (fun x hx => (g x hx).2.2.2.1.1) (fun x hx => (g x hx).2.2.2.2.2) _ (List.Perm.refl _)
  exact ⟨a.1, a.2.1, grpsB_len h2, (eve_valid h1).1⟩

def heldZ (f : EveZ) (l : List GrpZ) : List Int := if checkQ f l = 0 then (eveS f l).groups.map (·.tok) else []
set_option maxRecDepth 100000 in
set_option maxHeartbeats 1000000 in
theorem Held_any (f : EveZ) (l : List GrpZ) (A A2 : Option Addr) (c c2 B : Nat) (rs : List (Option Addr × Nat)) (w : World) (hB : B ≤ w.heap.size) (hr : Reads w B 5 A f.rides.length (bthCells f.rides)) (hn : f.rides.length ≤ maxLen) (hl : GrpsIn w B A2 rs l) :
    Calls Try.prog 27 #[eveV f A c, .slice A2 l.length c2] w (ListTo w (heldZ f l) (checkQ f l)) := by
  obtain ⟨W, hW⟩ : ∃ W, W = w.alloc (.cells #[.slice A f.rides.length c, .int .i64 f.walk] 24) := ⟨_, rfl⟩
  have bW : Below w.heap.size w W := by subst hW; exact (Below.refl _ _).alloc (Nat.le_refl _) _
  have r0 : Row W w.heap.size 24 [.slice A f.rides.length c, .int .i64 f.walk] := by subst hW; exact Row.new w _ _
  have q0 : W.cell? ⟨w.heap.size, 0, none⟩ = some (.slice A f.rides.length c) := r0.cell (j := 0) (by simp)
  have q1 : W.cell? ⟨w.heap.size, 1, none⟩ = some (.int .i64 f.walk) := r0.cell (j := 1) (by simp)
  have lW : w.heap.size < W.heap.size := r0.lt
  have HBW := Lib.hid bW
  have hrW := hr.below (bW.mono hB)
  have hlW := hl.below (bW.mono hB)
  have hBW := Nat.le_trans hB bW.size
  by_cases hc : checkQ f l = 0
  · have hC := cap_ok f l A A2 c c2 B rs W hBW hrW hn hlW hc
    obtain ⟨n1, n2, n3, n4⟩ := eve_lens hc
    have hZ : heldZ f l = (eveS f l).groups.map (·.tok) := if_pos hc
    obtain ⟨s, hs⟩ : ∃ s, s = eveS f l := ⟨_, rfl⟩
    rw [← hs] at hC n1 n2 hZ
    have HC := Lib.hid hC
    obtain ⟨L, hL⟩ : ∃ L, L = s.groups.map (·.tok) := ⟨_, rfl⟩
    rw [hZ, hc, ← hL]
    have hm : s.groups.length ≤ 60 := by omega
    clear hs hZ hC n1 n2 n3 n4
    unfold eveV at HC ⊢
    clear hr hl hrW hlW hn r0 bW hc
    go_enter Try.func27, Try.ntmps27
    go_upto_region 1 with (fail)
    rw [← hW]
    clear hW
    go_upto_region 2 with (go_at_call 46; refine HC.out.mono ?_; rintro e w1 ⟨E, rfl, hE0, hb1, hE⟩)
    have HB1 := Lib.hid (HBW.out.trans (hb1.mono HBW.out.size))
    clear hb1 HC
    obtain ⟨qs, uv, h⟩ := hE
    have vx := h.v3
    have l1 := h.vc.2.2.2
    have hC2 := numbers_group h hm 52 (·.tok) Held1_enters (fun k hk X => Held1_any _ _ _ k X)
    rw [← hL] at hC2
    have HC2 := Lib.hid hC2
    clear h hL hC2
    go_wp2_with (go_at_call 51; refine HC2.out.mono ?_; rintro e w2 ⟨hb2, A3, c3, rfl, hr3⟩; have HB2 := Lib.hid hb2; have HR3 := Lib.hid hr3; clear hb2 hr3)
    go_ret2
    exact ⟨HB1.out.trans (HB2.out.mono HB1.out.size), A3, c3, rfl, HR3.out⟩
  · have HC := Lib.hid (cap_bad f l A A2 c c2 B rs W hBW hrW hn hlW hc)
    have HZ : Hid (heldZ f l = []) := if_neg hc
    generalize checkQ f l = k at hc HC ⊢
    unfold eveV at HC ⊢
    clear hr hl hrW hlW hn r0 bW
    go_enter Try.func27, Try.ntmps27
    go_upto_region 1 with (fail)
    rw [← hW]
    clear hW
    go_wp2_with (go_at_call 46; refine HC.out.mono ?_; rintro e w1 ⟨rfl, hb1⟩; have HB1 := Lib.hid (HBW.out.trans (hb1.mono HBW.out.size)); clear hb1)
    all_goals first | (go_ret2; rw [HZ.out]; exact ⟨HB1.out, none, 0, rfl, reads_none _ _ _⟩) | (exfalso; omega) | trace_state

def homeZ (f : EveZ) (l : List GrpZ) : List Int := if checkQ f l = 0 then (eveS f l).groups.map (·.home) else []
set_option maxRecDepth 100000 in
set_option maxHeartbeats 1000000 in
theorem Home_any (f : EveZ) (l : List GrpZ) (A A2 : Option Addr) (c c2 B : Nat) (rs : List (Option Addr × Nat)) (w : World) (hB : B ≤ w.heap.size) (hr : Reads w B 5 A f.rides.length (bthCells f.rides)) (hn : f.rides.length ≤ maxLen) (hl : GrpsIn w B A2 rs l) :
    Calls Try.prog 34 #[eveV f A c, .slice A2 l.length c2] w (ListTo w (homeZ f l) (checkQ f l)) := by
  obtain ⟨W, hW⟩ : ∃ W, W = w.alloc (.cells #[.slice A f.rides.length c, .int .i64 f.walk] 24) := ⟨_, rfl⟩
  have bW : Below w.heap.size w W := by subst hW; exact (Below.refl _ _).alloc (Nat.le_refl _) _
  have r0 : Row W w.heap.size 24 [.slice A f.rides.length c, .int .i64 f.walk] := by subst hW; exact Row.new w _ _
  have q0 : W.cell? ⟨w.heap.size, 0, none⟩ = some (.slice A f.rides.length c) := r0.cell (j := 0) (by simp)
  have q1 : W.cell? ⟨w.heap.size, 1, none⟩ = some (.int .i64 f.walk) := r0.cell (j := 1) (by simp)
  have lW : w.heap.size < W.heap.size := r0.lt
  have HBW := Lib.hid bW
  have hrW := hr.below (bW.mono hB)
  have hlW := hl.below (bW.mono hB)
  have hBW := Nat.le_trans hB bW.size
  by_cases hc : checkQ f l = 0
  · have hC := cap_ok f l A A2 c c2 B rs W hBW hrW hn hlW hc
    obtain ⟨n1, n2, n3, n4⟩ := eve_lens hc
    have hZ : homeZ f l = (eveS f l).groups.map (·.home) := if_pos hc
    obtain ⟨s, hs⟩ : ∃ s, s = eveS f l := ⟨_, rfl⟩
    rw [← hs] at hC n1 n2 hZ
    have HC := Lib.hid hC
    obtain ⟨L, hL⟩ : ∃ L, L = s.groups.map (·.home) := ⟨_, rfl⟩
    rw [hZ, hc, ← hL]
    have hm : s.groups.length ≤ 60 := by omega
    clear hs hZ hC n1 n2 n3 n4
    unfold eveV at HC ⊢
    clear hr hl hrW hlW hn r0 bW hc
    go_enter Try.func34, Try.ntmps34
    go_upto_region 1 with (fail)
    rw [← hW]
    clear hW
    go_upto_region 2 with (go_at_call 46; refine HC.out.mono ?_; rintro e w1 ⟨E, rfl, hE0, hb1, hE⟩)
    have HB1 := Lib.hid (HBW.out.trans (hb1.mono HBW.out.size))
    clear hb1 HC
    obtain ⟨qs, uv, h⟩ := hE
    have vx := h.v3
    have l1 := h.vc.2.2.2
    have hC2 := numbers_group h hm 57 (·.home) Home1_enters (fun k hk X => Home1_any _ _ _ k X)
    rw [← hL] at hC2
    have HC2 := Lib.hid hC2
    clear h hL hC2
    go_wp2_with (go_at_call 51; refine HC2.out.mono ?_; rintro e w2 ⟨hb2, A3, c3, rfl, hr3⟩; have HB2 := Lib.hid hb2; have HR3 := Lib.hid hr3; clear hb2 hr3)
    go_ret2
    exact ⟨HB1.out.trans (HB2.out.mono HB1.out.size), A3, c3, rfl, HR3.out⟩
  · have HC := Lib.hid (cap_bad f l A A2 c c2 B rs W hBW hrW hn hlW hc)
    have HZ : Hid (homeZ f l = []) := if_neg hc
    generalize checkQ f l = k at hc HC ⊢
    unfold eveV at HC ⊢
    clear hr hl hrW hlW hn r0 bW
    go_enter Try.func34, Try.ntmps34
    go_upto_region 1 with (fail)
    rw [← hW]
    clear hW
    go_wp2_with (go_at_call 46; refine HC.out.mono ?_; rintro e w1 ⟨rfl, hb1⟩; have HB1 := Lib.hid (HBW.out.trans (hb1.mono HBW.out.size)); clear hb1)
    all_goals first | (go_ret2; rw [HZ.out]; exact ⟨HB1.out, none, 0, rfl, reads_none _ _ _⟩) | (exfalso; omega) | trace_state

def linesZ (f : EveZ) (l : List GrpZ) : List Int := if checkQ f l = 0 then (eveS f l).rides.map (·.longest) else []
set_option maxRecDepth 100000 in
set_option maxHeartbeats 1000000 in
theorem Lines_any (f : EveZ) (l : List GrpZ) (A A2 : Option Addr) (c c2 B : Nat) (rs : List (Option Addr × Nat)) (w : World) (hB : B ≤ w.heap.size) (hr : Reads w B 5 A f.rides.length (bthCells f.rides)) (hn : f.rides.length ≤ maxLen) (hl : GrpsIn w B A2 rs l) :
    Calls Try.prog 30 #[eveV f A c, .slice A2 l.length c2] w (ListTo w (linesZ f l) (checkQ f l)) := by
  obtain ⟨W, hW⟩ : ∃ W, W = w.alloc (.cells #[.slice A f.rides.length c, .int .i64 f.walk] 24) := ⟨_, rfl⟩
  have bW : Below w.heap.size w W := by subst hW; exact (Below.refl _ _).alloc (Nat.le_refl _) _
  have r0 : Row W w.heap.size 24 [.slice A f.rides.length c, .int .i64 f.walk] := by subst hW; exact Row.new w _ _
  have q0 : W.cell? ⟨w.heap.size, 0, none⟩ = some (.slice A f.rides.length c) := r0.cell (j := 0) (by simp)
  have q1 : W.cell? ⟨w.heap.size, 1, none⟩ = some (.int .i64 f.walk) := r0.cell (j := 1) (by simp)
  have lW : w.heap.size < W.heap.size := r0.lt
  have HBW := Lib.hid bW
  have hrW := hr.below (bW.mono hB)
  have hlW := hl.below (bW.mono hB)
  have hBW := Nat.le_trans hB bW.size
  by_cases hc : checkQ f l = 0
  · have hC := cap_ok f l A A2 c c2 B rs W hBW hrW hn hlW hc
    obtain ⟨n1, n2, n3, n4⟩ := eve_lens hc
    have hZ : linesZ f l = (eveS f l).rides.map (·.longest) := if_pos hc
    obtain ⟨s, hs⟩ : ∃ s, s = eveS f l := ⟨_, rfl⟩
    rw [← hs] at hC n1 n2 hZ
    have HC := Lib.hid hC
    obtain ⟨L, hL⟩ : ∃ L, L = s.rides.map (·.longest) := ⟨_, rfl⟩
    rw [hZ, hc, ← hL]
    have hm : s.rides.length ≤ 60 := by omega
    clear hs hZ hC n1 n2 n3 n4
    unfold eveV at HC ⊢
    clear hr hl hrW hlW hn r0 bW hc
    go_enter Try.func30, Try.ntmps30
    go_upto_region 1 with (fail)
    rw [← hW]
    clear hW
    go_upto_region 2 with (go_at_call 46; refine HC.out.mono ?_; rintro e w1 ⟨E, rfl, hE0, hb1, hE⟩)
    have HB1 := Lib.hid (HBW.out.trans (hb1.mono HBW.out.size))
    clear hb1 HC
    obtain ⟨qs, uv, h⟩ := hE
    have vx := h.v2
    have l1 := h.vc.2.2.2
    have hC2 := numbers_ride h hm 54 (·.longest) Lines1_enters (fun k hk X => Lines1_any _ _ _ k X (by obtain ⟨a, b, hh⟩ := own_slice (h.q k hk); exact ⟨a, _, b, hh⟩))
    rw [← hL] at hC2
    have HC2 := Lib.hid hC2
    clear h hL hC2
    go_wp2_with (go_at_call 53; refine HC2.out.mono ?_; rintro e w2 ⟨hb2, A3, c3, rfl, hr3⟩; have HB2 := Lib.hid hb2; have HR3 := Lib.hid hr3; clear hb2 hr3)
    go_ret2
    exact ⟨HB1.out.trans (HB2.out.mono HB1.out.size), A3, c3, rfl, HR3.out⟩
  · have HC := Lib.hid (cap_bad f l A A2 c c2 B rs W hBW hrW hn hlW hc)
    have HZ : Hid (linesZ f l = []) := if_neg hc
    generalize checkQ f l = k at hc HC ⊢
    unfold eveV at HC ⊢
    clear hr hl hrW hlW hn r0 bW
    go_enter Try.func30, Try.ntmps30
    go_upto_region 1 with (fail)
    rw [← hW]
    clear hW
    go_wp2_with (go_at_call 46; refine HC.out.mono ?_; rintro e w1 ⟨rfl, hb1⟩; have HB1 := Lib.hid (HBW.out.trans (hb1.mono HBW.out.size)); clear hb1)
    all_goals first | (go_ret2; rw [HZ.out]; exact ⟨HB1.out, none, 0, rfl, reads_none _ _ _⟩) | (exfalso; omega) | trace_state

theorem takes_any {E : EvE} {w : World} {s : EvS} (h : EvAt E w s) (hm : s.rides.length ≤ 60) : Calls Try.prog 50 #[.pointer (some ⟨E.v, 0, none⟩)] w (NumTo w (s.rides.map (·.taken))) := by
  obtain ⟨qs, uv, h⟩ := h
  have v2 := h.v2
  have l1 := h.vc.2.2.2
  have hC := numbers_ride h hm 68 (·.taken) takes1_enters (fun k hk X => takes1_any _ _ _ k X (by obtain ⟨a, b, hh⟩ := own_slice (h.q k hk); exact ⟨a, _, b, hh⟩))
  obtain ⟨L, hL⟩ : ∃ L, L = s.rides.map (·.taken) := ⟨_, rfl⟩
  rw [← hL] at hC ⊢
  have HC := Lib.hid hC
  clear h hL hC
  go_enter Try.func50, Try.ntmps50
  go_wp2_with (go_at_call 53; refine HC.out.mono ?_; rintro e w' ⟨hb, A, c, rfl, hr⟩)
  go_ret
  exact ⟨hb, A, c, rfl, hr⟩

def takesZ (f : EveZ) (l : List GrpZ) : List Int := if checkQ f l = 0 then (eveS f l).rides.map (·.taken) else []
set_option maxRecDepth 100000 in
set_option maxHeartbeats 1000000 in
theorem Takes_any (f : EveZ) (l : List GrpZ) (A A2 : Option Addr) (c c2 B : Nat) (rs : List (Option Addr × Nat)) (w : World) (hB : B ≤ w.heap.size) (hr : Reads w B 5 A f.rides.length (bthCells f.rides)) (hn : f.rides.length ≤ maxLen) (hl : GrpsIn w B A2 rs l) :
    Calls Try.prog 25 #[eveV f A c, .slice A2 l.length c2] w (ListTo w (takesZ f l) (checkQ f l)) := by
  obtain ⟨W, hW⟩ : ∃ W, W = w.alloc (.cells #[.slice A f.rides.length c, .int .i64 f.walk] 24) := ⟨_, rfl⟩
  have bW : Below w.heap.size w W := by subst hW; exact (Below.refl _ _).alloc (Nat.le_refl _) _
  have r0 : Row W w.heap.size 24 [.slice A f.rides.length c, .int .i64 f.walk] := by subst hW; exact Row.new w _ _
  have q0 : W.cell? ⟨w.heap.size, 0, none⟩ = some (.slice A f.rides.length c) := r0.cell (j := 0) (by simp)
  have q1 : W.cell? ⟨w.heap.size, 1, none⟩ = some (.int .i64 f.walk) := r0.cell (j := 1) (by simp)
  have lW : w.heap.size < W.heap.size := r0.lt
  have HBW := Lib.hid bW
  have hrW := hr.below (bW.mono hB)
  have hlW := hl.below (bW.mono hB)
  have hBW := Nat.le_trans hB bW.size
  by_cases hc : checkQ f l = 0
  · have hC := cap_ok f l A A2 c c2 B rs W hBW hrW hn hlW hc
    obtain ⟨n1, n2, n3, n4⟩ := eve_lens hc
    have hZ : takesZ f l = (eveS f l).rides.map (·.taken) := if_pos hc
    obtain ⟨s, hs⟩ : ∃ s, s = eveS f l := ⟨_, rfl⟩
    rw [← hs] at hC n1 n2 hZ
    have HC := Lib.hid hC
    obtain ⟨L, hL⟩ : ∃ L, L = s.rides.map (·.taken) := ⟨_, rfl⟩
    rw [hZ, hc, ← hL]
    have hm : s.rides.length ≤ 60 := by omega
    clear hs hZ hC n1 n2 n3 n4
    unfold eveV at HC ⊢
    clear hr hl hrW hlW hn r0 bW hc
    go_enter Try.func25, Try.ntmps25
    go_upto_region 1 with (fail)
    rw [← hW]
    clear hW
    go_upto_region 2 with (go_at_call 46; refine HC.out.mono ?_; rintro e w1 ⟨E, rfl, hE0, hb1, hE⟩)
    have HB1 := Lib.hid (HBW.out.trans (hb1.mono HBW.out.size))
    clear hb1 HC
    have hC2 := takes_any hE hm
    rw [← hL] at hC2
    have HC2 := Lib.hid hC2
    clear hE hL hC2
    go_wp2_with (go_at_call 50; refine HC2.out.mono ?_; rintro e w2 ⟨hb2, A3, c3, rfl, hr3⟩; have HB2 := Lib.hid hb2; have HR3 := Lib.hid hr3; clear hb2 hr3)
    go_ret2
    exact ⟨HB1.out.trans (HB2.out.mono HB1.out.size), A3, c3, rfl, HR3.out⟩
  · have HC := Lib.hid (cap_bad f l A A2 c c2 B rs W hBW hrW hn hlW hc)
    have HZ : Hid (takesZ f l = []) := if_neg hc
    generalize checkQ f l = k at hc HC ⊢
    unfold eveV at HC ⊢
    clear hr hl hrW hlW hn r0 bW
    go_enter Try.func25, Try.ntmps25
    go_upto_region 1 with (fail)
    rw [← hW]
    clear hW
    go_wp2_with (go_at_call 46; refine HC.out.mono ?_; rintro e w1 ⟨rfl, hb1⟩; have HB1 := Lib.hid (HBW.out.trans (hb1.mono HBW.out.size)); clear hb1)
    all_goals first | (go_ret2; rw [HZ.out]; exact ⟨HB1.out, none, 0, rfl, reads_none _ _ _⟩) | (exfalso; omega) | trace_state
end Go.Proofs.Ytijbhcdnbaaobaa
