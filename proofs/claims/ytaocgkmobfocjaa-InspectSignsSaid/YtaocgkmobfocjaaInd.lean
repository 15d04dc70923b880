/- Contract of inspect's last: the last entry that is wanted. Conditions: the entries read as data; what is told which are wanted changes nothing that was there. -/
import Derived.Test.YtaocgkmobfocjaaInc
import Derived.Shelf.AbstractIn
import Derived.Shelf.RegionOpenV
namespace Go.Proofs.Ytaocgkmobfocjaa
open Go.RowKit Go.Shelf
attribute [local go_sem] Oper.semAt_some

/-- The last entry that is wanted. -/
def lastS (p : EntZ → Bool) (l : List EntZ) : Option EntZ := l.reverse.find? p
set_option maxRecDepth 100000 in
theorem backwards_any (s1 s2 s3 s4 : Value) (w : World) : Calls Try.prog 90 #[.agg #[s1, s2, s3, s4]] w fun e w' => e = .returned (.func (.func 95) #[] #[.pointer (some ⟨w.heap.size, 0, none⟩)]) ∧ w' = w.alloc (.cells #[s1, s2, s3, s4] 66) := by
  go_enter Try.func90, Try.ntmps90
  go_wp2_with fail
  go_ret
  exact ⟨rfl, rfl⟩
theorem last_end (fn : Func) (hf : fn.results = #[.cell 4 54, .cell 5 4]) (tmps : Array Value) (g2 g3 : Nat) (e : EntZ) (b : Bool) (Z : World) (t4 : tmps.getD 4 undef = .pointer (some ⟨g2, 0, none⟩)) (t5 : tmps.getD 5 undef = .pointer (some ⟨g3, 0, none⟩)) (h2 : Row Z g2 54 (entL e)) (h3 : Row Z g3 4 [.bool b]) :
    (results fn tmps).run Try.prog Z = .ok (.tuple #[entV e, .bool b]) Z := by
  have y0 : Z.cell? ⟨g2, 0, none⟩ = some (.int .i64 e.day) := h2.cell (j := 0) (by simp [entL])
  have y1 : Z.cell? ⟨g2, 1, none⟩ = some (.int .i64 e.kind) := h2.cell (j := 1) (by simp [entL])
  have y2 : Z.cell? ⟨g2, 2, none⟩ = some (.int .i64 e.a) := h2.cell (j := 2) (by simp [entL])
  have y3 : Z.cell? ⟨g2, 3, none⟩ = some (.int .i64 e.b) := h2.cell (j := 3) (by simp [entL])
  have y4 : Z.cell? ⟨g2, 4, none⟩ = some (.int .i64 e.c) := h2.cell (j := 4) (by simp [entL])
  have z0 : Z.cell? ⟨g3, 0, none⟩ = some (.bool b) := h3.cell (j := 0) (by simp)
  have l2 := h2.lt
  have l3 := h3.lt
  rw [Array.getD_eq_getD_getElem?] at t4 t5
  simp only [results, hf]
  simp [Sem.run_bind, Result.andThen, t4, t5]
  go_simp
  rfl
set_option maxRecDepth 100000 in
set_option maxHeartbeats 2000000 in
theorem last_any (l : List EntZ) (p : EntZ → Bool) (A1 A2 A3 A : Option Addr) (n1 n2 n3 c1 c2 c3 c B : Nat) (wf : FuncId) (caps : Array Value) (w : World) (hl : l.length ≤ maxLen) (hB : B ≤ w.heap.size) (hr : Reads w B 5 A l.length (entCells l))
    (ew : ∀ args X, (callFunc wf args).run Try.prog X = .ok (.enter wf args) X)
    (Hw : ∀ (x : EntZ) (X : World), Below w.heap.size w X → Calls Try.prog wf (#[entV x] ++ caps) X fun e X' => e = .returned (.bool (p x)) ∧ Below X.heap.size X X') :
    Calls Try.prog 74 #[.agg #[.slice A1 n1 c1, .slice A2 n2 c2, .slice A3 n3 c3, .slice A l.length c], .func (.func wf) #[] caps] w fun e w' => e = .returned (.tuple #[entV ((lastS p l).getD default), .bool (lastS p l).isSome]) ∧ Below w.heap.size w w' := by
  refine (callsIn_wide (n := 8)).1 ?_
  have hf1 : Fence.wide.fn 90 := trivial
  have hf2 : Fence.wide.fn wf := trivial
  refine callsIn_of_wp_marks Try.func74 rfl trivial ?_ rfl
  simp only [Try.ntmps74, List.size_toArray, List.length_cons, List.length_nil, Nat.reduceAdd, Nat.reduceSub, Array.replicate_succ, Array.replicate_zero, List.push_toArray, List.append_toArray, List.nil_append, List.cons_append]
  gi_wp2_with (gi_at_call 90; refine (callsIn_wide.2 (backwards_any _ _ _ _ _)).mono ?_; rintro e w' ⟨rfl, rfl⟩)
  obtain ⟨V, hV⟩ : ∃ V, V = ((((w.alloc (.cells #[.slice A1 n1 c1, .slice A2 n2 c2, .slice A3 n3 c3, .slice A l.length c] 66)).alloc (.cells #[.func (.func wf) #[] caps] 90)).alloc (.cells #[.int .i64 0, .int .i64 0, .int .i64 0, .int .i64 0, .int .i64 0] 54)).alloc (.cells #[.bool false] 4)).alloc (.cells #[.slice A1 n1 c1, .slice A2 n2 c2, .slice A3 n3 c3, .slice A l.length c] 66) := ⟨_, rfl⟩
  have zV : V.heap.size = w.heap.size + 5 := by subst hV; simp
  have bV : Below w.heap.size w V := by subst hV; exact (((((Below.refl _ w).alloc (Nat.le_refl _) _).alloc (by simp) _).alloc (by simp; omega) _).alloc (by simp; omega) _).alloc (by simp; omega) _
  have r1 : Row V (w.heap.size + 1) 90 [.func (.func wf) #[] caps] := by
    subst hV
    have h := Row.new (w.alloc (.cells #[.slice A1 n1 c1, .slice A2 n2 c2, .slice A3 n3 c3, .slice A l.length c] 66)) 90 #[.func (.func wf) #[] caps]
    rw [World.size_alloc] at h
    exact ((h.alloc _).alloc _).alloc _
  have r2 : Row V (w.heap.size + 1 + 1) 54 [.int .i64 0, .int .i64 0, .int .i64 0, .int .i64 0, .int .i64 0] := by
    subst hV
    have h := Row.new ((w.alloc (.cells #[.slice A1 n1 c1, .slice A2 n2 c2, .slice A3 n3 c3, .slice A l.length c] 66)).alloc (.cells #[.func (.func wf) #[] caps] 90)) 54 #[.int .i64 0, .int .i64 0, .int .i64 0, .int .i64 0, .int .i64 0]
    rw [World.size_alloc, World.size_alloc] at h
    exact (h.alloc _).alloc _
  have r3 : Row V (w.heap.size + 1 + 1 + 1) 4 [.bool false] := by
    subst hV
    have h := Row.new (((w.alloc (.cells #[.slice A1 n1 c1, .slice A2 n2 c2, .slice A3 n3 c3, .slice A l.length c] 66)).alloc (.cells #[.func (.func wf) #[] caps] 90)).alloc (.cells #[.int .i64 0, .int .i64 0, .int .i64 0, .int .i64 0, .int .i64 0] 54)) 4 #[.bool false]
    rw [World.size_alloc, World.size_alloc, World.size_alloc] at h
    exact h.alloc _
  have r4 : Row V (w.heap.size + 1 + 1 + 1 + 1) 66 [.slice A1 n1 c1, .slice A2 n2 c2, .slice A3 n3 c3, .slice A l.length c] := by
    subst hV
    have h := Row.new ((((w.alloc (.cells #[.slice A1 n1 c1, .slice A2 n2 c2, .slice A3 n3 c3, .slice A l.length c] 66)).alloc (.cells #[.func (.func wf) #[] caps] 90)).alloc (.cells #[.int .i64 0, .int .i64 0, .int .i64 0, .int .i64 0, .int .i64 0] 54)).alloc (.cells #[.bool false] 4)) 66 #[.slice A1 n1 c1, .slice A2 n2 c2, .slice A3 n3 c3, .slice A l.length c]
    rw [World.size_alloc, World.size_alloc, World.size_alloc, World.size_alloc] at h
    exact h
  rw [← hV]
  clear hV
  refine range_own (F := Fence.wide) (n := 8) (P := Try.prog) (α := EntZ) (encs := fun x : EntZ => #[entV x]) (xs := l.reverse) (Kp := KC) rfl (by omega) (gf := 95) (lb := #[.pointer (some ⟨w.heap.size + 1 + 1 + 1 + 1, 0, none⟩)]) rfl trivial (enters_of Try.func95 (by kernel_rfl) rfl)
    KC.trans (fun W' l' o o' _ h2 h3 => KC.putObj W' l' o o' h2 h3) ?seq (fun _ => rfl)
    (fun pre X => (∀ x ∈ pre, p x = false) ∧ Below w.heap.size w X ∧ Row X (w.heap.size + 1) 90 [.func (.func wf) #[] caps] ∧ Row X (w.heap.size + 1 + 1) 54 [.int .i64 0, .int .i64 0, .int .i64 0, .int .i64 0, .int .i64 0] ∧ Row X (w.heap.size + 1 + 1 + 1) 4 [.bool false] ∧ V.heap.size ≤ X.heap.size)
    (fun cd pre X => cd = .ret ∧ (∃ pre' x, pre = pre' ++ [x] ∧ (∀ y ∈ pre', p y = false) ∧ p x = true ∧ Row X (w.heap.size + 1 + 1) 54 (entL x)) ∧ Row X (w.heap.size + 1 + 1 + 1) 4 [.bool true] ∧ Below w.heap.size w X)
    ?hI ?hIx ⟨fun _ h => by simp at h, bV, r1, r2, r3, Nat.le_refl _⟩
    (fun x a' X => ∃ bx, V.heap.size ≤ bx ∧ Row X bx 54 (entL x) ∧ a' = { tmps := #[.agg #[.slice A1 n1 c1, .slice A2 n2 c2, .slice A3 n3 c3, .slice A l.length c], .func (.func wf) #[] caps, .pointer (some ⟨w.heap.size, 0, none⟩), .pointer (some ⟨w.heap.size + 1, 0, none⟩), .pointer (some ⟨w.heap.size + 1 + 1, 0, none⟩), .pointer (some ⟨w.heap.size + 1 + 1 + 1, 0, none⟩), .pointer (some ⟨bx, 0, none⟩), .agg #[.slice A1 n1 c1, .slice A2 n2 c2, .slice A3 n3 c3, .slice A l.length c], .func (.func 95) #[] #[.pointer (some ⟨w.heap.size + 1 + 1 + 1 + 1, 0, none⟩)], entV x, undef, undef, undef, undef, undef], defers := [] })
    (fun x a' _ X Y row hs hg hr => by obtain ⟨bx, h1, h2, h3⟩ := hs; exact ⟨bx, h1, row_own h2 hg fun r e => (hr r e).2, h3⟩)
    ?assign ?body ?done ?stop
  case seq => exact back_own 7 (by omega) (w.heap.size + 1 + 1 + 1 + 1) B c A l hl V (by omega) r4.lt (r4.cell (j := 3) (by simp)) ((KC.of_below bV).reads hr)
  case hI =>
    rintro pre X Y row ⟨h1, h2, h3, h4, h5, h6⟩ hg hr
    exact ⟨h1, h2.grown hg h2.size fun k e => by have := (hr k e).1; omega, row_own h3 hg fun r e => (hr r e).2, row_own h4 hg fun r e => (hr r e).2, row_own h5 hg fun r e => (hr r e).2, Nat.le_trans h6 hg.size⟩
  case hIx =>
    rintro cd pre X Y row ⟨h1, ⟨pre', x, h2, h3, h4, h5⟩, h6, h7⟩ hg hr
    exact ⟨h1, ⟨pre', x, h2, h3, h4, row_own h5 hg fun r e => (hr r e).2⟩, row_own h6 hg fun r e => (hr r e).2, h7.grown hg h7.size fun k e => by have := (hr k e).1; omega⟩
  case assign =>
    rintro lo2 pre x Z K ⟨h1, h2, h3, h4, h5, h6⟩ hK
    unfold entV at hK ⊢
    gi_wp2
    exact hK _ _ ((KeepsOthers.alloc _ _).from _) (KC.of_below ((Below.refl _ Z).alloc (Nat.le_refl _) _)) ⟨h1, h2.alloc h2.size _, h3.alloc _, h4.alloc _, h5.alloc _, by simp; omega⟩ ⟨Z.heap.size, h6, Row.new Z _ _, rfl⟩
  case body =>
    rintro lo2 pre x a' Z ⟨h1, h2, h3, h4, h5, h6⟩ ⟨bx, hbx, rX, rfl⟩ hlt
    have c0 : Z.cell? ⟨w.heap.size + 1, 0, none⟩ = some (.func (.func wf) #[] caps) := h3.cell (j := 0) (by simp)
    have l0 := h3.lt
    have x0 : Z.cell? ⟨bx, 0, none⟩ = some (.int .i64 x.day) := rX.cell (j := 0) (by simp [entL])
    have x1 : Z.cell? ⟨bx, 1, none⟩ = some (.int .i64 x.kind) := rX.cell (j := 1) (by simp [entL])
    have x2 : Z.cell? ⟨bx, 2, none⟩ = some (.int .i64 x.a) := rX.cell (j := 2) (by simp [entL])
    have x3 : Z.cell? ⟨bx, 3, none⟩ = some (.int .i64 x.b) := rX.cell (j := 3) (by simp [entL])
    have x4 : Z.cell? ⟨bx, 4, none⟩ = some (.int .i64 x.c) := rX.cell (j := 4) (by simp [entL])
    have lx := rX.lt
    have hw := Hw x Z h2
    unfold entV at hw ⊢
    gi_wp2
    refine ((callsIn_wide.2 hw).inRound lo2).mono ?_
    rintro e X2 ⟨rfl, hb2⟩
    have b2 := h2.trans (hb2.mono h2.size)
    have s1 := h3.below hb2 h3.lt
    have s2 := h4.below hb2 h4.lt
    have s3 := h5.below hb2 h5.lt
    have sX := rX.below hb2 rX.lt
    have k2 := others_belowO hb2
    have v6 := Nat.le_trans h6 hb2.size
    clear hw c0 l0 x0 x1 x2 x3 x4 lx h2 h3 h4 h5 h6 Hw
    cases hp : p x with
    | false =>
      gi_wp2
      exact ⟨k2.from _, KC.of_below hb2, fun y hy => by
        rcases List.mem_append.1 hy with hy | hy
        · exact h1 y hy
        · rw [List.mem_singleton.1 hy]; exact hp, b2, s1, s2, s3, v6⟩
    | true =>
      have x0 : X2.cell? ⟨bx, 0, none⟩ = some (.int .i64 x.day) := sX.cell (j := 0) (by simp [entL])
      have x1 : X2.cell? ⟨bx, 1, none⟩ = some (.int .i64 x.kind) := sX.cell (j := 1) (by simp [entL])
      have x2 : X2.cell? ⟨bx, 2, none⟩ = some (.int .i64 x.a) := sX.cell (j := 2) (by simp [entL])
      have x3 : X2.cell? ⟨bx, 3, none⟩ = some (.int .i64 x.b) := sX.cell (j := 3) (by simp [entL])
      have x4 : X2.cell? ⟨bx, 4, none⟩ = some (.int .i64 x.c) := sX.cell (j := 4) (by simp [entL])
      have lx := sX.lt
      have y0 : X2.cell? ⟨w.heap.size + 1 + 1, 0, none⟩ = some (.int .i64 0) := s2.cell (j := 0) (by simp)
      have y1 : X2.cell? ⟨w.heap.size + 1 + 1, 1, none⟩ = some (.int .i64 0) := s2.cell (j := 1) (by simp)
      have y2 : X2.cell? ⟨w.heap.size + 1 + 1, 2, none⟩ = some (.int .i64 0) := s2.cell (j := 2) (by simp)
      have y3 : X2.cell? ⟨w.heap.size + 1 + 1, 3, none⟩ = some (.int .i64 0) := s2.cell (j := 3) (by simp)
      have y4 : X2.cell? ⟨w.heap.size + 1 + 1, 4, none⟩ = some (.int .i64 0) := s2.cell (j := 4) (by simp)
      have fy := s2.frozen
      have z0 : X2.cell? ⟨w.heap.size + 1 + 1 + 1, 0, none⟩ = some (.bool false) := s3.cell (j := 0) (by simp)
      have fz := s3.frozen
      have ly := s2.lt
      have lz := s3.lt
      have E2 := (((((s2.set 0 (.int .i64 x.day)).set 1 (.int .i64 x.kind)).set 2 (.int .i64 x.a)).set 3 (.int .i64 x.b)).set 4 (.int .i64 x.c)).far (p := ⟨w.heap.size + 1 + 1 + 1, 0, none⟩) (by show w.heap.size + 1 + 1 ≠ w.heap.size + 1 + 1 + 1; omega) (.bool true)
      have E3 := (((((s3.far (p := ⟨w.heap.size + 1 + 1, 0, none⟩) (by show w.heap.size + 1 + 1 + 1 ≠ w.heap.size + 1 + 1; omega) (.int .i64 x.day)).far (p := ⟨w.heap.size + 1 + 1, 1, none⟩) (by show w.heap.size + 1 + 1 + 1 ≠ w.heap.size + 1 + 1; omega) (.int .i64 x.kind)).far (p := ⟨w.heap.size + 1 + 1, 2, none⟩) (by show w.heap.size + 1 + 1 + 1 ≠ w.heap.size + 1 + 1; omega) (.int .i64 x.a)).far (p := ⟨w.heap.size + 1 + 1, 3, none⟩) (by show w.heap.size + 1 + 1 + 1 ≠ w.heap.size + 1 + 1; omega) (.int .i64 x.b)).far (p := ⟨w.heap.size + 1 + 1, 4, none⟩) (by show w.heap.size + 1 + 1 + 1 ≠ w.heap.size + 1 + 1; omega) (.int .i64 x.c)).set 0 (.bool true)
      have EB := (((((b2.setCell (p := ⟨w.heap.size + 1 + 1, 0, none⟩) (by show w.heap.size ≤ w.heap.size + 1 + 1; omega) (.int .i64 x.day)).setCell (p := ⟨w.heap.size + 1 + 1, 1, none⟩) (by show w.heap.size ≤ w.heap.size + 1 + 1; omega) (.int .i64 x.kind)).setCell (p := ⟨w.heap.size + 1 + 1, 2, none⟩) (by show w.heap.size ≤ w.heap.size + 1 + 1; omega) (.int .i64 x.a)).setCell (p := ⟨w.heap.size + 1 + 1, 3, none⟩) (by show w.heap.size ≤ w.heap.size + 1 + 1; omega) (.int .i64 x.b)).setCell (p := ⟨w.heap.size + 1 + 1, 4, none⟩) (by show w.heap.size ≤ w.heap.size + 1 + 1; omega) (.int .i64 x.c)).setCell (p := ⟨w.heap.size + 1 + 1 + 1, 0, none⟩) (by show w.heap.size ≤ w.heap.size + 1 + 1 + 1; omega) (.bool true)
      clear s1 s2 s3 sX b2
      gi_wp2
      exact ⟨((((((k2.trans (KeepsOthers.setCell _ _ _)).trans (KeepsOthers.setCell _ _ _)).trans (KeepsOthers.setCell _ _ _)).trans (KeepsOthers.setCell _ _ _)).trans (KeepsOthers.setCell _ _ _)).trans (KeepsOthers.setCell _ _ _)).from _, rfl, ⟨pre, x, rfl, h1, hp, E2⟩, E3, EB⟩
  case done =>
    rintro D X hD ⟨h1, h2, h3, h4, h5, h6⟩ hK
    have fy := h4.frozen
    have fz := h5.frozen
    have ly := h4.lt
    have lz := h5.lt
    have y0 : X.cell? ⟨w.heap.size + 1 + 1, 0, none⟩ = some (.int .i64 0) := h4.cell (j := 0) (by simp)
    have y1 : X.cell? ⟨w.heap.size + 1 + 1, 1, none⟩ = some (.int .i64 0) := h4.cell (j := 1) (by simp)
    have y2 : X.cell? ⟨w.heap.size + 1 + 1, 2, none⟩ = some (.int .i64 0) := h4.cell (j := 2) (by simp)
    have y3 : X.cell? ⟨w.heap.size + 1 + 1, 3, none⟩ = some (.int .i64 0) := h4.cell (j := 3) (by simp)
    have y4 : X.cell? ⟨w.heap.size + 1 + 1, 4, none⟩ = some (.int .i64 0) := h4.cell (j := 4) (by simp)
    have z0 : X.cell? ⟨w.heap.size + 1 + 1 + 1, 0, none⟩ = some (.bool false) := h5.cell (j := 0) (by simp)
    have E2 := (((((h4.set 0 (.int .i64 0)).set 1 (.int .i64 0)).set 2 (.int .i64 0)).set 3 (.int .i64 0)).set 4 (.int .i64 0)).far (p := ⟨w.heap.size + 1 + 1 + 1, 0, none⟩) (by show w.heap.size + 1 + 1 ≠ w.heap.size + 1 + 1 + 1; omega) (.bool false)
    have E3 := (((((h5.far (p := ⟨w.heap.size + 1 + 1, 0, none⟩) (by show w.heap.size + 1 + 1 + 1 ≠ w.heap.size + 1 + 1; omega) (.int .i64 0)).far (p := ⟨w.heap.size + 1 + 1, 1, none⟩) (by show w.heap.size + 1 + 1 + 1 ≠ w.heap.size + 1 + 1; omega) (.int .i64 0)).far (p := ⟨w.heap.size + 1 + 1, 2, none⟩) (by show w.heap.size + 1 + 1 + 1 ≠ w.heap.size + 1 + 1; omega) (.int .i64 0)).far (p := ⟨w.heap.size + 1 + 1, 3, none⟩) (by show w.heap.size + 1 + 1 + 1 ≠ w.heap.size + 1 + 1; omega) (.int .i64 0)).far (p := ⟨w.heap.size + 1 + 1, 4, none⟩) (by show w.heap.size + 1 + 1 + 1 ≠ w.heap.size + 1 + 1; omega) (.int .i64 0)).set 0 (.bool false)
    have EB := (((((h2.setCell (p := ⟨w.heap.size + 1 + 1, 0, none⟩) (by show w.heap.size ≤ w.heap.size + 1 + 1; omega) (.int .i64 0)).setCell (p := ⟨w.heap.size + 1 + 1, 1, none⟩) (by show w.heap.size ≤ w.heap.size + 1 + 1; omega) (.int .i64 0)).setCell (p := ⟨w.heap.size + 1 + 1, 2, none⟩) (by show w.heap.size ≤ w.heap.size + 1 + 1; omega) (.int .i64 0)).setCell (p := ⟨w.heap.size + 1 + 1, 3, none⟩) (by show w.heap.size ≤ w.heap.size + 1 + 1; omega) (.int .i64 0)).setCell (p := ⟨w.heap.size + 1 + 1, 4, none⟩) (by show w.heap.size ≤ w.heap.size + 1 + 1; omega) (.int .i64 0)).setCell (p := ⟨w.heap.size + 1 + 1 + 1, 0, none⟩) (by show w.heap.size ≤ w.heap.size + 1 + 1 + 1; omega) (.bool false)
    gi_wp2
    have hK2 : ((((((X.setCell ⟨w.heap.size + 1 + 1, 0, none⟩ (.int .i64 0)).setCell ⟨w.heap.size + 1 + 1, 1, none⟩ (.int .i64 0)).setCell ⟨w.heap.size + 1 + 1, 2, none⟩ (.int .i64 0)).setCell ⟨w.heap.size + 1 + 1, 3, none⟩ (.int .i64 0)).setCell ⟨w.heap.size + 1 + 1, 4, none⟩ (.int .i64 0)).setCell ⟨w.heap.size + 1 + 1 + 1, 0, none⟩ (.bool false)).heap[D]? = some (.deferred (some [])) := ((((((KeepsOthers.setCell _ _ _).trans (KeepsOthers.setCell _ _ _)).trans (KeepsOthers.setCell _ _ _)).trans (KeepsOthers.setCell _ _ _)).trans (KeepsOthers.setCell _ _ _)).trans (KeepsOthers.setCell _ _ _)).same D _ hK rfl
    generalize ((((((X.setCell ⟨w.heap.size + 1 + 1, 0, none⟩ (.int .i64 0)).setCell ⟨w.heap.size + 1 + 1, 1, none⟩ (.int .i64 0)).setCell ⟨w.heap.size + 1 + 1, 2, none⟩ (.int .i64 0)).setCell ⟨w.heap.size + 1 + 1, 3, none⟩ (.int .i64 0)).setCell ⟨w.heap.size + 1 + 1, 4, none⟩ (.int .i64 0)).setCell ⟨w.heap.size + 1 + 1 + 1, 0, none⟩ (.bool false)) = Y at E2 E3 EB hK2 ⊢
    have hs : lastS p l = none := List.find?_eq_none.2 fun x hx => by rw [h1 x hx]; simp
    rw [hs]
    have hbp := EB.grown (grownBy_putObj' Y D (.deferred none)) EB.size fun k e => by cases e; omega
    have F2 := row_own E2 (grownBy_putObj' Y D (.deferred none)) fun r e => by cases e; exact ⟨_, hK2, rfl⟩
    have F3 := row_own E3 (grownBy_putObj' Y D (.deferred none)) fun r e => by cases e; exact ⟨_, hK2, rfl⟩
    refine ⟨by simp, .inl ⟨_, _, rfl, run_takeDeferred hK2, ?_⟩⟩
    exact ⟨_, last_end _ rfl _ _ _ (default : EntZ) false _ rfl rfl F2 F3, rfl, hbp⟩
  case stop =>
    rintro D cd pre X hD hp ⟨rfl, ⟨pre', x, h2, h3, h4, h5⟩, h6, h7⟩ hK
    have hs : lastS p l = some x := by
      obtain ⟨tl, htl⟩ := hp
      unfold lastS
      rw [← htl, h2, List.append_assoc, List.find?_append, List.find?_eq_none.2 (fun y hy => by rw [h3 y hy]; simp)]
      simp [h4]
    have hbp := h7.grown (grownBy_putObj' X D (.deferred none)) h7.size fun k e => by cases e; omega
    have F2 := row_own h5 (grownBy_putObj' X D (.deferred none)) fun r e => by cases e; exact ⟨_, hK, rfl⟩
    have F3 := row_own h6 (grownBy_putObj' X D (.deferred none)) fun r e => by cases e; exact ⟨_, hK, rfl⟩
    gi_wp2
    refine ⟨by simp, .inl ⟨_, _, rfl, run_takeDeferred hK, ?_⟩⟩
    rw [hs]
    exact ⟨_, last_end _ rfl _ _ _ x true _ rfl rfl F2 F3, rfl, hbp⟩
end Go.Proofs.Ytaocgkmobfocjaa
