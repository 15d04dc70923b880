/- Contracts of queue's waited and Waits. Conditions: the evening and the groups read as data. -/
import Derived.Test.YtijbhcdnbaaobaaEb
import Derived.Test.YtijbhcdnbaaobaaEv
import Derived.Laws.ResultCell
namespace Go.Proofs.Ytijbhcdnbaaobaa
open Go.RowKit

/-- For how long those waited who got on, and how many they were. -/
def wS (sz : Nat → Int) (L : List VisZ) : Int := (L.map fun v => if v.on = true then (v.left - v.came) * sz v.group else 0).sum
def wG (sz : Nat → Int) (L : List VisZ) : Int := (L.map fun v => if v.on = true then sz v.group else 0).sum
structure WtOk (n : Nat) (sz : Nat → Int) (L : List VisZ) : Prop where
  len : L.length ≤ 1000
  sz : ∀ i, i < n → 0 ≤ sz i ∧ sz i ≤ 40
  v : ∀ v ∈ L, v.group < n ∧ 0 ≤ v.left - v.came ∧ v.left - v.came ≤ 2001
section
variable {n : Nat} {sz : Nat → Int} {L : List VisZ}
theorem wS_succ {k : Nat} (hk : k < L.length) : wS sz (L.take (k + 1)) = wS sz (L.take k) + (if L[k].on = true then (L[k].left - L[k].came) * sz L[k].group else 0) := by
  unfold wS
  rw [List.take_succ_eq_append_getElem hk, List.map_append, List.sum_append]
  simp
theorem wG_succ {k : Nat} (hk : k < L.length) : wG sz (L.take (k + 1)) = wG sz (L.take k) + (if L[k].on = true then sz L[k].group else 0) := by
  unfold wG
  rw [List.take_succ_eq_append_getElem hk, List.map_append, List.sum_append]
  simp
theorem w_one (h : WtOk n sz L) {v : VisZ} (hv : v ∈ L) : (0 ≤ sz v.group ∧ sz v.group ≤ 40) ∧ 0 ≤ (v.left - v.came) * sz v.group ∧ (v.left - v.came) * sz v.group ≤ 80040 := by
  obtain ⟨h1, h2, h3⟩ := h.v v hv
  obtain ⟨h4, h5⟩ := h.sz _ h1
  refine ⟨⟨h4, h5⟩, Int.mul_nonneg h2 h4, ?_⟩
  have := Int.mul_le_mul h3 h5 h4 (by omega)
  omega
theorem w_bd (h : WtOk n sz L) : ∀ k, k ≤ L.length → (0 ≤ wS sz (L.take k) ∧ wS sz (L.take k) ≤ 80040 * (k : Int)) ∧ 0 ≤ wG sz (L.take k) ∧ wG sz (L.take k) ≤ 40 * (k : Int) := by
  intro k
  induction k with
  | zero => intro _; simp [wS, wG]
  | succ k ih =>
    intro hk
    have h1 := ih (by omega)
    have h2 := w_one h (List.getElem_mem (show k < L.length by omega))
    rw [wS_succ (by omega), wG_succ (by omega)]
    split <;> omega
end
/-- What the visits of a valid evening are for those who count. -/
theorem wt_ok {f : EveZ} {l : List GrpZ} (hc : checkQ f l = 0) : WtOk l.length (fun i => (l.getD i default).size) (eveS f l).visits := by
  obtain ⟨h1, h2⟩ := checkQ_ok.1 hc
  have g := grp_valid h2
  have e := eve_valid h1
  have hfit := fit_of (big_start h1 h2).1 (play_his f l (fun x hx => (g x hx).2.2.2.1.1) (fun x hx => (g x hx).2.2.2.2.2))
  have hs := seats_ok f l (fun x hx => (g x hx).2.2.2.1.1) (fun x hx => (g x hx).2.1.1) (fun x hx => (g x hx).2.2.1.1) (fun x hx => (g x hx).2.2.2.2.2) e.2.1.1 (fun b hb => by have := e.2.2 b hb; omega) (eveS f l).visits (List.Perm.refl _)
  refine ⟨hfit.vis, fun i hi => ?_, fun v hv => ?_⟩
  · have := (g _ (getD_mem' hi)).2.2.1
    omega
  · have h3 := hs v hv
    have h4 := (g _ (getD_mem' h3.group)).2.1
    have h5 := h3.wait
    exact ⟨h3.group, by omega, by omega⟩
theorem vis_at {X : World} {B : Nat} {A : Option Addr} {L : List VisZ} (h : Reads X B 6 A L.length (L.flatMap visL)) {k : Nat} (hk : k < L.length) : ∃ b o, A = some ⟨b, o, none⟩ ∧ b < B ∧ X.cell? ⟨b, o + k * 6, none⟩ = some (.int .i64 L[k].group) ∧ X.cell? ⟨b, o + k * 6 + 1, none⟩ = some (.int .i64 L[k].want) ∧ X.cell? ⟨b, o + k * 6 + 2, none⟩ = some (.int .i64 L[k].ride) ∧
    X.cell? ⟨b, o + k * 6 + 3, none⟩ = some (.bool L[k].on) ∧ X.cell? ⟨b, o + k * 6 + 4, none⟩ = some (.int .i64 L[k].came) ∧ X.cell? ⟨b, o + k * 6 + 5, none⟩ = some (.int .i64 L[k].left) := by
  obtain ⟨b, o, e, hb, hc⟩ := h.2 (by omega)
  have key : ∀ j, j < 6 → ∀ u, (visL L[k])[j]? = some u → X.cell? ⟨b, o + k * 6 + j, none⟩ = some u := fun j hj u hu => by
    have hf := flat_at visL 6 (fun _ => rfl) (⟨0, 0, 0, false, 0, 0⟩ : VisZ) L k hk j hj
    have hg : L.getD k ⟨0, 0, 0, false, 0, 0⟩ = L[k] := by rw [List.getD_eq_getElem?_getD, List.getElem?_eq_getElem hk]; rfl
    rw [hg, hu] at hf
    have := hc _ _ hf
    rw [← Nat.add_assoc] at this
    exact this
  exact ⟨b, o, e, hb, key 0 (by omega) _ rfl, key 1 (by omega) _ rfl, key 2 (by omega) _ rfl, key 3 (by omega) _ rfl, key 4 (by omega) _ rfl, key 5 (by omega) _ rfl⟩
theorem results_cell {fn : Func} {p : Tmp} {ty : TypeId} (h : fn.results = #[.cell p ty]) (tmps : Array Value) (P : Program) (w : World) :
    (results fn tmps).run P w = ((asAddr (tmps.getD p undef)).run P w).andThen fun a w₁ => (loadVar ty a).run P w₁ := by
  simp only [results, h]
  simp [Sem.run_bind, Result.andThen]
set_option maxRecDepth 100000 in
set_option maxHeartbeats 2000000 in
theorem waited_any {E : EvE} {w : World} {s : EvS} (h : EvAt E w s) {sz : Nat → Int} (hs : ∀ i, i < s.groups.length → (s.grp i).g.size = sz i) (hw : WtOk s.groups.length sz s.visits) :
    Calls Try.prog 55 #[.pointer (some ⟨E.v, 0, none⟩)] w fun e w' => e = .returned (.agg #[.int .i64 (wS sz s.visits), .int .i64 (wG sz s.visits)]) ∧ Below w.heap.size w w' := by
  obtain ⟨qs, uv, h⟩ := h
  obtain ⟨uA, uc, hu⟩ := own_slice h.vis
  subst hu
  have HE := Lib.hid h
  have v4 : w.cell? ⟨E.v, 4, none⟩ = some (.slice uA s.visits.length uc) := h.ev.cell (j := 4) (by simp [evL])
  have lv := h.ev.lt
  obtain ⟨A', c', hv', hrv⟩ := nown_reads h.vis
  injection hv' with hv1
  rw [← hv1] at hrv
  have HV := Lib.hid hrv
  have HS : Hid (∀ i, i < s.groups.length → (s.grp i).g.size = sz i) := hs
  have HW := Lib.hid hw
  obtain ⟨X, hX⟩ : ∃ X, X = (w.alloc (.cells #[.int .i64 0, .int .i64 0] 92)).alloc (.cells #[.int .i64 0, .int .i64 0] 92) := ⟨_, rfl⟩
  have bX : Below w.heap.size w X := by subst hX; exact ((Below.refl _ _).alloc (Nat.le_refl _) _).alloc (by rw [World.size_alloc]; omega) _
  have rX : Row X (w.heap.size + 1) 92 [.int .i64 0, .int .i64 0] := by
    subst hX
    have := Row.new (w.alloc (.cells #[.int .i64 0, .int .i64 0] 92)) 92 #[.int .i64 0, .int .i64 0]
    rw [World.size_alloc] at this
    exact this
  have qX : Row X w.heap.size 92 [.int .i64 0, .int .i64 0] := by subst hX; exact (Row.new w 92 #[.int .i64 0, .int .i64 0]).alloc _
  have HBX := Lib.hid bX
  have HRX := Lib.hid rX
  have HQX := Lib.hid qX
  clear h hs hw hv1 hrv bX rX qX
  go_enter Try.func55, Try.ntmps55
  go_upto_region 2 with fail
  rw [← hX]
  clear hX
  have v4 : X.cell? ⟨E.v, 4, none⟩ = some (.slice uA s.visits.length uc) := (HBX.out.cell (p := ⟨E.v, 4, none⟩) lv).trans v4
  have lX : E.v < X.heap.size := Nat.lt_of_lt_of_le lv HBX.out.size
  obtain ⟨n, hnn⟩ : ∃ n, n = s.visits.length := ⟨_, rfl⟩
  rw [← hnn] at v4
  have HN := Lib.hid hnn
  clear hnn
  go_wp2_with fail
  go_loopw [12] (fun i wr => ∃ k : Nat, k ≤ s.visits.length ∧ i = .int .i64 k ∧ Below w.heap.size w wr ∧ Row wr (w.heap.size + 1) 92 [.int .i64 (wS sz (s.visits.take k)), .int .i64 (wG sz (s.visits.take k))] ∧ Row wr w.heap.size 92 [.int .i64 0, .int .i64 0]) (fun i _ => s.visits.length - (intOf i).toNat)
  case atStart => exact ⟨0, Nat.zero_le _, rfl, HBX.out, HRX.out, HQX.out⟩
  case round =>
    obtain ⟨k, hk, rfl, hbel, hrow, hres⟩ := hrel
    have HBw := Lib.hid hbel
    have HRw := Lib.hid hrow
    have HQw := Lib.hid hres
    by_cases hlt : k < s.visits.length
    · have hlt' : (k : Int) < (n : Int) := by rw [HN.out]; omega
      obtain ⟨b3, o3, rfl, hb3, t0, t1, t2, t3, t4, t5⟩ := vis_at (HV.out.below hbel) hlt
      have hvm := List.getElem_mem hlt
      obtain ⟨⟨w1, w2⟩, w3, w4⟩ := w_one HW.out hvm
      obtain ⟨u1, u2, u3⟩ := HW.out.v _ hvm
      obtain ⟨⟨x1, x2⟩, x3, x4⟩ := w_bd HW.out k hk
      have hlen := HW.out.len
      have sn := wS_succ (sz := sz) hlt
      have gn := wG_succ (sz := sz) hlt
      generalize s.visits[k] = v at t0 t1 t2 t3 t4 t5 w1 w2 w3 w4 u1 u2 u3 sn gn
      have HSN := Lib.hid sn
      have HGN := Lib.hid gn
      have lb3 : b3 < wr.heap.size := Nat.lt_of_lt_of_le hb3 hbel.size
      have e1 : IntKind.i64.wrap ((k : Int) + 1) = (k : Int) + 1 := IntWalk.i64_in _ (by omega)
      clear sn gn hbel hrow hres hvm
      go_upto_region 5 with fail
      obtain ⟨Y, hY⟩ : ∃ Y, Y = wr.alloc (.cells #[.int .i64 v.group, .int .i64 v.want, .int .i64 v.ride, .bool v.on, .int .i64 v.came, .int .i64 v.left] 57) := ⟨_, rfl⟩
      rw [← hY]
      have rY : Row Y wr.heap.size 57 [.int .i64 v.group, .int .i64 v.want, .int .i64 v.ride, .bool v.on, .int .i64 v.came, .int .i64 v.left] := by subst hY; exact Row.new wr _ _
      have bY : Below w.heap.size w Y := by subst hY; exact HBw.out.alloc HBw.out.size _
      have gY := HRw.out.alloc (.cells #[.int .i64 v.group, .int .i64 v.want, .int .i64 v.ride, .bool v.on, .int .i64 v.came, .int .i64 v.left] 57)
      rw [← hY] at gY
      have qY := HQw.out.alloc (.cells #[.int .i64 v.group, .int .i64 v.want, .int .i64 v.ride, .bool v.on, .int .i64 v.came, .int .i64 v.left] 57)
      rw [← hY] at qY
      have HQY := Lib.hid qY
      have p0 : Y.cell? ⟨wr.heap.size, 0, none⟩ = some (.int .i64 v.group) := rY.cell (j := 0) (by simp)
      have p3 : Y.cell? ⟨wr.heap.size, 3, none⟩ = some (.bool v.on) := rY.cell (j := 3) (by simp)
      have p4 : Y.cell? ⟨wr.heap.size, 4, none⟩ = some (.int .i64 v.came) := rY.cell (j := 4) (by simp)
      have p5 : Y.cell? ⟨wr.heap.size, 5, none⟩ = some (.int .i64 v.left) := rY.cell (j := 5) (by simp)
      have lY := rY.lt
      have HBY := Lib.hid bY
      have HGY := Lib.hid gY
      have HRY := Lib.hid rY
      clear t0 t1 t2 t3 t4 t5 lb3 hY rY bY gY qY HBw HRw HQw
      cases hon : v.on with
      | true =>
        rw [hon] at p3
        have hg0 : 0 < s.groups.length := by omega
        have c3 := HE.out.v3
        rw [slA_pos hg0] at c3
        have bk := (HE.out.gp hg0).cell u1 (j := 1) (by omega)
        have bk1 : w.cell? ⟨E.G, v.group * 10 + 1, none⟩ = some (.int .i64 (sz v.group)) := by rw [← HS.out _ u1]; exact bk
        have lG := (HE.out.gp hg0).lt
        have y3 : Y.cell? ⟨E.v, 3, none⟩ = some (.slice (some ⟨E.G, 0, none⟩) s.groups.length E.cG) := (HBY.out.cell (p := ⟨E.v, 3, none⟩) lv).trans c3
        have yk := (HBY.out.cell (p := ⟨E.G, v.group * 10 + 1, none⟩) lG).trans bk1
        have lvY : E.v < Y.heap.size := Nat.lt_of_lt_of_le lv HBY.out.size
        have lGY : E.G < Y.heap.size := Nat.lt_of_lt_of_le lG HBY.out.size
        have hi0 : ¬ (v.group : Int) < 0 := by omega
        have hi1 : (v.group : Int) < (s.groups.length : Int) := by omega
        generalize sz v.group = z at w1 w2 w3 w4 yk HSN HGN
        generalize hS0 : wS sz (s.visits.take k) = S0 at *
        generalize hG0 : wG sz (s.visits.take k) = G0 at *
        have e3 : IntKind.i64.wrap (v.left - v.came) = v.left - v.came := IntWalk.i64_in _ (by omega)
        have e4 : IntKind.i64.wrap ((v.left - v.came) * z) = (v.left - v.came) * z := IntWalk.i64_in _ (by omega)
        have e5 : IntKind.i64.wrap (S0 + (v.left - v.came) * z) = S0 + (v.left - v.came) * z := IntWalk.i64_in _ (by omega)
        have e6 : IntKind.i64.wrap (G0 + z) = G0 + z := IntWalk.i64_in _ (by omega)
        clear bk bk1 c3 lG
        go_upto_region 6 with fail
        go_quiet (fail)
        have rZ := HRY.out.drewN nq
        have gZ := HGY.out.drewN nq
        have qZ := HQY.out.drewN nq
        have bZ := below_drewN HBY.out nq
        generalize Y.drewN nq = Z at rZ gZ qZ bZ ⊢
        have p5 : Z.cell? ⟨wr.heap.size, 5, none⟩ = some (.int .i64 v.left) := rZ.cell (j := 5) (by simp)
        have p4 : Z.cell? ⟨wr.heap.size, 4, none⟩ = some (.int .i64 v.came) := rZ.cell (j := 4) (by simp)
        have g0 : Z.cell? ⟨w.heap.size + 1, 0, none⟩ = some (.int .i64 S0) := gZ.cell (j := 0) (by simp)
        have f0 := gZ.frozen 0
        have lg := gZ.lt
        have lr := rZ.lt
        have gW := gZ.set 0 (.int .i64 (S0 + (v.left - v.came) * z))
        have qW := qZ.far (p := ⟨w.heap.size + 1, 0, none⟩) (by show w.heap.size ≠ w.heap.size + 1; omega) (.int .i64 (S0 + (v.left - v.came) * z))
        have bW := bZ.setCell (p := ⟨w.heap.size + 1, 0, none⟩) (by show w.heap.size ≤ w.heap.size + 1; omega) (.int .i64 (S0 + (v.left - v.came) * z))
        have HGW := Lib.hid gW
        have HQW := Lib.hid qW
        have HBW := Lib.hid bW
        clear gZ qZ bZ rZ gW qW bW HRY HGY HQY HBY p0 p3 yk y3
        go_upto_region 7 with (fail)
        go_upto_region 8 with (fail)
        have gV := HGW.out
        have qV := HQW.out
        have bV := HBW.out
        generalize Z.setCell ⟨w.heap.size + 1, 0, none⟩ (.int .i64 (S0 + (v.left - v.came) * z)) = V at gV qV bV ⊢
        have g1 : V.cell? ⟨w.heap.size + 1, 1, none⟩ = some (.int .i64 G0) := gV.cell (j := 1) (by simp)
        have f1 := gV.frozen 1
        have lV := gV.lt
        have gU := gV.set 1 (.int .i64 (G0 + z))
        have qU := qV.far (p := ⟨w.heap.size + 1, 1, none⟩) (by show w.heap.size ≠ w.heap.size + 1; omega) (.int .i64 (G0 + z))
        have bU := bV.setCell (p := ⟨w.heap.size + 1, 1, none⟩) (by show w.heap.size ≤ w.heap.size + 1; omega) (.int .i64 (G0 + z))
        have HGU := Lib.hid gU
        have HQU := Lib.hid qU
        have HBU := Lib.hid bU
        rw [hon, if_pos rfl] at HSN HGN
        clear gV qV bV gU qU bU HGW HQW HBW g0 f0 p4 p5 lr lg
        go_wp2_with fail
        go_roundw
        case rel => exact ⟨k + 1, by omega, by go_num, HBU.out, by rw [HSN.out, HGN.out]; exact HGU.out, HQU.out⟩
        case measure => simp [intOf]; omega
      | false =>
        rw [hon] at p3
        rw [hon, if_neg (by simp)] at HSN HGN
        rw [Int.add_zero] at HSN HGN
        go_wp2_with fail
        go_roundw
        case rel => exact ⟨k + 1, by omega, by go_num, HBY.out, by rw [HSN.out, HGN.out]; exact HGY.out, HQY.out⟩
        case measure => simp [intOf]; omega
    · have hge : ¬ (k : Int) < (n : Int) := by rw [HN.out]; omega
      have ek : k = s.visits.length := by omega
      have HK := Lib.hid ek
      clear ek
      have h0 : wr.cell? ⟨w.heap.size + 1, 0, none⟩ = some (.int .i64 (wS sz (s.visits.take k))) := hrow.cell (j := 0) (by simp)
      have h1 : wr.cell? ⟨w.heap.size + 1, 1, none⟩ = some (.int .i64 (wG sz (s.visits.take k))) := hrow.cell (j := 1) (by simp)
      have lw := hrow.lt
      have k0 : wr.cell? ⟨w.heap.size, 0, none⟩ = some (.int .i64 0) := hres.cell (j := 0) (by simp)
      have k1 : wr.cell? ⟨w.heap.size, 1, none⟩ = some (.int .i64 0) := hres.cell (j := 1) (by simp)
      have lk := hres.lt
      have fk := hres.frozen
      have bR := (hbel.setCell (p := ⟨w.heap.size, 0, none⟩) (Nat.le_refl _) (.int .i64 (wS sz (s.visits.take k)))).setCell (p := ⟨w.heap.size, 1, none⟩) (Nat.le_refl _) (.int .i64 (wG sz (s.visits.take k)))
      have HBR := Lib.hid bR
      clear bR hbel
      go_wp2_with fail
      refine bodyPost_ret (v := .agg #[.int .i64 (wS sz s.visits), .int .i64 (wG sz s.visits)]) ?_ rfl ⟨rfl, HBR.out⟩
      rw [HK.out, List.take_length]
      rw [results_cell rfl]
      go_simp
end Go.Proofs.Ytijbhcdnbaaobaa
