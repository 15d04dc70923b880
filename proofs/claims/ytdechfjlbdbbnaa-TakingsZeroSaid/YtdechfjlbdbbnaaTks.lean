/- Contract of takings' Rents. Conditions: numbers that read as data. -/
import Derived.Test.YtdechfjlbdbbnaaTkl
import Derived.Test.YtdechfjlbdbbnaaAp
import Derived.Deep.OwnRows
namespace Go.Proofs.Ytdechfjlbdbbnaa
open Go.RowKit Go.Shelf

theorem nown_rdT {w : World} {base size n : Nat} {e : TypeId} {v : Value} {xs : List Value} (h : w.ownsRow base e size v n xs) : ∃ A c, v = .slice A n c ∧ Reads w w.heap.size size A n xs := by
  rcases Nat.eq_zero_or_pos n with h0 | h0
  · subst h0
    have hx : xs = [] := List.eq_nil_of_length_eq_zero (by simpa using h.1)
    subst hx
    rcases h.2 with ⟨rfl, _⟩ | ⟨g, cap, cur, rfl, _⟩
    · exact ⟨none, 0, rfl, ⟨by simp, fun h => absurd h (by omega)⟩⟩
    · exact ⟨_, _, rfl, ⟨by simp, fun h => absurd h (by omega)⟩⟩
  · obtain ⟨g, cap, rfl, _, hlt⟩ := World.ownsRow.form h h0
    exact ⟨_, _, rfl, (Row.of_own h).1.reads h.1 hlt⟩
theorem row_oneT (w : World) (t : TypeId) (cs : Array Value) (g : Nat) (hg : g = w.heap.size) : Row (w.alloc (.cells cs t)) g t cs.toList := by subst hg; exact Row.new w t cs
/-- What Rents returns. -/
def rentsL (l : List Int) (p least : Int) : List Int := l.map fun t => rentZ t p least
def rentsB (l : List Int) (p least : Int) : Bool := allB l 0 1000000000 && inB least 0 1000000000 && inB p 0 100
def rentsR (l : List Int) (p least : Int) : List Int × Int × Int := if 60 < l.length then ([], 0, 2) else if rentsB l p least = false then ([], 0, 1) else (rentsL l p least, sumW (rentsL l p least), 0)
/-- A list, a number and an error. -/
def TkTo3 (w : World) (L : List Int) (n e0 : Int) (e : Ending) (w' : World) : Prop :=
  ∃ A' c', e = .returned (.tuple #[.slice A' L.length c', .int .i64 n, .int .i64 e0]) ∧ Reads w' w'.heap.size 1 A' L.length (L.map (Value.int .i64)) ∧ Below w.heap.size w w'
theorem rents_snoc (l : List Int) (p least : Int) (k : Nat) (h : k < l.length) : rentsL (l.take (k + 1)) p least = rentsL (l.take k) p least ++ [rentZ (wAt l k) p least] := by
  unfold rentsL
  rw [List.take_succ_eq_append_getElem h, List.map_append]
  have : wAt l k = l[k] := by unfold wAt; rw [List.getElem?_eq_getElem h]; rfl
  rw [this]; rfl
set_option maxHeartbeats 4000000 in
set_option maxRecDepth 100000 in
theorem Rents_any (l : List Int) (p least : Int) (A : Option Addr) (ca B : Nat) (w : World) (hB : B ≤ w.heap.size) (hr : Reads w B 1 A l.length (l.map (Value.int .i64))) (hm : l.length ≤ maxLen) :
    Calls Try.prog 21 #[.slice A l.length ca, .int .i64 p, .int .i64 least] w (TkTo3 w (rentsR l p least).1 (rentsR l p least).2.1 (rentsR l p least).2.2) := by
  obtain ⟨i0, hi, hz0, hz1, hz2⟩ := info_parts Try.info_intT
  have HV : Hid (rentsR l p least = if 60 < l.length then ([], 0, 2) else if rentsB l p least = false then ([], 0, 1) else (rentsL l p least, sumW (rentsL l p least), 0)) := rfl
  have HVB : Hid (rentsB l p least = (allB l 0 1000000000 && inB least 0 1000000000 && inB p 0 100)) := rfl
  by_cases h60 : 60 < l.length
  · rw [show rentsR l p least = ([], 0, 2) by rw [HV.out, if_pos h60]]
    have hz : (60 : Int) < (l.length : Int) := by omega
    clear hr
    go_enter Try.func21, Try.ntmps21
    go_wp2_with fail
    go_ret3
    exact ⟨none, 0, rfl, Reads.none_, Below.refl _ _⟩
  have hz : ¬ (60 : Int) < (l.length : Int) := by omega
  rw [if_neg h60] at HV
  have H1 := Lib.hid (areAmounts_any l A l.length ca B w hr hm)
  obtain ⟨W, hW⟩ : ∃ W, W = w.alloc (.cells #[.int .i64 least] 3) := ⟨_, rfl⟩
  have bW : Below w.heap.size w W := by subst hW; exact (Below.refl _ _).alloc (Nat.le_refl _) _
  have H2 : Hid (∀ k, Calls Try.prog 38 #[.slice (some ⟨w.heap.size, 0, none⟩) 1 k] (w.alloc (.cells #[.int .i64 least] 3)) fun e w' => e = .returned (.bool (inB least 0 1000000000)) ∧ w' = W) := fun k => by
    rw [hW]
    exact (am_new w k least).mono fun e w' h => ⟨h.1, h.2.symm⟩
  have H3 : Hid (Calls Try.prog 45 #[.int .i64 p] W fun e w' => e = .returned (.bool (inB p 0 100)) ∧ Below w.heap.size w w') := (isPercent_any p W).mono fun e w' h => ⟨h.1, bW.trans (h.2.mono bW.size)⟩
  have HB := Lib.hid bW
  clear hW bW
  by_cases hb : rentsB l p least = false
  · rw [if_pos hb] at HV
    rw [HV.out]
    rw [HVB.out] at hb
    clear hr HV HVB
    cases h1 : allB l 0 1000000000 with
    | false =>
      rw [h1] at H1
      clear hb h1
      go_enter Try.func21, Try.ntmps21
      go_wp2_with (go_at_call 38; with_reducible refine H1.out.mono ?_; rintro e w' ⟨rfl, rfl⟩)
      go_ret3
      exact ⟨none, 0, rfl, Reads.none_, Below.refl _ _⟩
    | true =>
      rw [h1] at H1 hb
      cases h2 : inB least 0 1000000000 with
      | false =>
        rw [h2] at H2
        clear hb h1 h2
        go_enter Try.func21, Try.ntmps21
        go_wp2_with (first | (go_at_call 38; with_reducible refine H1.out.mono ?_; rintro e w' ⟨rfl, rfl⟩) | (go_at_call 38; with_reducible refine (H2.out _).mono ?_; rintro e w' ⟨rfl, rfl⟩))
        go_ret3
        exact ⟨none, 0, rfl, Reads.none_, HB.out⟩
      | true =>
        rw [h2] at H2 hb
        have h3 : inB p 0 100 = false := by simpa using hb
        rw [h3] at H3
        clear hb h1 h2 h3
        go_enter Try.func21, Try.ntmps21
        go_wp2_with (first | (go_at_call 38; with_reducible refine H1.out.mono ?_; rintro e w' ⟨rfl, rfl⟩) | (go_at_call 38; with_reducible refine (H2.out _).mono ?_; rintro e w' ⟨rfl, rfl⟩) | (go_at_call 45; with_reducible refine H3.out.mono ?_; rintro e w' ⟨rfl, hx⟩; have HX := Lib.hid hx; clear hx H3))
        go_ret3
        exact ⟨none, 0, rfl, Reads.none_, HX.out⟩
  have hb' : (allB l 0 1000000000 && inB least 0 1000000000 && inB p 0 100) = true := by rw [← HVB.out]; simpa using hb
  rw [if_neg hb] at HV
  rw [HV.out]
  simp only [Bool.and_eq_true] at hb'
  obtain ⟨⟨h1, h2⟩, h3⟩ := hb'
  rw [h1] at H1
  rw [h2] at H2
  rw [h3] at H3
  have HL := Lib.hid (fun i hi => allB_at (i := i) h1 hi)
  have HP := Lib.hid (inB_le h3)
  have hrd := Lib.hid hr
  clear hb h1 h2 h3 HV HVB hr
  have hn60 : l.length ≤ 60 := by omega
  go_enter Try.func21, Try.ntmps21
  go_upto_region 5 with (first | (go_at_call 38; with_reducible refine H1.out.mono ?_; rintro e w' ⟨rfl, rfl⟩) | (go_at_call 38; with_reducible refine (H2.out _).mono ?_; rintro e w' ⟨rfl, rfl⟩) | (go_at_call 45; with_reducible refine H3.out.mono ?_; rintro e w' ⟨rfl, hx⟩; have HX := Lib.hid hx; clear hx H3))
  go_wp2_with fail
  clear H1 H2
  go_loopw [6, 30] (fun v i wr => ∃ k : Nat, k ≤ l.length ∧ i = .int .i64 k ∧ wr.ownsRow w.heap.size 3 1 v k ((rentsL (l.take k) p least).map (Value.int .i64)) ∧ Below w.heap.size w wr) (fun _ i _ => l.length - (intOf i).toNat)
  case atStart => exact ⟨0, Nat.zero_le _, rfl, owns_nil _ _ _ _, HX.out⟩
  case round =>
    obtain ⟨k, hk, rfl, hown, hbel⟩ := hrel
    by_cases hlt : k < l.length
    · have hlt' : (k : Int) < (l.length : Int) := by omega
      have i0' : ¬ (k : Int) < 0 := by omega
      obtain ⟨b, o, rfl, hbB, hc⟩ := hrd.out.at1 hlt
      have hck := hc k hlt
      have lb : b < w.heap.size := by omega
      have cw : wr.cell? ⟨b, o + k, none⟩ = some (.int .i64 (wAt l k)) := by rw [hbel.cell (p := ⟨b, o + k, none⟩) lb]; exact hck
      have lbr : b < wr.heap.size := Nat.lt_of_lt_of_le lb hbel.size
      have ew : IntKind.i64.wrap ((k : Int) + 1) = (k : Int) + 1 := IntWalk.i64_in _ (by omega)
      have HRt := Lib.hid (rent_any (wAt l k) p least wr (HL.out k hlt) HP.out)
      have Hsn := Lib.hid (rents_snoc l p least k hlt)
      have hs := hbel.size
      have Hbe := Lib.hid hbel
      clear hc hck hbel
      generalize rentZ (wAt l k) p least = rz at HRt Hsn
      have m1 : k + 1 ≤ maxLen := by unfold maxLen; omega
      have m2 : (k + 1) * 8 ≤ 140737488355328 := by omega
      go_wp2_with (first
        | (go_at_call 46; refine HRt.out.mono ?_; rintro e w' ⟨rfl, rfl⟩)
        | (at_builtin; refine wpList_app _ rfl _ _ 22 rfl w.heap.size 3 i0 (.int .i64 0) 1 8 Try.underlying22 hi hz0 hz1 hz2 rfl (by decide) u6 k ((rentsL (l.take k) p least).map (Value.int .i64)) rfl ?qo (wr.heap.size + 1) (some ⟨wr.heap.size, 0, none⟩) 1 1 [.int .i64 rz] rfl ?qr ?q1 m1 m2 ?qb ?_))
      case qo => first | exact owns_alloc hown _ | exact owns_alloc (owns_drewN hown _) _ | exact owns_drewN (owns_alloc hown _) _
      case qr =>
        refine Row.reads (t := 3) ?_ rfl (by omega)
        show Row _ _ _ [.int .i64 rz]
        first | exact row_oneT _ _ _ _ (by simp; done) | exact (row_oneT _ _ _ _ (by simp; done)).drewN _
      case q1 => intro u hu; simp at hu; subst hu; rfl
      case qb => simp; omega
      intro v' w1 hown' hbel'
      go_wp2_with fail
      go_roundw
      case rel =>
        refine ⟨k + 1, by omega, by go_num, by rw [Hsn.out, List.map_append]; exact hown', Below.trans ?_ hbel'⟩
        repeat (first | (with_reducible exact Hbe.out) | (with_reducible exact hs) | (with_reducible refine below_drewN ?_ _) | (with_reducible refine Below.alloc ?_ ?_ _) | (simp; omega))
      case measure => simp [intOf]; omega
    · have ek : k = l.length := by omega
      have Hk := Lib.hid ek
      have hlen : k = (rentsL l p least).length := by rw [ek]; simp [rentsL]
      obtain ⟨A', c', hv, hrd'⟩ := nown_rdT hown
      subst hv
      have hrd2 : Reads wr wr.heap.size 1 A' k ((rentsL l p least).map (Value.int .i64)) := by
        rw [Hk.out, List.take_length] at hrd'
        rw [Hk.out]
        exact hrd'
      have HTot := Lib.hid (total_any (rentsL l p least) A' k c' wr.heap.size wr hrd2 (by unfold maxLen; omega))
      have HRd := Lib.hid hrd2
      have Hbe := Lib.hid hbel
      have HLn := Lib.hid hlen
      have hge : ¬ (k : Int) < (l.length : Int) := by omega
      clear hrd' hrd2 hbel hown hlen ek
      go_wp2_with (go_at_call 47; refine HTot.out.mono ?_; rintro e w' ⟨rfl, rfl⟩)
      go_ret3
      refine ⟨A', c', by rw [← HLn.out]; rfl, ?_, Hbe.out⟩
      rw [← HLn.out]
      exact HRd.out
end Go.Proofs.Ytdechfjlbdbbnaa
