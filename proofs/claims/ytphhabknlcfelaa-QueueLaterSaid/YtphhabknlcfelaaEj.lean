/- Contracts of cmp.Or at numbers and of the order of queue's visits. Conditions: the visits' numbers are small. -/
import Derived.Test.YtphhabknlcfelaaEi
import Derived.Test.YtphhabknlcfelaaJd
import Derived.Test.YtphhabknlcfelaaSg
namespace Go.Proofs
open Go.Shelf Go.RowKit Go.Lib Go.Sort
namespace Ytphhabknlcfelaa

def orZ : List Int → Int
  | [] => 0
  | x :: l => if x ≠ 0 then x else orZ l
set_option maxHeartbeats 1000000 in
theorem cmpOr_any (l : List Int) (A : Option Addr) (c B : Nat) (w : World) (hr : Reads w B 1 A l.length (l.map (Value.int .i64))) (_ : B ≤ w.heap.size) (hm : l.length ≤ 1000) :
    Calls Try.prog 66 #[.slice A l.length c] w fun e w' => e = .returned (.int .i64 (orZ l)) ∧ w = w' := by
  have HR := Lib.hid hr
  clear hr
  go_enter Try.func66, Try.ntmps66
  go_wp2_with fail
  go_loop [8] (fun i => ∃ k : Nat, k ≤ l.length ∧ i = .int .i64 k ∧ orZ (l.drop k) = orZ l) (fun i => l.length - (intOf i).toNat)
  case atStart => exact ⟨0, Nat.zero_le _, rfl, rfl⟩
  case round =>
    obtain ⟨k, hk, rfl, ho⟩ := hrel
    by_cases hlt : k < l.length
    · have hlt' : (k : Int) < (l.length : Int) := by omega
      obtain ⟨b, o, rfl, hb, hc⟩ := HR.out.2 (by omega)
      have ck : w.cell? ⟨b, o + k, none⟩ = some (.int .i64 l[k]) := hc k _ (by rw [List.getElem?_map, List.getElem?_eq_getElem hlt]; rfl)
      rw [List.drop_eq_getElem_cons hlt] at ho
      have Ho := Lib.hid ho
      clear hc ho
      by_cases hz : l[k] = 0
      · have hd : (l[k] != 0) = false := by rw [hz]; rfl
        have HZ := Lib.hid hz
        clear hz
        go_wp2_with fail
        go_round
        case rel => exact ⟨k + 1, by omega, by go_num, by rw [← Ho.out]; simp [orZ, HZ.out]⟩
        case measure => simp [intOf]; omega
      · have hd : (l[k] != 0) = true := by simpa using hz
        have HZ := Lib.hid hz
        go_wp2_with fail
        go_ret
        exact ⟨by rw [← Ho.out]; simp only [orZ, ne_eq, HZ.out, not_false_eq_true, if_true]; rfl, rfl⟩
    · have hge : ¬ (k : Int) < (l.length : Int) := by omega
      have ek : k = l.length := by omega
      have Ho : Hid (0 = orZ l) := by show _ = _; rw [← ho, ek, List.drop_length]; rfl
      clear ek ho
      go_wp2_with fail
      go_ret
      exact ⟨by rw [← Ho.out]; rfl, rfl⟩
/-- The order that the program sorts by. -/
def cfV (x y : VisZ) : Int := orZ [x.left - y.left, (x.group : Int) - (y.group : Int), x.want - y.want]
theorem row_three (X : World) (g : Nat) (a b c : Int) (hr : Row X g 3 [.int .i64 a, .int .i64 b, .int .i64 c]) : Calls Try.prog 66 #[.slice (some ⟨g, 0, none⟩) 3 3] X fun e w' => e = .returned (.int .i64 (orZ [a, b, c])) ∧ X = w' :=
  cmpOr_any [a, b, c] (some ⟨g, 0, none⟩) 3 X.heap.size X (hr.reads (n := 3) (size := 1) rfl hr.lt) (Nat.le_refl _) (by simp)
set_option maxHeartbeats 1000000 in
theorem before_any (x y : VisZ) (hx : SmallV x) (hy : SmallV y) (W : World) : Calls Try.prog 65 #[.agg (visL x).toArray, .agg (visL y).toArray] W fun e w' => e = .returned (.int .i64 (cfV x y)) ∧ ∃ q os', w' = grow (W.drewN q) os' := by
  obtain ⟨⟨x1, x2⟩, x3, x4, x5⟩ := hx
  obtain ⟨⟨y1, y2⟩, y3, y4, y5⟩ := hy
  unfold visL cfV
  have e1 : IntKind.i64.wrap (x.left - y.left) = x.left - y.left := IntWalk.i64_in _ (by omega)
  have e2 : IntKind.i64.wrap ((x.group : Int) - (y.group : Int)) = (x.group : Int) - (y.group : Int) := IntWalk.i64_in _ (by omega)
  have e3 : IntKind.i64.wrap (x.want - y.want) = x.want - y.want := IntWalk.i64_in _ (by omega)
  clear x1 x2 x3 x4 x5 y1 y2 y3 y4 y5
  generalize hd1 : x.left - y.left = d1 at e1 ⊢
  generalize hd2 : (x.group : Int) - (y.group : Int) = d2 at e2 ⊢
  generalize hd3 : x.want - y.want = d3 at e3 ⊢
  go_enter Try.func65, Try.ntmps65
  go_wp2_with fail
  have hrow : ∀ (V : World) (g : Nat), g = V.heap.size → Row (V.alloc (.cells #[.int .i64 d1, .int .i64 d2, .int .i64 d3] 3)) g 3 [.int .i64 d1, .int .i64 d2, .int .i64 d3] := fun V g hg => by subst hg; exact Row.new V _ _
  refine (row_three _ _ d1 d2 d3 (hrow _ _ (by simp only [World.size_alloc]))).mono ?_
  rintro e w' ⟨rfl, rfl⟩
  go_wp2_with fail
  go_ret
  exact ⟨rfl, 0, _, by rw [alloc_eq_grow, alloc_eq_grow, alloc_eq_grow, grow_grow, grow_grow]; rfl⟩
end Ytphhabknlcfelaa
end Go.Proofs
