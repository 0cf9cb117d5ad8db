/- The walk of the law RelSays. -/
import Derived.WalkKit
import Derived.LoopTactic
import Derived.Test.YtfdappdcihljdaaDoorHeld
import Derived.Test.YtfdappdcihljdaaDoorRefRe
import Derived.Test.YtfdappdcihljdaaDoorRefWa
import Derived.Test.YtfdappdcihljdaaDoorWays
namespace Go.Proofs.YtfdappdcihljdaaDoor
open Go.RowKit

/-- Which way is told, and by which number it is told that there is none. -/
def WayIs (w : World) (a : Option Addr) (m cap : Nat) (x y : Int) (nz : Nat) (fz : Nat → Nat) (g : Int) : Prop :=
  (Out m x y ∧ nz = 0 ∧ g = 1) ∨ ∃ (i j : Nat) (is : Bool), x = i ∧ y = j ∧ i < m ∧ j < m ∧ g = (if is then 0 else 5) ∧
    ∀ w1, Below w.heap.size w w1 → Calls Tryd.prog 14 #[.slice a m cap, .int .i64 i, .int .i64 j] w1 fun e w' => ∃ v, e = .returned (.tuple #[v, .bool is]) ∧ Held w' v nz fz ∧ Below w1.heap.size w1 w'

set_option maxRecDepth 100000 in
set_option maxHeartbeats 4000000 in
theorem says_fine (a : Option Addr) (m cap : Nat) (hm : m ≤ 12) (x y : Int) (w : World) (o : Bool) (C fy fz : Nat → Nat) (ny nz : Nat) (hny : ny ≤ 4096) (hnz : nz ≤ 4096) (g : Int)
    (hErr : ∀ w1, Below w.heap.size w w1 → ErrT w1)
    (h8 : ∀ w1, Below w.heap.size w w1 → Calls Tryd.prog 8 #[.slice a m cap] w1 fun e w' => e = .returned (.int .i64 0) ∧ Below w1.heap.size w1 w')
    (h10 : ∀ w1, Below w.heap.size w w1 → Calls Tryd.prog 10 #[.slice a m cap] w1 fun e w' => e = .returned .nilIface ∧ Below w1.heap.size w1 w')
    (h11 : ∀ w1, Below w.heap.size w w1 → Calls Tryd.prog 11 #[.slice a m cap] w1 fun e w' => ∃ v, e = .returned v ∧ Held w' v m C ∧ Below w1.heap.size w1 w')
    (h12 : ∀ w1, Below w.heap.size w w1 → Calls Tryd.prog 12 #[.slice a m cap] w1 fun e w' => e = .returned (.bool o) ∧ Below w1.heap.size w1 w')
    (h13 : o = true → ∀ w1, Below w.heap.size w w1 → Calls Tryd.prog 13 #[.slice a m cap] w1 fun e w' => ∃ v, e = .returned v ∧ Held w' v ny fy ∧ Below w1.heap.size w1 w')
    (hoy : o = false → ny = 0)
    (hway : WayIs w a m cap x y nz fz g)
    (h15 : ∀ w1, Below w.heap.size w w1 → Calls Tryd.prog 15 #[.slice a m cap] w1 fun e w' => ∃ v er, e = .returned (.tuple #[v, er]) ∧ Held w' v m C ∧ Errs er 0 ∧ Below w1.heap.size w1 w')
    (h17 : ∀ w1, Below w.heap.size w w1 → Calls Tryd.prog 17 #[.slice a m cap] w1 fun e w' => ∃ er, e = .returned (.tuple #[.bool o, er]) ∧ Errs er 0 ∧ Below w1.heap.size w1 w')
    (h18 : ∀ w1, Below w.heap.size w w1 → Calls Tryd.prog 18 #[.slice a m cap] w1 fun e w' => ∃ v er, e = .returned (.tuple #[v, er]) ∧ Held w' v ny fy ∧ Errs er (if o then 0 else 6) ∧ Below w1.heap.size w1 w')
    (h19 : ∀ w1, Below w.heap.size w w1 → Calls Tryd.prog 19 #[.slice a m cap, .int .i64 x, .int .i64 y] w1 fun e w' => ∃ v er, e = .returned (.tuple #[v, er]) ∧ Held w' v nz fz ∧ Errs er g ∧ Below w1.heap.size w1 w') :
    Calls Tryd.prog 3 #[.slice a m cap, .int .i64 x, .int .i64 y] w fun e w' => e = .returned (.bool true) ∧ Below w.heap.size w w' := by
  have hB : Below w.heap.size w w := Below.refl _ _
  cases o
  case' false => have hy0 := hoy rfl; subst hy0; clear h13
  case' true => replace h13 := h13 rfl
  all_goals
    clear hoy
    simp only [if_true, Bool.false_eq_true, if_false] at h18
    rcases hway with ⟨h | ⟨h, h'⟩ | ⟨h, h', h2⟩ | ⟨h, h', h2, h2'⟩, rfl, rfl⟩ | ⟨i, j, is, rfl, rfl, hi, hj, rfl, h14⟩
  case' false.inr => cases is
  case' true.inr => cases is
  all_goals
    try simp only [if_true, Bool.false_eq_true, if_false] at h19
    try have hii : (i : Int) < (m : Int) := by omega
    try have hjj : (j : Int) < (m : Int) := by omega
    go_enter Tryd.func3, Tryd.ntmps3
    go_wp2_with (first | (go_at_call 8; refine (h8 _ hB).mono ?_; rintro e w1 ⟨rfl, S⟩; (try replace hX := hX.below S); (try replace hY := hY.below S); (try replace hZ := hZ.below S); (try replace hV := hV.below S); replace hB := hB.trans (S.mono hB.size); clear S) | (go_at_call 10; refine (h10 _ hB).mono ?_; rintro e w1 ⟨rfl, S⟩; have hEr : Errs .nilIface 0 := .inl ⟨rfl, rfl⟩; (try replace hX := hX.below S); (try replace hY := hY.below S); (try replace hZ := hZ.below S); (try replace hV := hV.below S); replace hB := hB.trans (S.mono hB.size); clear S) | (go_at_call 9; refine (error_held _ _ _ (hErr _ hB) hEr).mono ?_; clear hEr; rintro e w1 ⟨rfl, S⟩; (try replace hX := hX.below S); (try replace hY := hY.below S); (try replace hZ := hZ.below S); (try replace hV := hV.below S); replace hB := hB.trans (S.mono hB.size); clear S) | (go_at_call 11; refine (h11 _ hB).mono ?_; rintro e w1 ⟨vx, rfl, hX, S⟩; replace hB := hB.trans (S.mono hB.size); clear S) | (go_at_call 12; refine (h12 _ hB).mono ?_; rintro e w1 ⟨rfl, S⟩; (try replace hX := hX.below S); (try replace hY := hY.below S); (try replace hZ := hZ.below S); (try replace hV := hV.below S); replace hB := hB.trans (S.mono hB.size); clear S) | (go_at_call 13; refine (h13 _ hB).mono ?_; rintro e w1 ⟨vy, rfl, hY, S⟩; replace hX := hX.below S; replace hB := hB.trans (S.mono hB.size); clear S) | (go_at_call 14; refine (h14 _ hB).mono ?_; rintro e w1 ⟨vz, rfl, hZ, S⟩; replace hX := hX.below S; (try replace hY := hY.below S); replace hB := hB.trans (S.mono hB.size); clear S) | (go_at_call 15; refine (h15 _ hB).mono ?_; rintro e w1 ⟨v, er, rfl, hV, hEr, S⟩; (try replace hX := hX.below S); (try replace hY := hY.below S); (try replace hZ := hZ.below S); replace hB := hB.trans (S.mono hB.size); clear S))
    go_wp2_with (first | (go_at_call 16; refine (ints_held _ _ _ _ _ (by omega) hV hX).mono ?_; clear hV; rintro e w1 ⟨rfl, S⟩; (try replace hX := hX.below S); (try replace hY := hY.below S); (try replace hZ := hZ.below S); (try replace hV := hV.below S); replace hB := hB.trans (S.mono hB.size); clear S) | (go_at_call 17; refine (h17 _ hB).mono ?_; rintro e w1 ⟨er, rfl, hEr, S⟩; (try replace hX := hX.below S); (try replace hY := hY.below S); (try replace hZ := hZ.below S); (try replace hV := hV.below S); replace hB := hB.trans (S.mono hB.size); clear S) | (go_at_call 9; refine (error_held _ _ _ (hErr _ hB) hEr).mono ?_; clear hEr; rintro e w1 ⟨rfl, S⟩; (try replace hX := hX.below S); (try replace hY := hY.below S); (try replace hZ := hZ.below S); (try replace hV := hV.below S); replace hB := hB.trans (S.mono hB.size); clear S) | (go_at_call 18; refine (h18 _ hB).mono ?_; rintro e w1 ⟨v, er, rfl, hV, hEr, S⟩; (try replace hX := hX.below S); (try replace hY := hY.below S); (try replace hZ := hZ.below S); replace hB := hB.trans (S.mono hB.size); clear S))
    go_wp2_with (first | (go_at_call 16; refine (ints_held _ _ _ _ _ (by omega) hV hY).mono ?_; clear hV; rintro e w1 ⟨rfl, S⟩; (try replace hX := hX.below S); (try replace hY := hY.below S); (try replace hZ := hZ.below S); (try replace hV := hV.below S); replace hB := hB.trans (S.mono hB.size); clear S) | (go_at_call 16; refine (ints_held _ _ _ _ _ (by omega) hV (Held.nil _ _)).mono ?_; clear hV; rintro e w1 ⟨rfl, S⟩; (try replace hX := hX.below S); (try replace hY := hY.below S); (try replace hZ := hZ.below S); (try replace hV := hV.below S); replace hB := hB.trans (S.mono hB.size); clear S) | (go_at_call 19; refine (h19 _ hB).mono ?_; rintro e w1 ⟨v, er, rfl, hV, hEr, S⟩; (try replace hX := hX.below S); (try replace hY := hY.below S); (try replace hZ := hZ.below S); replace hB := hB.trans (S.mono hB.size); clear S) | (go_at_call 9; refine (error_held _ _ _ (hErr _ hB) hEr).mono ?_; clear hEr; rintro e w1 ⟨rfl, S⟩; (try replace hX := hX.below S); (try replace hY := hY.below S); (try replace hZ := hZ.below S); (try replace hV := hV.below S); replace hB := hB.trans (S.mono hB.size); clear S))
    go_wp2_with (first | (go_at_call 16; refine (ints_held _ _ _ _ _ (by omega) hV hZ).mono ?_; clear hV; rintro e w1 ⟨rfl, S⟩; (try replace hX := hX.below S); (try replace hY := hY.below S); (try replace hZ := hZ.below S); (try replace hV := hV.below S); replace hB := hB.trans (S.mono hB.size); clear S) | (go_at_call 16; refine (ints_held _ _ _ _ _ (by omega) hV (Held.nil _ _)).mono ?_; clear hV; rintro e w1 ⟨rfl, S⟩; (try replace hX := hX.below S); (try replace hY := hY.below S); (try replace hZ := hZ.below S); (try replace hV := hV.below S); replace hB := hB.trans (S.mono hB.size); clear S))
    go_ret
    exact ⟨rfl, hB⟩
end Go.Proofs.YtfdappdcihljdaaDoor
