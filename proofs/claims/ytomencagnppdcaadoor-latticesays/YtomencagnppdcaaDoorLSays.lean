/- The walk of the law LatticeSays. -/
import Derived.WalkKit
import Derived.LoopTactic
import Derived.Test.YtomencagnppdcaaDoorLattice
import Derived.Test.YtomencagnppdcaaDoorRefBo
namespace Go.Proofs.YtomencagnppdcaaDoor
open Go.RowKit

set_option maxRecDepth 100000 in
set_option maxHeartbeats 1000000 in
theorem lsays_wrong (a : Option Addr) (m cap : Nat) (x y c : Int) (hc : (c == 0) = false) (w : World)
    (hErr : ∀ w1, Below w.heap.size w w1 → ErrT w1)
    (hR : Calls Tryd.prog 8 #[.slice a m cap] w fun e w' => e = .returned (.int .i64 c) ∧ w' = w)
    (hI : ∀ w1, Below w.heap.size w w1 → Calls Tryd.prog 11 #[.slice a m cap] w1 fun e w' => e = .returned (.tuple #[.bool false, .iface 51 (.int .i64 c)]) ∧ Below w1.heap.size w1 w')
    (hJ : ∀ w1, Below w.heap.size w w1 → Calls Tryd.prog 13 #[.slice a m cap, .int .i64 x, .int .i64 y] w1 fun e w' => e = .returned (.tuple #[.int .i64 0, .iface 51 (.int .i64 c)]) ∧ Below w1.heap.size w1 w')
    (hM : ∀ w1, Below w.heap.size w w1 → Calls Tryd.prog 14 #[.slice a m cap, .int .i64 x, .int .i64 y] w1 fun e w' => e = .returned (.tuple #[.int .i64 0, .iface 51 (.int .i64 c)]) ∧ Below w1.heap.size w1 w') :
    Calls Tryd.prog 3 #[.slice a m cap, .int .i64 x, .int .i64 y] w fun e w' => e = .returned (.bool true) ∧ Below w.heap.size w w' := by
  have hB : Below w.heap.size w w := Below.refl _ _
  go_enter Tryd.func3, Tryd.ntmps3
  go_wp2_with (go_at_call 8; refine hR.mono ?_; rintro e w' ⟨rfl, rfl⟩)
  go_loop [8, 9] (fun is i => is = .bool false ∧ i = .int .i64 0) (fun _ _ => 0)
  case atStart => exact ⟨rfl, rfl⟩
  case round =>
    obtain ⟨rfl, rfl⟩ := hrel
    by_cases hpos : 0 < m
    · have hpi : (0 : Int) < (m : Int) := by omega
      go_wp2_with (first | (go_at_call 11; refine (hI _ hB).mono ?_; rintro e w1 ⟨rfl, S⟩; replace hB := hB.trans (S.mono hB.size); clear S) | (go_at_call 12; refine (error_held _ _ _ (hErr _ hB) (.inr rfl)).mono ?_; rintro e w1 ⟨rfl, S⟩; replace hB := hB.trans (S.mono hB.size); clear S) | (go_at_call 13; refine (hJ _ hB).mono ?_; rintro e w1 ⟨rfl, S⟩; replace hB := hB.trans (S.mono hB.size); clear S) | (go_at_call 14; refine (hM _ hB).mono ?_; rintro e w1 ⟨rfl, S⟩; replace hB := hB.trans (S.mono hB.size); clear S))
      go_ret
      exact ⟨rfl, hB⟩
    · have hpi : ¬ (0 : Int) < (m : Int) := by omega
      go_wp2_with (first | (go_at_call 11; refine (hI _ hB).mono ?_; rintro e w1 ⟨rfl, S⟩; replace hB := hB.trans (S.mono hB.size); clear S) | (go_at_call 12; refine (error_held _ _ _ (hErr _ hB) (.inr rfl)).mono ?_; rintro e w1 ⟨rfl, S⟩; replace hB := hB.trans (S.mono hB.size); clear S) | (go_at_call 13; refine (hJ _ hB).mono ?_; rintro e w1 ⟨rfl, S⟩; replace hB := hB.trans (S.mono hB.size); clear S) | (go_at_call 14; refine (hM _ hB).mono ?_; rintro e w1 ⟨rfl, S⟩; replace hB := hB.trans (S.mono hB.size); clear S))
      go_ret
      exact ⟨rfl, hB⟩

set_option maxRecDepth 100000 in
set_option maxHeartbeats 1000000 in
theorem lsays_ring (a : Option Addr) (m cap : Nat) (x y : Int) (w : World)
    (hErr : ∀ w1, Below w.heap.size w w1 → ErrT w1)
    (hR : Calls Tryd.prog 8 #[.slice a m cap] w fun e w' => e = .returned (.int .i64 0) ∧ w' = w)
    (hO : Calls Tryd.prog 9 #[.slice a m cap] w fun e w' => e = .returned (.bool false) ∧ Below w.heap.size w w')
    (hI : ∀ w1, Below w.heap.size w w1 → Calls Tryd.prog 11 #[.slice a m cap] w1 fun e w' => e = .returned (.tuple #[.bool false, .iface 51 (.int .i64 6)]) ∧ Below w1.heap.size w1 w')
    (hJ : ∀ w1, Below w.heap.size w w1 → Calls Tryd.prog 13 #[.slice a m cap, .int .i64 x, .int .i64 y] w1 fun e w' => e = .returned (.tuple #[.int .i64 0, .iface 51 (.int .i64 6)]) ∧ Below w1.heap.size w1 w')
    (hM : ∀ w1, Below w.heap.size w w1 → Calls Tryd.prog 14 #[.slice a m cap, .int .i64 x, .int .i64 y] w1 fun e w' => e = .returned (.tuple #[.int .i64 0, .iface 51 (.int .i64 6)]) ∧ Below w1.heap.size w1 w') :
    Calls Tryd.prog 3 #[.slice a m cap, .int .i64 x, .int .i64 y] w fun e w' => e = .returned (.bool true) ∧ Below w.heap.size w w' := by
  go_enter Tryd.func3, Tryd.ntmps3
  go_wp2_with (first | (go_at_call 8; refine hR.mono ?_; rintro e w' ⟨rfl, rfl⟩) | (go_at_call 9; refine hO.mono ?_; rintro e w1 ⟨rfl, hB⟩))
  go_loop [8, 9] (fun is i => is = .bool false ∧ i = .int .i64 0) (fun _ _ => 0)
  case atStart => exact ⟨rfl, rfl⟩
  case round =>
    obtain ⟨rfl, rfl⟩ := hrel
    by_cases hpos : 0 < m
    · have hpi : (0 : Int) < (m : Int) := by omega
      go_wp2_with (first | (go_at_call 11; refine (hI _ hB).mono ?_; rintro e w1 ⟨rfl, S⟩; replace hB := hB.trans (S.mono hB.size); clear S) | (go_at_call 12; refine (error_held _ _ _ (hErr _ hB) (.inr rfl)).mono ?_; rintro e w1 ⟨rfl, S⟩; replace hB := hB.trans (S.mono hB.size); clear S) | (go_at_call 13; refine (hJ _ hB).mono ?_; rintro e w1 ⟨rfl, S⟩; replace hB := hB.trans (S.mono hB.size); clear S) | (go_at_call 14; refine (hM _ hB).mono ?_; rintro e w1 ⟨rfl, S⟩; replace hB := hB.trans (S.mono hB.size); clear S))
      go_ret
      exact ⟨rfl, hB⟩
    · have hpi : ¬ (0 : Int) < (m : Int) := by omega
      go_wp2_with (first | (go_at_call 11; refine (hI _ hB).mono ?_; rintro e w1 ⟨rfl, S⟩; replace hB := hB.trans (S.mono hB.size); clear S) | (go_at_call 12; refine (error_held _ _ _ (hErr _ hB) (.inr rfl)).mono ?_; rintro e w1 ⟨rfl, S⟩; replace hB := hB.trans (S.mono hB.size); clear S) | (go_at_call 13; refine (hJ _ hB).mono ?_; rintro e w1 ⟨rfl, S⟩; replace hB := hB.trans (S.mono hB.size); clear S) | (go_at_call 14; refine (hM _ hB).mono ?_; rintro e w1 ⟨rfl, S⟩; replace hB := hB.trans (S.mono hB.size); clear S))
      go_ret
      exact ⟨rfl, hB⟩

/-- One of two numbers is no thing, as the law asks it. -/
def Out4 (m : Nat) (x y : Int) : Prop := x < 0 ∨ (0 ≤ x ∧ (m : Int) ≤ x) ∨ (0 ≤ x ∧ x < m ∧ y < 0) ∨ (0 ≤ x ∧ x < m ∧ 0 ≤ y ∧ (m : Int) ≤ y)
theorem out4_of {m : Nat} {x y : Int} (h : Off2 m x y) : Out4 m x y := by
  unfold Out4
  rcases h with (h | h) | ⟨i, rfl, hi, h | h⟩ <;> omega
/-- What the law's end is told of two numbers. -/
def LTail (w : World) (a : Option Addr) (m cap : Nat) (x y : Int) : Prop :=
  (Out4 m x y ∧ (∀ w1, Below w.heap.size w w1 → Calls Tryd.prog 13 #[.slice a m cap, .int .i64 x, .int .i64 y] w1 fun e w' => e = .returned (.tuple #[.int .i64 0, .iface 51 (.int .i64 1)]) ∧ Below w1.heap.size w1 w') ∧
    (∀ w1, Below w.heap.size w w1 → Calls Tryd.prog 14 #[.slice a m cap, .int .i64 x, .int .i64 y] w1 fun e w' => e = .returned (.tuple #[.int .i64 0, .iface 51 (.int .i64 1)]) ∧ Below w1.heap.size w1 w')) ∨
  ∃ (p q : Nat) (o1 o2 : Option Nat), x = p ∧ y = q ∧ p < m ∧ q < m ∧
    (∀ w1, Below w.heap.size w w1 → Calls Tryd.prog 10 #[.slice a m cap, .int .i64 p, .int .i64 q, .bool false] w1 fun e w' => e = .returned (.tuple (refRes o1)) ∧ Below w1.heap.size w1 w') ∧
    (∀ w1, Below w.heap.size w w1 → Calls Tryd.prog 10 #[.slice a m cap, .int .i64 p, .int .i64 q, .bool true] w1 fun e w' => e = .returned (.tuple (refRes o2)) ∧ Below w1.heap.size w1 w') ∧
    (∀ w1, Below w.heap.size w w1 → Calls Tryd.prog 13 #[.slice a m cap, .int .i64 p, .int .i64 q] w1 fun e w' => e = .returned (.tuple (bndRes o1)) ∧ Below w1.heap.size w1 w') ∧
    (∀ w1, Below w.heap.size w w1 → Calls Tryd.prog 14 #[.slice a m cap, .int .i64 p, .int .i64 q] w1 fun e w' => e = .returned (.tuple (bndRes o2)) ∧ Below w1.heap.size w1 w')

set_option maxRecDepth 100000 in
set_option maxHeartbeats 1000000 in
theorem lsays_none (a : Option Addr) (cap : Nat) (x y : Int) (w : World)
    (hErr : ∀ w1, Below w.heap.size w w1 → ErrT w1)
    (hR : Calls Tryd.prog 8 #[.slice a 0 cap] w fun e w' => e = .returned (.int .i64 0) ∧ w' = w)
    (hO : Calls Tryd.prog 9 #[.slice a 0 cap] w fun e w' => e = .returned (.bool true) ∧ Below w.heap.size w w')
    (hI : ∀ w1, Below w.heap.size w w1 → Calls Tryd.prog 11 #[.slice a 0 cap] w1 fun e w' => e = .returned (.tuple #[.bool false, .nilIface]) ∧ Below w1.heap.size w1 w')
    (hJ : ∀ w1, Below w.heap.size w w1 → Calls Tryd.prog 13 #[.slice a 0 cap, .int .i64 x, .int .i64 y] w1 fun e w' => e = .returned (.tuple #[.int .i64 0, .iface 51 (.int .i64 1)]) ∧ Below w1.heap.size w1 w')
    (hM : ∀ w1, Below w.heap.size w w1 → Calls Tryd.prog 14 #[.slice a 0 cap, .int .i64 x, .int .i64 y] w1 fun e w' => e = .returned (.tuple #[.int .i64 0, .iface 51 (.int .i64 1)]) ∧ Below w1.heap.size w1 w') :
    Calls Tryd.prog 3 #[.slice a 0 cap, .int .i64 x, .int .i64 y] w fun e w' => e = .returned (.bool true) ∧ Below w.heap.size w w' := by
  go_enter Tryd.func3, Tryd.ntmps3
  go_wp2_with (first | (go_at_call 8; refine hR.mono ?_; rintro e w' ⟨rfl, rfl⟩) | (go_at_call 9; refine hO.mono ?_; rintro e w1 ⟨rfl, hB⟩))
  go_loop [8, 9] (fun is i => is = .bool false ∧ i = .int .i64 0) (fun _ _ => 0)
  case atStart => exact ⟨rfl, rfl⟩
  case round =>
    obtain ⟨rfl, rfl⟩ := hrel
    by_cases hx : x < 0
    · go_wp2_with (first | (go_at_call 11; refine (hI _ hB).mono ?_; rintro e w1 ⟨rfl, S⟩; replace hB := hB.trans (S.mono hB.size); clear S) | (go_at_call 12; refine (error_held _ _ _ (hErr _ hB) (by first | exact .inl ⟨rfl, rfl⟩ | exact .inr rfl)).mono ?_; rintro e w1 ⟨rfl, S⟩; replace hB := hB.trans (S.mono hB.size); clear S) | (go_at_call 13; refine (hJ _ hB).mono ?_; rintro e w1 ⟨rfl, S⟩; replace hB := hB.trans (S.mono hB.size); clear S) | (go_at_call 14; refine (hM _ hB).mono ?_; rintro e w1 ⟨rfl, S⟩; replace hB := hB.trans (S.mono hB.size); clear S))
      go_ret
      exact ⟨rfl, hB⟩
    · have hx' : 0 ≤ x := by omega
      go_wp2_with (first | (go_at_call 11; refine (hI _ hB).mono ?_; rintro e w1 ⟨rfl, S⟩; replace hB := hB.trans (S.mono hB.size); clear S) | (go_at_call 12; refine (error_held _ _ _ (hErr _ hB) (by first | exact .inl ⟨rfl, rfl⟩ | exact .inr rfl)).mono ?_; rintro e w1 ⟨rfl, S⟩; replace hB := hB.trans (S.mono hB.size); clear S) | (go_at_call 13; refine (hJ _ hB).mono ?_; rintro e w1 ⟨rfl, S⟩; replace hB := hB.trans (S.mono hB.size); clear S) | (go_at_call 14; refine (hM _ hB).mono ?_; rintro e w1 ⟨rfl, S⟩; replace hB := hB.trans (S.mono hB.size); clear S))
      go_ret
      exact ⟨rfl, hB⟩
end Go.Proofs.YtomencagnppdcaaDoor
