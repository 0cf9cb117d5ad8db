/- The walk of the law TopLabels where there is nothing to ask: no labels, too many, or no such two. -/
import Derived.WalkKit
import Derived.LoopTactic
import Derived.Test.YtomencagnppdcaaDoorLabel
namespace Go.Proofs.YtomencagnppdcaaDoor
open Go.RowKit
set_option maxRecDepth 100000

set_option maxHeartbeats 2000000 in
theorem topLab_out (a : Option Addr) (m cap : Nat) (x y : Int) (w : World) (h : m = 0 ∨ (((m : Int) == 0) = false ∧ (12 : Int) < (m : Int)) ∨ (((m : Int) == 0) = false ∧ (m : Int) ≤ 12 ∧ x < 0) ∨ (((m : Int) == 0) = false ∧ (m : Int) ≤ 12 ∧ 0 ≤ x ∧ (m : Int) ≤ x)
      ∨ (((m : Int) == 0) = false ∧ (m : Int) ≤ 12 ∧ 0 ≤ x ∧ x < (m : Int) ∧ y < 0) ∨ (((m : Int) == 0) = false ∧ (m : Int) ≤ 12 ∧ 0 ≤ x ∧ x < (m : Int) ∧ 0 ≤ y ∧ (m : Int) ≤ y)) :
    Calls Tryd.prog 7 #[.slice a m cap, .int .i64 x, .int .i64 y] w fun e w' => e = .returned (.bool true) ∧ Below w.heap.size w w' := by
  have hb0 : ∀ W, Calls Tryd.prog 19 #[lab 1 1, lab 2 3] W fun e w' => e = .returned (.tuple #[.bool true, .nilIface]) ∧ Below W.heap.size W w' := fun W => labBelow_ok 1 1 2 3 (by decide) (by decide) (by decide) (by decide) W
  rcases h with rfl | ⟨h0, h1⟩ | ⟨h0, h1, h2⟩ | ⟨h0, h1, h2, h3⟩ | ⟨h0, h1, h2, h3, h4⟩ | ⟨h0, h1, h2, h3, h4, h5⟩
  all_goals as_aux_lemma =>
    go_enter Tryd.func7, Tryd.ntmps7
    go_wp2_with (go_at_call 19; refine (hb0 _).mono ?_; clear hb0; rintro e w1 ⟨rfl, hB1⟩)
    go_ret
    exact ⟨rfl, hB1⟩
theorem top_cases (m : Nat) (x y : Int) : (∃ i j : Nat, x = i ∧ y = j ∧ 0 < m ∧ m ≤ 12 ∧ i < m ∧ j < m) ∨ m = 0 ∨ (((m : Int) == 0) = false ∧ (12 : Int) < (m : Int)) ∨ (((m : Int) == 0) = false ∧ (m : Int) ≤ 12 ∧ x < 0) ∨ (((m : Int) == 0) = false ∧ (m : Int) ≤ 12 ∧ 0 ≤ x ∧ (m : Int) ≤ x)
      ∨ (((m : Int) == 0) = false ∧ (m : Int) ≤ 12 ∧ 0 ≤ x ∧ x < (m : Int) ∧ y < 0) ∨ (((m : Int) == 0) = false ∧ (m : Int) ≤ 12 ∧ 0 ≤ x ∧ x < (m : Int) ∧ 0 ≤ y ∧ (m : Int) ≤ y) := by
  rcases Nat.eq_zero_or_pos m with h0 | h0
  · exact .inr (.inl h0)
  · have hz : ((m : Int) == 0) = false := by simp; omega
    by_cases h1 : m ≤ 12
    · by_cases h2 : x < 0
      · exact .inr (.inr (.inr (.inl ⟨hz, by omega, h2⟩)))
      · by_cases h3 : (m : Int) ≤ x
        · exact .inr (.inr (.inr (.inr (.inl ⟨hz, by omega, by omega, h3⟩))))
        · by_cases h4 : y < 0
          · exact .inr (.inr (.inr (.inr (.inr (.inl ⟨hz, by omega, by omega, by omega, h4⟩)))))
          · by_cases h5 : (m : Int) ≤ y
            · exact .inr (.inr (.inr (.inr (.inr (.inr ⟨hz, by omega, by omega, by omega, by omega, h5⟩)))))
            · exact .inl ⟨x.toNat, y.toNat, by omega, by omega, h0, h1, by omega, by omega⟩
    · exact .inr (.inr (.inl ⟨hz, by omega⟩))
end Go.Proofs.YtomencagnppdcaaDoor
