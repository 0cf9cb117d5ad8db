/- What is wrong with a program, its variables and fuel, as the document has it (Running). -/
import Derived.WalkKit
import Derived.LoopTactic
import Derived.OwnWalk
import Derived.Test.YtioimgeeamchaaaDoorRunB
import Derived.Test.YtioimgeeamchaaaDoorProR
namespace Go.Proofs.YtioimgeeamchaaaDoor
open Go.RowKit
set_option maxRecDepth 100000
set_option linter.unusedVariables false

/-- What is wrong with a program, so many variables, and fuel. -/
def runC (l : List Nod) (n : Nat) (s : Nat → Int) (F : Int) : Int :=
  if proC l ≠ 0 then proC l else if n ≠ 6 then 3 else if (List.range 6).any (fun j => decide (s j < 0 ∨ 999999 < s j)) = true then 1 else if F < 0 ∨ 5000 < F then 1 else 0
theorem runC_ok {l : List Nod} {n : Nat} {s : Nat → Int} {F : Int} (h : runC l n s F = 0) : proC l = 0 ∧ n = 6 ∧ Bnd6 s ∧ 0 ≤ F ∧ F ≤ 5000 := by
  unfold runC at h
  split at h
  · rename_i q; exact absurd h q
  rename_i q
  split at h
  · cases h
  rename_i q2
  split at h
  · cases h
  rename_i q3
  split at h
  · cases h
  rename_i q4
  refine ⟨Classical.not_not.1 q, by omega, fun j hj => ?_, by omega, by omega⟩
  simp only [List.any_eq_true, List.mem_range, decide_eq_true_eq, not_exists, not_and] at q3
  have := q3 j hj
  omega
theorem bnd_any {s : Nat → Int} (h : Bnd6 s) : (List.range 6).any (fun j => decide (s j < 0 ∨ 999999 < s j)) = false := by
  rw [List.any_eq_false]
  intro j hj
  have := h j (List.mem_range.1 hj)
  simp
  omega
theorem bad_any {s : Nat → Int} {j : Nat} (hj : j < 6) (h : s j < 0 ∨ 999999 < s j) : (List.range 6).any (fun j => decide (s j < 0 ∨ 999999 < s j)) = true := by
  rw [List.any_eq_true]
  exact ⟨j, List.mem_range.2 hj, by simpa using h⟩
end Go.Proofs.YtioimgeeamchaaaDoor
