/- What the small functions of package biba return: whether there is a user or a file (isUser, isFile), what is wrong with levels (check). -/
import Derived.WalkKit
import Derived.LoopTactic
import Derived.Test.YtkkhcgapfklmjaaDoorGen
namespace Go.Proofs.YtkkhcgapfklmjaaDoor
open Go.RowKit
set_option maxRecDepth 100000

/-- Is a number a level? -/
def IsLev (z : Int) : Prop := 0 ≤ z ∧ z ≤ 7
/-- Are all of them levels? -/
def AllLev (n : Nat) (zs : List Int) : Prop := ∀ i, i < n → IsLev (zs[i]?.getD 0)
theorem allLev_or (n : Nat) (zs : List Int) : AllLev n zs ∨ ∃ i, i < n ∧ ¬ IsLev (zs[i]?.getD 0) := by
  by_cases h : AllLev n zs
  · exact .inl h
  · refine .inr (Classical.byContradiction fun hn => h fun i hi => Classical.byContradiction fun hl => hn ⟨i, hi, hl⟩)
/-- What is wrong with levels. -/
def levCode (n : Nat) (zs : List Int) (c : Int) : Prop := (c = 4 ∧ 8 < n) ∨ (c = 0 ∧ n ≤ 8 ∧ AllLev n zs) ∨ (c = 1 ∧ n ≤ 8 ∧ ∃ i, i < n ∧ ¬ IsLev (zs[i]?.getD 0))
theorem levCode_some (n : Nat) (zs : List Int) : ∃ c, levCode n zs c := by
  by_cases h : 8 < n
  · exact ⟨4, .inl ⟨rfl, h⟩⟩
  · rcases allLev_or n zs with hl | hl
    · exact ⟨0, .inr (.inl ⟨rfl, by omega, hl⟩)⟩
    · exact ⟨1, .inr (.inr ⟨rfl, by omega, hl⟩)⟩
end Go.Proofs.YtkkhcgapfklmjaaDoor
