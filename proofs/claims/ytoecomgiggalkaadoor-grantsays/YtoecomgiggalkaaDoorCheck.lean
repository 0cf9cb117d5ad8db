/- What is told of a relation (Check), and whether two lists are the same (Ints). -/
import Derived.WalkKit
import Derived.LoopTactic
import Derived.Outline
import Derived.Deep.QuietTactic
import Derived.BigQuiet
import Derived.Test.YtoecomgiggalkaaDoorClosure
import Derived.Test.YtoecomgiggalkaaDoorSets
namespace Go.Proofs.YtoecomgiggalkaaDoor
open Go.RowKit

/-- A number is a set of m things. -/
def IsRow (m : Nat) (z : Int) : Prop := 0 ≤ z ∧ z < (2 ^ m : Nat)

/-- Is a number a set of m things? -/
def goodB (m : Nat) (z : Int) : Bool := decide (0 ≤ z ∧ z < ((2 ^ m : Nat) : Int))
theorem goodB_yes {m : Nat} {z : Int} (h : IsRow m z) : goodB m z = true := decide_eq_true h
theorem goodB_no {m : Nat} {z : Int} (h : ¬ IsRow m z) : goodB m z = false := decide_eq_false h

/-- Are two lists of m numbers the same? -/
def sameB (m : Nat) (xs ys : List Nat) : Bool := (List.range m).all fun i => xs.getD i 0 == ys.getD i 0
theorem sameB_iff (m : Nat) (xs ys : List Nat) : sameB m xs ys = true ↔ ∀ i, i < m → xs.getD i 0 = ys.getD i 0 := by
  simp [sameB]
end Go.Proofs.YtoecomgiggalkaaDoor
