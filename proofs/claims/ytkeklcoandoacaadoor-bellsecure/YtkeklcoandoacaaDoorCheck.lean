/- What is told of a relation (Check), and whether two lists are the same (Ints). -/
import Derived.WalkKit
import Derived.LoopTactic
import Derived.Outline
import Derived.Deep.QuietTactic
import Derived.BigQuiet
import Derived.Test.YtkeklcoandoacaaDoorClosure
import Derived.Test.YtkeklcoandoacaaDoorSets
namespace Go.Proofs.YtkeklcoandoacaaDoor
open Go.RowKit

/-- Numbers lie in memory. -/
structure Nums (w : World) (b off m : Nat) (zs : List Int) : Prop where
  old : b < w.heap.size
  cell : ∀ i, i < m → w.cell? ⟨b, off + i, none⟩ = some (.int .i64 (zs[i]?.getD 0))
/-- A slice of m numbers; of none it may lie anywhere. -/
def AtNums (w : World) (a : Option Addr) (m : Nat) (zs : List Int) : Prop := m = 0 ∨ ∃ b off, a = some ⟨b, off, none⟩ ∧ Nums w b off m zs
/-- A number is a set of m things. -/
def Good (m : Nat) (z : Int) : Prop := 0 ≤ z ∧ z < (2 ^ m : Nat)

/-- Are two lists of m numbers the same? -/
def sameB (m : Nat) (xs ys : List Nat) : Bool := (List.range m).all fun i => xs.getD i 0 == ys.getD i 0
theorem sameB_iff (m : Nat) (xs ys : List Nat) : sameB m xs ys = true ↔ ∀ i, i < m → xs.getD i 0 = ys.getD i 0 := by
  simp [sameB]
end Go.Proofs.YtkeklcoandoacaaDoor
