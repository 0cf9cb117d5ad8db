/- Whether two lists are the same (Ints); what the closure of any relation is (Closure); the closed fact. -/
import Derived.WalkKit
import Derived.LoopTactic
import Derived.Deep.QuietTactic
import Derived.BigQuiet
import Derived.Test.YtdmdoikkemfcaaaDoorCheck
namespace Go.Proofs.YtdmdoikkemfcaaaDoor
open Go.RowKit

/-- The rows of m numbers that are sets. -/
def rowsOf (m : Nat) (zs : List Int) : List Nat := (zs.take m).map Int.toNat
theorem rowsOf_get {m : Nat} {zs : List Int} (h : ∀ i, i < m → Good m (zs[i]?.getD 0)) {i : Nat} (hi : i < m) : ((rowsOf m zs).getD i 0 : Int) = zs[i]?.getD 0 := by
  have := (h i hi).1
  unfold rowsOf
  rw [List.getD_eq_getElem?_getD, List.getElem?_map, List.getElem?_take, if_pos hi]
  cases hz : zs[i]? with
  | none => simp
  | some z => rw [hz] at this; simp at this ⊢; omega

end Go.Proofs.YtdmdoikkemfcaaaDoor
