/- What is wrong with a program, as the document has it (in, value, Parts). -/
import Derived.WalkKit
import Derived.LoopTactic
import Derived.OwnWalk
import Derived.Laws.MakeOwn
import Derived.Deep.QuietTactic
import Derived.BigQuiet
import Derived.Test.YtdmdoikkemfcaabDoorProG
import Derived.Test.YtdmdoikkemfcaabDoorProE
namespace Go.Proofs.YtdmdoikkemfcaabDoor
open Go.RowKit
set_option maxRecDepth 100000

/-- Numbers that lie in a block of their own, behind B. -/
def NewNums (w : World) (B : Nat) (a : Option Addr) (l : List Int) : Prop := l = [] ∨ ∃ b, a = some ⟨b, 0, none⟩ ∧ B ≤ b ∧ ∀ (j : Nat) (v : Int), l[j]? = some v → w.cell? ⟨b, j, none⟩ = some (.int .i64 v)
theorem newNums_of (w : World) (l : List Int) (cs : Array Value) (t : TypeId) (h : ∀ (j : Nat) (v : Int), l[j]? = some v → cs[j]? = some (Value.int .i64 v)) : NewNums (w.alloc (.cells cs t)) w.heap.size (some ⟨w.heap.size, 0, none⟩) l := by
  refine .inr ⟨w.heap.size, rfl, Nat.le_refl _, fun j v hj => ?_⟩
  have h1 := World.alloc_heap_new w (.cells cs t)
  simp only [World.cell?]
  rw [h1]
  simpa using h j v hj
end Go.Proofs.YtdmdoikkemfcaabDoor
