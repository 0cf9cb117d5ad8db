/- What is read has just the text that was read. -/
import Derived.WalkKit
import Derived.LoopTactic
import Derived.OwnWalk
import Derived.Laws.Strings
import Derived.Laws.Strings2
import Derived.KernelRfl
import Derived.Test.YtahdbhehaoeemaaDoorPrwD
import Derived.Test.YtahdbhehaoeemaaDoorProO
namespace Go.Proofs.YtahdbhehaoeemaaDoor
open Go.RowKit
set_option maxRecDepth 100000
set_option linter.unusedVariables false

theorem fact_red : redP [97, 61, 43, 98, 35, 50, 59] = .ok [⟨1, 1, 0, 0, 0⟩, ⟨0, 2, 0, 0, 0⟩, ⟨2, 0, 0, 1, 0⟩, ⟨6, 0, 2, 0, 0⟩] := by kernel_rfl
theorem LibT.call {w w' : World} (h : LibT w.heap.size w) (k : Below w.heap.size w w') : LibT w'.heap.size w' := (h.on k).up k.size
end Go.Proofs.YtahdbhehaoeemaaDoor
