/- Write: what any program's text is, or what is wrong. -/
import Derived.WalkKit
import Derived.LoopTactic
import Derived.OwnWalk
import Derived.Laws.Strings
import Derived.Laws.Strings2
import Derived.Test.YtahdbhehaoeemaaDoorPrwC
namespace Go.Proofs.YtahdbhehaoeemaaDoor
open Go.RowKit
set_option maxRecDepth 100000
set_option linter.unusedVariables false

/-- What Write answers. -/
def WriteV (w : World) (l : List Nod) (E : Ending) (w' : World) : Prop :=
  Below w.heap.size w w' ∧ E = .returned (if proC l ≠ 0 then .tuple #[.string ⟨#[]⟩, errV (proC l)] else if 300 < (txN l (lstI l)).length then .tuple #[.string ⟨#[]⟩, errV 4] else .tuple #[.string (strB (txN l (lstI l))), .nilIface])
end Go.Proofs.YtahdbhehaoeemaaDoor
