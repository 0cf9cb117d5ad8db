/- Whether a label is below another one, as the document has it (Below). -/
import Derived.WalkKit
import Derived.LoopTactic
import Derived.Test.YtomencagnppdcaaDoorLabOpen
namespace Go.Proofs.YtomencagnppdcaaDoor
open Go.RowKit
set_option maxRecDepth 100000

end Go.Proofs.YtomencagnppdcaaDoor
