/- Whether a number is from one to another one, and what is wrong with a label, as the document has it (in, Label). -/
import Derived.WalkKit
import Derived.LoopTactic
import Derived.Test.YtomencagnppdcaaDoorRefs
import Derived.Test.YtomencagnppdcaaDoorRefBel
namespace Go.Proofs.YtomencagnppdcaaDoor
open Go.RowKit
set_option maxRecDepth 100000

end Go.Proofs.YtomencagnppdcaaDoor
