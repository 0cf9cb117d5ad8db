/- Whether a label is below another one, as the document has it (Below). -/
import Derived.WalkKit
import Derived.LoopTactic
import Derived.Test.YtdmdoikkemfcaaaDoorLabOpen
namespace Go.Proofs.YtdmdoikkemfcaaaDoor
open Go.RowKit
set_option maxRecDepth 100000

end Go.Proofs.YtdmdoikkemfcaaaDoor
