/- Digests' names: the document's own. -/
import Derived.Test.YtencpplopdogmaaDoorSa
namespace Go.Proofs.YtencpplopdogmaaDoor
set_option maxRecDepth 100000
open Go.RowKit
set_option linter.unusedVariables false

end Go.Proofs.YtencpplopdogmaaDoor
