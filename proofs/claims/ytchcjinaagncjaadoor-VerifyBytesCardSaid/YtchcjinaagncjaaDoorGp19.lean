/- burinbook.SpoilInsts. -/
import Derived.Test.YtchcjinaagncjaaDoorGp5
namespace Go.Proofs.YtchcjinaagncjaaDoor
open Go.RowKit
set_option linter.unusedVariables false
namespace Pgm
end Pgm
end Go.Proofs.YtchcjinaagncjaaDoor
