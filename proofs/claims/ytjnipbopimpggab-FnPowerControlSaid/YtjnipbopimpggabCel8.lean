/- PowerStep of the model. -/
import Derived.Test.YtjnipbopimpggabCel7
namespace Go.Proofs.Ytjnipbopimpggab
open Go.RowKit
set_option linter.unusedVariables false
set_option maxRecDepth 100000
end Go.Proofs.Ytjnipbopimpggab
