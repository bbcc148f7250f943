/- Contracts of the draws of a register and of a count: l1Open, l1Count, DrawRunRegister. -/
import Derived.Test.YtbllmgdnhjdphacDraw4
namespace Go.Proofs.Ytbllmgdnhjdphac
open Go.RowKit
set_option linter.unusedVariables false
end Go.Proofs.Ytbllmgdnhjdphac
