/- startsWith of the program: whether the bits of a register begin with a text. -/
import Derived.Test.YtkkakfkebjdkeaaRunReg
import Derived.Test.YtkkakfkebjdkeaaSeqTurn
namespace Go.Proofs.Ytkkakfkebjdkeaa
open Go.RowKit Go.Shelf
set_option linter.unusedVariables false
attribute [local go_sem] Oper.semAt_some
end Go.Proofs.Ytkkakfkebjdkeaa
