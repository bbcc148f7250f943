/- startsWith of the program: whether the bits of a register begin with a text. -/
import Derived.Test.YtbkppjelljljcaaRunReg
import Derived.Test.YtbkppjelljljcaaSeqTurn
namespace Go.Proofs.Ytbkppjelljljcaa
open Go.RowKit Go.Shelf
set_option linter.unusedVariables false
attribute [local go_sem] Oper.semAt_some
end Go.Proofs.Ytbkppjelljljcaa
