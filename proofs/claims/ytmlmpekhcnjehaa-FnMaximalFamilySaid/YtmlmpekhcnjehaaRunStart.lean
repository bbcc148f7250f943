/- startsWith of the program: whether the bits of a register begin with a text. -/
import Derived.Test.YtmlmpekhcnjehaaRunReg
import Derived.Test.YtmlmpekhcnjehaaSeqTurn
namespace Go.Proofs.Ytmlmpekhcnjehaa
open Go.RowKit Go.Shelf
set_option linter.unusedVariables false
attribute [local go_sem] Oper.semAt_some
end Go.Proofs.Ytmlmpekhcnjehaa
