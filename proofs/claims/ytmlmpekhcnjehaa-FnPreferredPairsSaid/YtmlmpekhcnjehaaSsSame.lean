/- ssInts of two lists of the call's own with the same numbers. -/
import Derived.Test.YtmlmpekhcnjehaaInts
import Derived.BigQuiet
namespace Go.Proofs.Ytmlmpekhcnjehaa
open Go.RowKit
set_option linter.unusedVariables false
end Go.Proofs.Ytmlmpekhcnjehaa
