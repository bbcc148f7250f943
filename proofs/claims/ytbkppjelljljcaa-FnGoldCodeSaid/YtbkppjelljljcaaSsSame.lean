/- ssInts of two lists of the call's own with the same numbers. -/
import Derived.Test.YtbkppjelljljcaaInts
import Derived.BigQuiet
namespace Go.Proofs.Ytbkppjelljljcaa
open Go.RowKit
set_option linter.unusedVariables false
end Go.Proofs.Ytbkppjelljljcaa
