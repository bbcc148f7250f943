/- ssInts of two lists of the call's own with the same numbers. -/
import Derived.Test.YtgfehabpoebaoaaInts
import Derived.BigQuiet
namespace Go.Proofs.Ytgfehabpoebaoaa
open Go.RowKit
set_option linter.unusedVariables false
end Go.Proofs.Ytgfehabpoebaoaa
