/- The laws' marks on slices of strings: markText, markStringS, heldStringS. -/
import Derived.Test.YtbkppjelljljcaaStrs
import Derived.Test.YtbkppjelljljcaaSeqFun
import Derived.Deep.RegionHeld3
namespace Go.Proofs.Ytbkppjelljljcaa
open Go.RowKit
set_option linter.unusedVariables false
end Go.Proofs.Ytbkppjelljljcaa
