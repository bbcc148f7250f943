/- The laws' marks on slices of strings: markText, markStringS, heldStringS. -/
import Derived.Test.YtpcogmpnmkmoeabStrs
import Derived.Test.YtpcogmpnmkmoeabSeqFun
import Derived.Deep.RegionHeld3
namespace Go.Proofs.Ytpcogmpnmkmoeab
open Go.RowKit
set_option linter.unusedVariables false
end Go.Proofs.Ytpcogmpnmkmoeab
