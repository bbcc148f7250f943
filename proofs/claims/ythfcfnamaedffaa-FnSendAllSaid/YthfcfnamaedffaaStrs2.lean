/- The laws' marks on slices of strings: markText, markStringS, heldStringS. -/
import Derived.Test.YthfcfnamaedffaaStrs
import Derived.Test.YthfcfnamaedffaaSeqFun
import Derived.Deep.RegionHeld3
namespace Go.Proofs.Ythfcfnamaedffaa
open Go.RowKit
set_option linter.unusedVariables false
end Go.Proofs.Ythfcfnamaedffaa
