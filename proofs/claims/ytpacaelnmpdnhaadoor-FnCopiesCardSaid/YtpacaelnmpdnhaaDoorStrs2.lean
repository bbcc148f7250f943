/- The laws' marks on slices of strings: markText, markStringS, heldStringS. -/
import Derived.Test.YtpacaelnmpdnhaaDoorStrs
import Derived.Test.YtpacaelnmpdnhaaDoorSeqFun
import Derived.Deep.RegionHeld3
namespace Go.Proofs.YtpacaelnmpdnhaaDoor
open Go.RowKit
set_option linter.unusedVariables false
end Go.Proofs.YtpacaelnmpdnhaaDoor
