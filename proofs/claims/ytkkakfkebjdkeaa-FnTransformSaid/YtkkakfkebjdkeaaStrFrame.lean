/- What the frames share: slices of strings, and of numbers, that came in. -/
import Derived.Test.YtkkakfkebjdkeaaRegFrame
import Derived.Test.YtkkakfkebjdkeaaStrs
import Derived.Deep.Strs
namespace Go.Proofs.Ytkkakfkebjdkeaa
open Go.ChangeShapes Go.WideShapes Go.ChangeAt Go.RowKit Go.Joins
open Go.ChangeMaps (open_string shut_string)
set_option linter.unusedVariables false
end Go.Proofs.Ytkkakfkebjdkeaa
