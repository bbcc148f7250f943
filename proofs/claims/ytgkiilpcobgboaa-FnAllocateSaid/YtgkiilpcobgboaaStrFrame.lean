/- What the frames share: slices of strings, and of numbers, that came in. -/
import Derived.Test.YtgkiilpcobgboaaRegFrame
import Derived.Test.YtgkiilpcobgboaaStrs
import Derived.Deep.Strs
namespace Go.Proofs.Ytgkiilpcobgboaa
open Go.ChangeShapes Go.WideShapes Go.ChangeAt Go.RowKit Go.Joins
open Go.ChangeMaps (open_string shut_string)
set_option linter.unusedVariables false
end Go.Proofs.Ytgkiilpcobgboaa
