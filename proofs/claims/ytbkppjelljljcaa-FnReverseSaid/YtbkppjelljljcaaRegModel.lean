/- Contracts of the model's steps back and jumps; both sides answer alike. -/
import Derived.Test.YtbkppjelljljcaaRegStep
namespace Go.Proofs.Ytbkppjelljljcaa
open Go.RowKit
end Go.Proofs.Ytbkppjelljljcaa
