/- Contracts of the model's steps back and jumps; both sides answer alike. -/
import Derived.Test.YtcofaceadobdiaaRegStep
namespace Go.Proofs.Ytcofaceadobdiaa
open Go.RowKit
end Go.Proofs.Ytcofaceadobdiaa
