/- Contracts of the model's steps back and jumps; both sides answer alike. -/
import Derived.Test.YtkkakfkebjdkeaaRegStep
namespace Go.Proofs.Ytkkakfkebjdkeaa
open Go.RowKit
end Go.Proofs.Ytkkakfkebjdkeaa
