/- Contracts of the model's steps back and jumps; both sides answer alike. -/
import Derived.Test.YtmlmpekhcnjehaaRegStep
namespace Go.Proofs.Ytmlmpekhcnjehaa
open Go.RowKit
end Go.Proofs.Ytmlmpekhcnjehaa
