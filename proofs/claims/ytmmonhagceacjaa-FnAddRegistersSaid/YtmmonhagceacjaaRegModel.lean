/- Contracts of the model's steps back and jumps; both sides answer alike. -/
import Derived.Test.YtmmonhagceacjaaRegStep
namespace Go.Proofs.Ytmmonhagceacjaa
open Go.RowKit
end Go.Proofs.Ytmmonhagceacjaa
