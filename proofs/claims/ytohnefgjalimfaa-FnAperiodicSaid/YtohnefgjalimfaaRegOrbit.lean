/- Contracts of orbitOf of the program. -/
import Derived.Test.YtohnefgjalimfaaRegBase
import Derived.Test.YtohnefgjalimfaaOrbMath
namespace Go.Proofs.Ytohnefgjalimfaa
open Go.RowKit
end Go.Proofs.Ytohnefgjalimfaa
