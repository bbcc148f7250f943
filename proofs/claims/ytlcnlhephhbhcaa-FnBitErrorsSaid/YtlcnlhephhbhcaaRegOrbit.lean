/- Contracts of orbitOf of the program. -/
import Derived.Test.YtlcnlhephhbhcaaRegBase
import Derived.Test.YtlcnlhephhbhcaaOrbMath
namespace Go.Proofs.Ytlcnlhephhbhcaa
open Go.RowKit
end Go.Proofs.Ytlcnlhephhbhcaa
