/- Contracts of the draws for steps back and jumps. -/
import Derived.Test.YtmmonhagceacjaaDraw2
namespace Go.Proofs.Ytmmonhagceacjaa
open Go.RowKit
/-- A register was drawn, of numbers that fit; what was there is as it was. -/
def DrawReg (w : World) (e : Ending) (w' : World) : Prop :=
  ∃ S T X : Int, e = .returned (.agg #[.int .i64 S, .int .i64 T, .int .i64 X]) ∧ FitsI S ∧ FitsI T ∧ FitsI X ∧ Below w.heap.size w w'
end Go.Proofs.Ytmmonhagceacjaa
