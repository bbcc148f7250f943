/- Contracts of the draws of sequences: bits of a register of the model, drawn bits, maximal taps. -/
import Derived.Test.YtlcnlhephhbhcaaDraw2
import Derived.Test.YtlcnlhephhbhcaaRegWalk
import Derived.Test.YtlcnlhephhbhcaaSeqMany
import Derived.Test.YtlcnlhephhbhcaaSeqTable
import Derived.Test.YtlcnlhephhbhcaaSRun
import Derived.Deep.RegionWith
namespace Go.Proofs.Ytlcnlhephhbhcaa
open Go.RowKit
set_option linter.unusedVariables false
/-- What drawing a string leaves. -/
def StrPost (M b p : Nat) (zs : List Int) (w : World) (e : Ending) (w' : World) : Prop :=
  ∃ (z : ByteArray) (q : Nat), e = .returned (.string z) ∧ 1 ≤ z.size + (if M = 0 then 1 else 0) ∧ z.size ≤ M ∧ q ≤ p + 100 ∧ RdAt w' b q zs ∧ w.grownBy w' (some b)
/-- A string that the reader gave, perhaps empty. -/
def StrPost0 (M b p : Nat) (zs : List Int) (w : World) (e : Ending) (w' : World) : Prop :=
  ∃ (z : ByteArray) (q : Nat), e = .returned (.string z) ∧ z.size ≤ M ∧ q ≤ p + 100 ∧ RdAt w' b q zs ∧ w.grownBy w' (some b)
end Go.Proofs.Ytlcnlhephhbhcaa
