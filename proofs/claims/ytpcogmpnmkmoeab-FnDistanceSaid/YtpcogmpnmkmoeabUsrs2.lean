/- The laws' helpers on slices of users. -/
import Derived.Test.YtpcogmpnmkmoeabUsrs
import Derived.Test.YtpcogmpnmkmoeabStrs2
namespace Go.Proofs.Ytpcogmpnmkmoeab
open Go.RowKit
set_option linter.unusedVariables false
set_option maxRecDepth 100000
theorem grownAny {w w' : World} (h : w.grownBy w' none) (row : Option Nat) : w.grownBy w' row := ⟨h.os, h.tape, h.output, h.size, fun k hk _ => h.block k hk (by simp)⟩
end Go.Proofs.Ytpcogmpnmkmoeab
