/- What the frames of the laws share: how an argument that came in is opened. -/
import Derived.Test.YtbllmgdnhjdphaaChecked
import Derived.WalkKit
import Derived.ProofKit
import Derived.OpenShut
import Derived.ShutString
import Derived.ChangeOld
import Derived.Below
import Derived.Lib.SmallJoins
namespace Go.Proofs.Ytbllmgdnhjdphaa
open Go.ChangeShapes Go.WideShapes Go.ChangeAt Go.RowKit Go.Joins
open Go.ChangeMaps (open_string shut_string)

theorem frame_own : ownKnob Try.prog.godebug = none := by kernel_rfl
theorem frame_laidOut : laidOutB Try.prog = true := by kernel_rfl
theorem frame_cellsReg : Try.prog.cellsOf 34 = 3 := by kernel_rfl
end Go.Proofs.Ytbllmgdnhjdphaa
