/- The model's JumpRegister; AddRegisters of both sides; what the two sides answer is the same. -/
import Derived.Test.YtmlmpekhcnjehaaRegModel
namespace Go.Proofs.Ytmlmpekhcnjehaa
open Go.RowKit
/-- What a function on registers answers: the register's three numbers and whether there is one. -/
structure RegAns where
  s : Int
  t : Int
  x : Int
  ok : Bool
def RegAns.val (a : RegAns) : Value := .tuple #[.agg #[.int .i64 a.s, .int .i64 a.t, .int .i64 a.x], .bool a.ok]
def noReg : RegAns := ⟨0, 0, 0, false⟩
end Go.Proofs.Ytmlmpekhcnjehaa
