/- Contracts of FirstRotation, of both sides. -/
import Derived.Test.YtlcnlhephhbhcaaSeqFind
import Derived.WalkLawsBesides
namespace Go.Proofs.Ytlcnlhephhbhcaa
open Go.RowKit
set_option linter.unusedVariables false
/-- The first one of two strings. -/
def minS (x y : ByteArray) : ByteArray := if (Op.bytesLess x.toList y.toList || x.toList == y.toList) then x else y
theorem run_minS (ts : Array TypeId) (t : TypeId) (x y : ByteArray) (w : World) : (Builtin.min_ ts t #[.string x, .string y]).run Try.prog w = .ok (.string (minS x y)) w := by
  unfold minS
  generalize hb : (Op.bytesLess x.toList y.toList || x.toList == y.toList) = b
  have hl : (Op.stringOp .leq x y : Sem Value) = pure (.bool b) := by simp only [Op.stringOp, hb]
  simp [Builtin.min_, Builtin.min2, hl]
  cases b <;> rfl
/-- The first one of the shifts up to k. -/
def rotB (z : ByteArray) : Nat → ByteArray
  | 0 => z
  | k + 1 => minS (rotB z k) (shift z ((k + 1 : Nat) : Int))
def rotAns (z : ByteArray) : ByteArray := if seqB z then rotB z (z.size - 1) else ByteArray.empty
end Go.Proofs.Ytlcnlhephhbhcaa
