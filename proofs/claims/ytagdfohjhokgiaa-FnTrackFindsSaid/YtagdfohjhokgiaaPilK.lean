/- A box with a pilot, behind a write elsewhere. -/
import Derived.Test.YtagdfohjhokgiaaPil
namespace Go.Proofs.Ytagdfohjhokgiaa
open Go.RowKit
theorem PilAt.kept {w w' : World} {b : Nat} {row : Option Nat} {c : ByteArray} {g : Int} (h : PilAt w b c g) (hg : w.grownBy w' row) (hne : some b ≠ row) : PilAt w' b c g :=
  ⟨hg.cell h.1 hne, hg.cell h.2.1 hne, Nat.lt_of_lt_of_le h.2.2 hg.size⟩
end Go.Proofs.Ytagdfohjhokgiaa
