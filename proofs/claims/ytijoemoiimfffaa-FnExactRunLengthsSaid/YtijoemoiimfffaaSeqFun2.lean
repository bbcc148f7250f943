/- Contracts of BalanceOf, CrossOf and AutoOf, of both sides. -/
import Derived.Test.YtijoemoiimfffaaSeqFun
namespace Go.Proofs.Ytijoemoiimfffaa
open Go.RowKit
set_option linter.unusedVariables false
/-- What BalanceOf answers. -/
def balAns (z : ByteArray) : Int × Bool := if seqB z then (balN z, true) else noI
/-- What CrossOf answers. -/
def crossAns (a b : ByteArray) (k : Int) : Int × Bool := if pairB a b then (crossN a b (modN k b.size), true) else noI
theorem turned_cells {w' : World} {g : Nat} {z : ByteArray} (hR : Bytes w' g 5 (2 * z.size) (fun i => zb z (i % z.size))) (k : Int) (h : 1 ≤ z.size) :
    ∀ i, i < z.size → w'.cell? ⟨g, modN k z.size + i, none⟩ = some (.int .u8 (shB z (modN k z.size) i : Nat)) := fun i hi => by
  have hm := modN_lt k z.size (by omega)
  exact hR.cell _ (by omega)
def autoAns (z : ByteArray) (k : Int) : Int × Bool := crossAns z z k
end Go.Proofs.Ytijoemoiimfffaa
