/- The draw for jumps. -/
import Derived.Test.YtmmonhagceacjaaDraw3
import Derived.Deep.RegionWith
namespace Go.Proofs.Ytmmonhagceacjaa
open Go.RowKit
/-- A register and a number were drawn, which fit; what was there is as it was. -/
def DrawRegInt (w : World) (e : Ending) (w' : World) : Prop :=
  ∃ S T X K : Int, e = .returned (.tuple #[.agg #[.int .i64 S, .int .i64 T, .int .i64 X], .int .i64 K]) ∧ FitsI S ∧ FitsI T ∧ FitsI X ∧ FitsI K ∧ Below w.heap.size w w'
theorem RdAt.drew {w : World} {b p : Nat} {zs : List Int} (h : RdAt w b p zs) : RdAt w.drew b p zs := h.below ((Below.refl _ _).drew)
theorem IntsAt.drew {w : World} {L : Nat} {xs : List Int} (h : IntsAt w L xs) : IntsAt w.drew L xs := h
theorem grow_drew (w : World) (o : Obj) (row : Option Nat) : w.grownBy (w.alloc o).drew row := ⟨rfl, rfl, rfl, by simp, fun k hk _ => Below.heap_alloc _ _ _ hk⟩
theorem drew_grow (w : World) (row : Option Nat) : w.grownBy w.drew row := ⟨rfl, rfl, rfl, Nat.le_refl _, fun _ _ _ => rfl⟩
end Go.Proofs.Ytmmonhagceacjaa
