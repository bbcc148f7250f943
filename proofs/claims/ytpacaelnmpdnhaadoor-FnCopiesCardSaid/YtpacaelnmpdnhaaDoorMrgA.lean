/- Contracts of the draws for steps back and jumps. The draw for jumps. Contracts of the draws of a register and of a count: l1Open, l1Count, DrawRunRegister. -/
import Derived.Test.YtpacaelnmpdnhaaDoorDraw2
import Derived.Deep.RegionWith
namespace Go.Proofs.YtpacaelnmpdnhaaDoor
open Go.RowKit
/-- A register was drawn, of numbers that fit; what was there is as it was. -/
def DrawReg (w : World) (e : Ending) (w' : World) : Prop :=
  ∃ S T X : Int, e = .returned (.agg #[.int .i64 S, .int .i64 T, .int .i64 X]) ∧ FitsI S ∧ FitsI T ∧ FitsI X ∧ Below w.heap.size w w'
end Go.Proofs.YtpacaelnmpdnhaaDoor
namespace Go.Proofs.YtpacaelnmpdnhaaDoor
open Go.RowKit
/-- A register and a number were drawn, which fit; what was there is as it was. -/
def DrawRegInt (w : World) (e : Ending) (w' : World) : Prop :=
  ∃ S T X K : Int, e = .returned (.tuple #[.agg #[.int .i64 S, .int .i64 T, .int .i64 X], .int .i64 K]) ∧ FitsI S ∧ FitsI T ∧ FitsI X ∧ FitsI K ∧ Below w.heap.size w w'
theorem RdAt.drew {w : World} {b p : Nat} {zs : List Int} (h : RdAt w b p zs) : RdAt w.drew b p zs := h.below ((Below.refl _ _).drew)
theorem IntsAt.drew {w : World} {L : Nat} {xs : List Int} (h : IntsAt w L xs) : IntsAt w.drew L xs := h
theorem grow_drew (w : World) (o : Obj) (row : Option Nat) : w.grownBy (w.alloc o).drew row := ⟨rfl, rfl, rfl, by simp, fun k hk _ => Below.heap_alloc _ _ _ hk⟩
theorem drew_grow (w : World) (row : Option Nat) : w.grownBy w.drew row := ⟨rfl, rfl, rfl, Nat.le_refl _, fun _ _ _ => rfl⟩
end Go.Proofs.YtpacaelnmpdnhaaDoor
namespace Go.Proofs.YtpacaelnmpdnhaaDoor
open Go.RowKit
set_option linter.unusedVariables false
end Go.Proofs.YtpacaelnmpdnhaaDoor
