/- Contracts of the draws of registers. -/
import Derived.Test.YtmlmpekhcnjehaaDraw
import Derived.Test.YtmlmpekhcnjehaaRegBase
namespace Go.Proofs.Ytmlmpekhcnjehaa
open Go.RowKit
/-- What drawing a register leaves, behind some places of the reader. -/
def SomePost (b p : Nat) (zs : List Int) (w : World) (e : Ending) (w' : World) : Prop :=
  ∃ s t x q : Nat, e = .returned (.agg #[.int .i64 s, .int .i64 t, .int .i64 x]) ∧ RegN s t x ∧ q ≤ p + 10 ∧ RdAt w' b q zs ∧ w.grownBy w' (some b)
theorem grow {w w' : World} (h : Below w.heap.size w w') (row : Option Nat) : w.grownBy w' row := ⟨h.os, h.tape, h.output, h.size, fun k hk _ => h.block k hk⟩
/-- One block that is laid first: the result's. -/
theorem one_new (w : World) (t : TypeId) : ∃ W, Below w.heap.size w W ∧ RegAt W w.heap.size 0 0 0 ∧ (∀ o, W.frozen? ⟨w.heap.size, o, none⟩ = false) ∧ W.heap.size = w.heap.size + 1 ∧ w.alloc (.cells #[.int .i64 0, .int .i64 0, .int .i64 0] t) = W :=
  ⟨_, (Below.refl _ w).alloc (Nat.le_refl _) _, RegAt.new w t 0 0 0, fun o => by simp, by simp, rfl⟩
theorem some_new {w w1 w2 : World} {b : Nat} (h : w.grownBy w1 (some b)) (k : w1.grownBy w2 (some w.heap.size)) : w.grownBy w2 (some b) :=
  h.andThen k (fun j e => by cases e; exact .inl (Nat.le_refl _))
theorem some_taps (s : Nat) (h2 : 2 ≤ s) (h8 : s ≤ 8) : ∃ t : Nat, 1 ≤ t ∧ t < tw s ∧ ([3, 3, 3, 5, 3, 3, 29] : List Int).getD (s - 2) 0 = t := by
  have : s = 2 ∨ s = 3 ∨ s = 4 ∨ s = 5 ∨ s = 6 ∨ s = 7 ∨ s = 8 := by omega
  rcases this with rfl | rfl | rfl | rfl | rfl | rfl | rfl
  · exact ⟨3, by omega, by decide, rfl⟩
  · exact ⟨3, by omega, by decide, rfl⟩
  · exact ⟨3, by omega, by decide, rfl⟩
  · exact ⟨5, by omega, by decide, rfl⟩
  · exact ⟨3, by omega, by decide, rfl⟩
  · exact ⟨3, by omega, by decide, rfl⟩
  · exact ⟨29, by omega, by decide, rfl⟩
/-- Does a number fit an int? -/
def FitsI (n : Int) : Prop := -9223372036854775808 ≤ n ∧ n ≤ 9223372036854775807
theorem FitsI.nat (n : Nat) (h : n ≤ 1000000) : FitsI n := by unfold FitsI; omega
/-- What turning a register into one that is sometimes not valid leaves. -/
def BadPost (b p : Nat) (zs : List Int) (w : World) (e : Ending) (w' : World) : Prop :=
  ∃ (S T X : Int) (q : Nat), e = .returned (.agg #[.int .i64 S, .int .i64 T, .int .i64 X]) ∧ FitsI S ∧ FitsI T ∧ FitsI X ∧ q ≤ p + 10 ∧ RdAt w' b q zs ∧ w.grownBy w' (some b)
end Go.Proofs.Ytmlmpekhcnjehaa
