/- Three stores in a register's block. -/
import Derived.Test.YtlcnlhephhbhcaaRegBase
import Derived.Deep.RegionHeld3
namespace Go.Proofs.Ytlcnlhephhbhcaa
open Go.RowKit
theorem RegAt.set3 {W : World} {b : Nat} {S T X : Int} (h : RegAt W b S T X) (S' T' X' : Int) :
    RegAt (((W.setCell ⟨b, 0, none⟩ (.int .i64 S')).setCell ⟨b, 1, none⟩ (.int .i64 T')).setCell ⟨b, 2, none⟩ (.int .i64 X')) b S' T' X' ∧
    (∀ a, (((W.setCell ⟨b, 0, none⟩ (.int .i64 S')).setCell ⟨b, 1, none⟩ (.int .i64 T')).setCell ⟨b, 2, none⟩ (.int .i64 X')).frozen? a = W.frozen? a) ∧
    W.grownBy (((W.setCell ⟨b, 0, none⟩ (.int .i64 S')).setCell ⟨b, 1, none⟩ (.int .i64 T')).setCell ⟨b, 2, none⟩ (.int .i64 X')) (some b) := by
  obtain ⟨c0, c1, c2, cl⟩ := h
  refine ⟨⟨?_, ?_, ?_, ?_⟩, ?_, ?_⟩
  · go_simp
  · go_simp
  · go_simp
  · simp; omega
  · intro a; simp [World.frozen?_setCell]
  · refine ⟨rfl, rfl, rfl, by simp, fun k hk hne => ?_⟩
    have hne' : k ≠ b := fun e => hne (by rw [e])
    rw [Below.heap_setCell _ _ _ _ hne', Below.heap_setCell _ _ _ _ hne', Below.heap_setCell _ _ _ _ hne']
end Go.Proofs.Ytlcnlhephhbhcaa
