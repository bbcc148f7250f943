/- Slices of ints that a call made: what they hold as a function of the index; the laws' own helpers on them. -/
import Derived.Test.YtmlmpekhcnjehaaRegBase
import Derived.Laws.AppendOwn
import Derived.Laws.CopyRow
import Derived.Below
namespace Go.Proofs.Ytmlmpekhcnjehaa
open Go.RowKit
set_option linter.unusedVariables false
/-- A slice of n ints of the call's own: element j is f j. -/
def OF (w : World) (B : Nat) (v : Value) (n : Nat) (f : Nat → Int) : Prop := w.ownsRow B 3 1 v n ((List.range n).map fun j => Value.int .i64 (f j))
theorem OF.congr {w : World} {B : Nat} {v : Value} {n : Nat} {f g : Nat → Int} (h : OF w B v n f) (e : ∀ j, j < n → f j = g j) : OF w B v n g := by
  have : ((List.range n).map fun j => Value.int .i64 (f j)) = (List.range n).map fun j => Value.int .i64 (g j) := List.map_congr_left fun j hj => by rw [e j (List.mem_range.1 hj)]
  unfold OF at h ⊢
  rw [← this]; exact h
theorem OF.nil (w : World) (B : Nat) (f : Nat → Int) : OF w B (.slice none 0 0) 0 f := World.ownsRow_nil w B _ 1
theorem OF.form {w : World} {B : Nat} {v : Value} {n : Nat} {f : Nat → Int} (h : OF w B v n f) : ∃ a cap, v = .slice a n cap ∧ (0 < n → ∃ g, a = some ⟨g, 0, none⟩ ∧ B ≤ g ∧ g < w.heap.size ∧
    ∀ i, i < n → w.cell? ⟨g, i, none⟩ = some (.int .i64 (f i)) ∧ w.frozen? ⟨g, i, none⟩ = false) := by
  have hc := fun g hg => World.ownsRow.cells h (g := g) hg
  obtain ⟨h1, ⟨rfl, rfl⟩ | ⟨g, cap, cur, rfl, hB, hg, hn, hm, hs, ht⟩⟩ := h
  · exact ⟨none, 0, rfl, fun h => absurd h (Nat.lt_irrefl 0)⟩
  · refine ⟨_, cap, rfl, fun _ => ⟨g, rfl, hB, (Array.getElem?_eq_some_iff.1 hg).1, fun i hi => ⟨?_, by simp [World.frozen?, hg]⟩⟩⟩
    have := hc g rfl i (.int .i64 (f i)) (by simp [hi])
    have e : (⟨g, 0, none⟩ : Addr).add i = ⟨g, i, none⟩ := by unfold Addr.add; split <;> simp_all
    rw [e] at this; exact this
theorem OF.kept {w w' : World} {B : Nat} {v : Value} {n : Nat} {f : Nat → Int} {row : Option Nat} (h : OF w B v n f) (hg : w.grownBy w' row) (hne : v.ownBlock = none ∨ v.ownBlock ≠ row) : OF w' B v n f := World.ownsRow.kept h hg hne
theorem OF.lt {w : World} {B : Nat} {v : Value} {n : Nat} {f : Nat → Int} (h : OF w B v n f) : ∀ k, v.ownBlock = some k → B ≤ k ∧ k < w.heap.size := World.ownsRow.lt h
theorem grown_of_below {w w' : World} (h : Below w.heap.size w w') : w.grownBy w' none := ⟨h.os, h.tape, h.output, h.size, fun k hk _ => h.block k hk⟩
theorem OF.below {w w' : World} {B : Nat} {v : Value} {n : Nat} {f : Nat → Int} (h : OF w B v n f) (hb : Below w.heap.size w w') : OF w' B v n f :=
  h.kept (grown_of_below hb) (by cases v.ownBlock <;> simp)
theorem OF.drewN {w : World} {B : Nat} {v : Value} {n : Nat} {f : Nat → Int} (h : OF w B v n f) (m : Nat) : OF (w.drewN m) B v n f := h.below (below_drewN (Below.refl _ _) m)
theorem OF.mono {w : World} {B C : Nat} {v : Value} {n : Nat} {f : Nat → Int} (h : OF w B v n f) (hC : C ≤ B) : OF w C v n f := by
  obtain ⟨h1, ⟨rfl, rfl⟩ | ⟨g, cap, cur, rfl, hB, hg, hn, hm, hs, ht⟩⟩ := h
  · exact ⟨h1, .inl ⟨rfl, rfl⟩⟩
  · exact ⟨h1, .inr ⟨g, cap, cur, rfl, Nat.le_trans hC hB, hg, hn, hm, hs, ht⟩⟩
theorem OF.set {w : World} {B g cap : Nat} {n : Nat} {f f' : Nat → Int} (h : OF w B (.slice (some ⟨g, 0, none⟩) n cap) n f) (i : Nat) (y : Int) (hi : i < n) (hf : ∀ j, j < n → f' j = if j = i then y else f j) :
    OF (w.setCell ⟨g, i, none⟩ (.int .i64 y)) B (.slice (some ⟨g, 0, none⟩) n cap) n f' := by
  obtain ⟨h1, ⟨h2, _⟩ | ⟨g', cap', cur, h2, hB, hg, hn, hm, hs, ht⟩⟩ := h
  · cases h2
  · injection h2 with h3 _ h4
    injection h3 with h3
    injection h3 with h3
    subst h3 h4
    refine ⟨by simp, .inr ⟨g, cap, cur.setIfInBounds i (.int .i64 y), rfl, hB, ?_, hn, hm, by simpa using hs, ?_⟩⟩
    · rw [setCell_eq_setRow w g i cur _ (0, 0) _ hg]; exact setRow_heap w g cur _ _ _ hg
    · rw [Array.toList_setIfInBounds, List.take_set, ht]
      apply List.ext_getElem (by simp)
      intro j h5 h6
      simp at h5 h6
      rw [List.getElem_set]
      simp only [List.getElem_map, List.getElem_range]
      rw [hf j h6]
      by_cases e : i = j
      · subst e; simp
      · rw [if_neg e, if_neg (fun e' => e e'.symm)]
theorem OF.alloc {w : World} {B : Nat} {v : Value} {n : Nat} {f : Nat → Int} (h : OF w B v n f) (o : Obj) : OF (w.alloc o) B v n f := World.ownsRow.alloc h o
theorem apart_lo {u v : Value} {C : Nat} (h1 : ∀ k, u.ownBlock = some k → k < C) (h2 : ∀ k, v.ownBlock = some k → C ≤ k) : u.ownBlock = none ∨ u.ownBlock ≠ v.ownBlock := by
  cases h0 : u.ownBlock with
  | none => exact .inl rfl
  | some k0 =>
    right
    intro h
    have := h1 k0 h0
    have := h2 k0 h.symm
    omega
theorem apart_hi {u v : Value} {C : Nat} (h1 : ∀ k, u.ownBlock = some k → C ≤ k) (h2 : ∀ k, v.ownBlock = some k → k < C) : u.ownBlock = none ∨ u.ownBlock ≠ v.ownBlock := by
  cases h0 : u.ownBlock with
  | none => exact .inl rfl
  | some k0 =>
    right
    intro h
    have := h1 k0 h0
    have := h2 k0 h.symm
    omega
end Go.Proofs.Ytmlmpekhcnjehaa
