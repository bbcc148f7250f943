/- HammingDecode of the program: a row that a conversion made, apart from the slice that grows. -/
import Derived.Test.YtabokoodpobnnaaDoorFrm12
import Derived.Test.YtabokoodpobnnaaDoorDoor
namespace Go.Proofs.YtabokoodpobnnaaDoor
open Go.RowKit Go.Shelf
set_option linter.unusedVariables false
set_option maxRecDepth 100000
/-- A row of 7 bytes that a conversion made: its spot keeps it apart from every slice that grows. -/
def RowG (w : World) (g : Nat) (y : Nat → Nat) : Prop := g < w.heap.size ∧ (∀ i, i < 7 → w.cell? ⟨g, i, none⟩ = some (.int .u8 (y i : Nat))) ∧ ∃ cs e a, w.heap[g]? = some (.cells cs e (a, a + 1))
theorem RowG.apart {w : World} {g B n : Nat} {y f : Nat → Nat} {v : Value} (h : RowG w g y) (o : BO w B v n f) : v.ownBlock ≠ some g := by
  obtain ⟨_, _, cs, e, a, hh⟩ := h
  obtain ⟨_, ⟨rfl, _⟩ | ⟨g', cap, cur, rfl, _, hg, _⟩⟩ := o
  · simp [Value.ownBlock]
  · intro he
    have : g' = g := by simpa [Value.ownBlock] using he
    subst this
    rw [hh] at hg
    simp only [Option.some.injEq, Obj.cells.injEq, Prod.mk.injEq] at hg
    omega
theorem RowG.turn {w w' : World} {g : Nat} {y : Nat → Nat} (h : RowG w g y) (hs : w.heap.size ≤ w'.heap.size) (hb : w'.heap[g]? = w.heap[g]?) : RowG w' g y := by
  obtain ⟨h1, h2, cs, e, a, h3⟩ := h
  exact ⟨by omega, fun i hi => by rw [World.cell?_of_block (a := ⟨g, i, none⟩) hb]; exact h2 i hi, cs, e, a, by rw [hb]; exact h3⟩
theorem RowG.below {w w' : World} {g : Nat} {y : Nat → Nat} (h : RowG w g y) (hb : Below w.heap.size w w') : RowG w' g y := h.turn hb.size (hb.block g h.1)
theorem RowG.grown {w w' : World} {g : Nat} {y : Nat → Nat} {row : Option Nat} (h : RowG w g y) (hb : w.grownBy w' row) (hne : row ≠ some g) : RowG w' g y := h.turn hb.size (hb.block g h.1 (fun e => hne e.symm))
theorem RowG.alloc {w : World} {g : Nat} {y : Nat → Nat} (h : RowG w g y) (o : Obj) : RowG (w.alloc o) g y := h.below ((Below.refl _ _).alloc (Nat.le_refl _) o)
theorem RowG.set {w : World} {g k V : Nat} {y : Nat → Nat} (h : RowG w g y) (hk : k < 7) : RowG (w.setCell ⟨g, k, none⟩ (.int .u8 (V : Nat))) g (fun i => if i = k then V else y i) := by
  obtain ⟨h1, h2, cs, e, a, h3⟩ := h
  refine ⟨by simpa [World.setCell] using h1, fun i hi => ?_, cs.setIfInBounds k (.int .u8 (V : Nat)), e, a, ?_⟩
  · by_cases ek : i = k
    · subst ek
      rw [World.cell?_setCell_same _ _ _ (h2 i hi)]; simp
    · rw [World.cell?_setCell_other _ _ _ _ (by intro h; injection h with _ h _; exact ek h.symm), h2 i hi]; simp [ek]
  · simp [World.setCell, Array.getElem?_modify, h3]
theorem BO.str {w : World} {B n : Nat} {v : Value} {f : Nat → Nat} (h : BO w B v n f) : (convert 29 9 v).run Tryd.prog w = .ok (.string (strF n f)) w := by
  have h0 := h
  obtain ⟨h1, ⟨rfl, rfl⟩ | ⟨g, cap, cur, rfl, hB, hg, hn, hm, hs, ht⟩⟩ := h
  · rw [run_convert_bytes_nil w 29 5 (by kernel_rfl) (by kernel_rfl) 0 0 9 (by kernel_rfl)]
    rfl
  · exact BO.text h0
theorem PlacesAt.below {w w' : World} (h : PlacesAt w) (h0 : 0 < w.heap.size) (hb : Below w.heap.size w w') : PlacesAt w' := by
  have e : ∀ i, w'.cell? ⟨0, i, none⟩ = w.cell? ⟨0, i, none⟩ := fun i => World.cell?_of_block (a := ⟨0, i, none⟩) (hb.block 0 h0)
  obtain ⟨p0, p1, p2, p3⟩ := h
  exact ⟨by rw [e]; exact p0, by rw [e]; exact p1, by rw [e]; exact p2, by rw [e]; exact p3⟩
theorem conv_row (w : World) (B : ByteArray) (h7 : B.size = 7) : ∃ W1 c, (convert 9 29 (.string B)).run Tryd.prog w = .ok (.slice (some ⟨w.heap.size, 0, none⟩) 7 c) W1 ∧ (∀ i, i < 7 → W1.frozen? ⟨w.heap.size, i, none⟩ = false) ∧ Below w.heap.size w W1 ∧ RowG W1 w.heap.size (zb B) := by
  have hr := Lib.run_convert_string_bytes (P := Tryd.prog) w 9 29 5 B (u := .string) (by kernel_rfl) (by kernel_rfl) (by kernel_rfl)
  have hb := bytes_row w 5 B
  rw [h7] at hr hb
  exact ⟨_, _, hr, fun i hi => (hb i hi).2, below_bytesW w _ B, by rw [Lib.bytesWorld_size]; omega, fun i hi => (hb i hi).1, _, _, _, Lib.bytesWorld_at_new w 5 B⟩
theorem places_at (W : World) : (∀ j p : Nat, (j = 0 ∧ p = 3) ∨ (j = 1 ∧ p = 5) ∨ (j = 2 ∧ p = 6) ∨ (j = 3 ∧ p = 7) → (Instr.index 56 (.agg #[.int .i64 3, .int .i64 5, .int .i64 6, .int .i64 7]) (.int .i64 (j : Nat))).run Tryd.prog W = .ok (.int .i64 (p : Nat)) W) := fun j p h => by
  rcases h with ⟨rfl, rfl⟩ | ⟨rfl, rfl⟩ | ⟨rfl, rfl⟩ | ⟨rfl, rfl⟩ <;> kernel_rfl
end Go.Proofs.YtabokoodpobnnaaDoor
