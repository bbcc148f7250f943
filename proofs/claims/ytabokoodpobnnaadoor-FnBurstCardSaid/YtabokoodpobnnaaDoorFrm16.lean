/- A block of four bits: its value; the program's blockOf. -/
import Derived.Test.YtabokoodpobnnaaDoorFrm15
import Derived.Test.YtabokoodpobnnaaDoorFrm13
namespace Go.Proofs.YtabokoodpobnnaaDoor
open Go.RowKit Go.Shelf
set_option linter.unusedVariables false
set_option maxRecDepth 100000
/-- The check bit of three bits. -/
def ck3 (a b c : Nat) : Nat := if (a + b + c) % 2 = 1 then 49 else 48
theorem ck3_bit (a b c : Nat) : ck3 a b c = 48 ∨ ck3 a b c = 49 := by unfold ck3; split <;> simp
/-- The block of four bits. -/
def blkV (q : Nat → Nat) (j : Nat) : Nat := if j = 0 then ck3 (q 0) (q 1) (q 3) else if j = 1 then ck3 (q 0) (q 2) (q 3) else if j = 2 then q 0 else if j = 3 then ck3 (q 1) (q 2) (q 3) else q (j - 3)
/-- The row, when so many of the data stand in it. -/
def rowP (q : Nat → Nat) (j i : Nat) : Nat := if i = 2 ∧ 0 < j then q 0 else if i = 4 ∧ 1 < j then q 1 else if i = 5 ∧ 2 < j then q 2 else if i = 6 ∧ 3 < j then q 3 else 48
/-- The row, when so many of the check bits stand in it. -/
def rowQ (q : Nat → Nat) (m i : Nat) : Nat := if i = 0 ∧ 0 < m then ck3 (q 0) (q 1) (q 3) else if i = 1 ∧ 1 < m then ck3 (q 0) (q 2) (q 3) else if i = 3 ∧ 2 < m then ck3 (q 1) (q 2) (q 3) else rowP q 4 i
theorem rowQ_full (q : Nat → Nat) (i : Nat) (hi : i < 7) : rowQ q 3 i = blkV q i := by
  have h : i = 0 ∨ i = 1 ∨ i = 2 ∨ i = 3 ∨ i = 4 ∨ i = 5 ∨ i = 6 := by omega
  rcases h with rfl | rfl | rfl | rfl | rfl | rfl | rfl <;> simp [rowQ, rowP, blkV]
theorem syn_and (q : Nat → Nat) (h : ∀ i, i < 4 → q i = 48 ∨ q i = 49) : synF (rowP q 4) 7 < 8 ∧
    bits .and .i64 ((synF (rowP q 4) 7 : Nat) : Int) 1 = (if ck3 (q 0) (q 1) (q 3) = 49 then 1 else 0) ∧
    bits .and .i64 ((synF (rowP q 4) 7 : Nat) : Int) 2 = (if ck3 (q 0) (q 2) (q 3) = 49 then 2 else 0) ∧
    bits .and .i64 ((synF (rowP q 4) 7 : Nat) : Int) 4 = (if ck3 (q 1) (q 2) (q 3) = 49 then 4 else 0) := by
  have e : synF (rowP q 4) 7 = (((if q 0 = 49 then 3 else 0) ^^^ (if q 1 = 49 then 5 else 0)) ^^^ (if q 2 = 49 then 6 else 0)) ^^^ (if q 3 = 49 then 7 else 0) := by
    rcases h 0 (by omega) with a0 | a0 <;> rcases h 1 (by omega) with a1 | a1 <;> rcases h 2 (by omega) with a2 | a2 <;> rcases h 3 (by omega) with a3 | a3 <;> simp [synF, rowP, a0, a1, a2, a3]
  rw [e]
  rcases h 0 (by omega) with a0 | a0 <;> rcases h 1 (by omega) with a1 | a1 <;> rcases h 2 (by omega) with a2 | a2 <;> rcases h 3 (by omega) with a3 | a3 <;> rw [a0, a1, a2, a3] <;> decide +kernel
/-- A row of the call's own: 7 bytes that may be written. -/
def RowH (w : World) (g : Nat) (y : Nat → Nat) : Prop := RowG w g y ∧ ∀ i, i < 7 → w.frozen? ⟨g, i, none⟩ = false
theorem RowG.congr {w : World} {g : Nat} {y y' : Nat → Nat} (h : RowG w g y) (e : ∀ i, i < 7 → y i = y' i) : RowG w g y' := ⟨h.1, fun i hi => by rw [h.2.1 i hi, e i hi], h.2.2⟩
theorem RowH.set {w : World} {g k V : Nat} {y y' : Nat → Nat} (h : RowH w g y) (hk : k < 7) (e : ∀ i, i < 7 → (if i = k then V else y i) = y' i) : RowH (w.setCell ⟨g, k, none⟩ (.int .u8 (V : Nat))) g y' :=
  ⟨(h.1.set hk).congr e, fun i hi => by rw [World.frozen?_setCell]; exact h.2 i hi⟩
theorem PlacesAt.set {w : World} {g k : Nat} {v : Value} (h : PlacesAt w) (g0 : g ≠ 0) : PlacesAt (w.setCell ⟨g, k, none⟩ v) := by
  obtain ⟨q0, q1, q2, q3⟩ := h
  refine ⟨?_, ?_, ?_, ?_⟩ <;> rw [World.cell?_setCell_other _ _ _ _ (by intro h; injection h with h _ _; exact g0 h)] <;> assumption
def BlkOf (w : World) (z : ByteArray) (e : Ending) (w' : World) : Prop := ∃ g c, e = .returned (.slice (some ⟨g, 0, none⟩) 7 c) ∧ w.heap.size ≤ g ∧ RowG w' g (blkV (zb z)) ∧ Below w.heap.size w w'
end Go.Proofs.YtabokoodpobnnaaDoor
