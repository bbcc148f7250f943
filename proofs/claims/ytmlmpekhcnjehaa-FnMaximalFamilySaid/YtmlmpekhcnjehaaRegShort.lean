/- ShortestRegister of both sides, and the walk of its exact law. -/
import Derived.Test.YtmlmpekhcnjehaaRunStart
import Derived.Test.YtmlmpekhcnjehaaRegFrom
import Derived.Test.YtmlmpekhcnjehaaSeqFun
namespace Go.Proofs.Ytmlmpekhcnjehaa
open Go.RowKit
set_option linter.unusedVariables false
def okS (z : ByteArray) : Bool := bitsB z && (decide (8 ≤ z.size) && decide (z.size ≤ 64))
def valX (z : ByteArray) (s : Nat) : Nat := valN (z.data.toList.take s)
def hitB (z : ByteArray) (s t : Nat) : Bool := decide (runS s t (valX z s) z.size = z)
/-- No register ahead of this size and these taps has the bits. -/
def Miss (z : ByteArray) (s t : Nat) : Prop := ∀ s' t', 2 ≤ s' → s' ≤ 8 → 1 ≤ t' → t' < tw s' → (s' < s ∨ s' = s ∧ t' < t) → hitB z s' t' = false
theorem Miss.start (z : ByteArray) : Miss z 2 0 := fun s' t' h1 _ _ _ h => by omega
theorem Miss.one {z : ByteArray} {s : Nat} (h : Miss z s 0) : Miss z s 1 := fun s' t' h1 h2 h3 h4 h5 => h s' t' h1 h2 h3 h4 (by omega)
theorem Miss.next {z : ByteArray} {s t : Nat} (h : Miss z s t) (hh : hitB z s t = false) : Miss z s (t + 1) := fun s' t' h1 h2 h3 h4 h5 => by
  by_cases e : s' = s ∧ t' = t
  · rw [e.1, e.2]; exact hh
  · exact h s' t' h1 h2 h3 h4 (by omega)
theorem Miss.row {z : ByteArray} {s : Nat} (h : Miss z s (tw s)) : Miss z (s + 1) 0 := fun s' t' h1 h2 h3 h4 h5 => by
  by_cases e : s' = s
  · subst e; exact h s' t' h1 h2 h3 h4 (.inr ⟨rfl, h4⟩)
  · exact h s' t' h1 h2 h3 h4 (by omega)
/-- What both sides answer. -/
def ShA (z : ByteArray) (a : RegAns) : Prop :=
  (okS z = true ∧ ((∃ s t : Nat, 2 ≤ s ∧ s ≤ 8 ∧ 1 ≤ t ∧ t < tw s ∧ Miss z s t ∧ hitB z s t = true ∧ a = ⟨s, t, (valX z s : Nat), true⟩) ∨ (Miss z 9 0 ∧ a = noReg))) ∨ (okS z = false ∧ a = noReg)
theorem ShA.one {z : ByteArray} {a b : RegAns} (h : ShA z a) (k : ShA z b) : a = b := by
  rcases h with ⟨h0, h⟩ | ⟨h0, rfl⟩
  · rcases k with ⟨_, k⟩ | ⟨k0, _⟩
    · rcases h with ⟨s, t, a1, a2, a3, a4, am, ah, rfl⟩ | ⟨hm, rfl⟩
      · rcases k with ⟨s', t', b1, b2, b3, b4, bm, bh, rfl⟩ | ⟨km, rfl⟩
        · have e1 : ¬ (s < s' ∨ s = s' ∧ t < t') := fun e => by rw [bm s t a1 a2 a3 a4 e] at ah; cases ah
          have e2 : ¬ (s' < s ∨ s' = s ∧ t' < t) := fun e => by rw [am s' t' b1 b2 b3 b4 e] at bh; cases bh
          obtain rfl : s = s' := by omega
          obtain rfl : t = t' := by omega
          rfl
        · rw [km s t a1 a2 a3 a4 (by omega)] at ah; cases ah
      · rcases k with ⟨s', t', b1, b2, b3, b4, bm, bh, rfl⟩ | ⟨km, rfl⟩
        · rw [hm s' t' b1 b2 b3 b4 (by omega)] at bh; cases bh
        · rfl
    · rw [h0] at k0; cases k0
  · rcases k with ⟨k0, _⟩ | ⟨_, rfl⟩
    · rw [h0] at k0; cases k0
    · rfl
/-- A box that is still empty. -/
def ZBox (W : World) (b : Nat) : Prop := RegAt W b 0 0 0 ∧ ∀ o, W.frozen? ⟨b, o, none⟩ = false
theorem ZBox.below {W W' : World} {b : Nat} (h : ZBox W b) (hb : Below W.heap.size W W') : ZBox W' b :=
  ⟨h.1.below hb h.1.2.2.2, fun o => (hb.frozen (p := ⟨b, o, none⟩) h.1.2.2.2).trans (h.2 o)⟩
theorem ZBox.new (W : World) (t : TypeId) : ZBox (W.alloc (.cells #[.int .i64 0, .int .i64 0, .int .i64 0] t)) W.heap.size := ⟨RegAt.new W t 0 0 0, fun o => by simp⟩
theorem okS_iff (z : ByteArray) : okS z = true ↔ bitsB z = true ∧ 8 ≤ z.size ∧ z.size ≤ 64 := by unfold okS; simp only [Bool.and_eq_true, decide_eq_true_eq]
theorem short_reg {z : ByteArray} {s t : Nat} (h : okS z = true) (h2 : 2 ≤ s) (h8 : s ≤ 8) (h1 : 1 ≤ t) (ht : t < tw s) : RegN s t (valX z s) := by
  obtain ⟨hb, hz, _⟩ := (okS_iff z).1 h
  have hok : okB z z.size = true := by unfold bitsB at hb; simp only [Bool.and_eq_true] at hb; exact hb.1
  refine ⟨h2, h8, h1, ht, ?_⟩
  have := valN_lt _ (allBits_of z s (by omega) (okB_less z s z.size (by omega) (Nat.le_refl _) hok))
  rw [List.length_take, show z.data.toList.length = z.size from rfl, Nat.min_eq_left (by omega)] at this
  exact this
theorem ext_list (z : ByteArray) (s : Nat) : (z.extract 0 s).data.toList = z.data.toList.take s := by rw [ByteArray.data_extract]; simp
theorem ext_bits {z : ByteArray} {s : Nat} (h : bitsB z = true) (hs : s ≤ z.size) : (z.extract 0 s).size = s ∧ bitsB (z.extract 0 s) = true := by
  have h1 : (z.extract 0 s).size = s := by rw [size_extract _ _ _ hs, Nat.sub_zero]
  unfold bitsB at h ⊢
  simp only [Bool.and_eq_true, decide_eq_true_eq] at h ⊢
  refine ⟨h1, okB_of_zb _ fun i hi => ?_, by omega⟩
  rw [h1] at hi
  rw [zb_extract _ _ _ _ hs (by omega), Nat.zero_add]
  exact okB_zb z h.1 i (by omega)
end Go.Proofs.Ytmlmpekhcnjehaa
