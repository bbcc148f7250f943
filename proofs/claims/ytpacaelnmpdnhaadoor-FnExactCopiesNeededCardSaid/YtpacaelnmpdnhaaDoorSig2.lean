/- Chips and signs, energy and errors: contracts of both sides. -/
import Derived.Test.YtpacaelnmpdnhaaDoorSig
import Derived.Laws.CopyOwn
namespace Go.Proofs.YtpacaelnmpdnhaaDoor
open Go.RowKit
set_option linter.unusedVariables false
set_option maxRecDepth 100000
/-- A slice of n numbers that can be read and cut: element i is f i. -/
def IntsC (w : World) (v : Value) (n : Nat) (f : Nat → Int) : Prop :=
  ∃ a cap, v = .slice a n cap ∧ n ≤ cap ∧ ∀ i, i < n → ∃ x : Addr, a = some x ∧ x.block < w.heap.size ∧ w.cell? (x.add i) = some (.int .i64 (f i))
theorem IntsC.ints {w : World} {v : Value} {n : Nat} {f : Nat → Int} (h : IntsC w v n f) : IntsR w v n f := by
  obtain ⟨a, cap, h1, _, h2⟩ := h
  exact ⟨a, cap, h1, h2⟩
theorem IntsC.below {w w' : World} {v : Value} {n : Nat} {f : Nat → Int} (h : IntsC w v n f) (hb : Below w.heap.size w w') : IntsC w' v n f := by
  obtain ⟨a, cap, rfl, hl, hc⟩ := h
  refine ⟨a, cap, rfl, hl, fun i hi => ?_⟩
  obtain ⟨x, rfl, h1, h2⟩ := hc i hi
  exact ⟨x, rfl, Nat.lt_of_lt_of_le h1 hb.size, (hb.cell (p := x.add i) (by rw [add_block]; exact h1)).trans h2⟩
theorem OF.intsC {w : World} {B : Nat} {v : Value} {n : Nat} {f : Nat → Int} (h : OF w B v n f) : IntsC w v n f := by
  have hr := h.ints
  obtain ⟨h1, ⟨rfl, rfl⟩ | ⟨g, cap, cur, rfl, hB, hg, hn, hm, hs, ht⟩⟩ := h
  · exact ⟨none, 0, rfl, Nat.le_refl _, fun i hi => absurd hi (Nat.not_lt_zero i)⟩
  · obtain ⟨a, c, e, hc⟩ := hr
    injection e with e1 e2 e3
    subst e1 e3
    exact ⟨_, cap, rfl, hn, hc⟩
theorem OF.none0 (w : World) (B : Nat) (f : Nat → Int) : OF w B (.slice none 0 0) 0 f := OF.nil w B f
/-- The chip of a bit. -/
def chF (z : ByteArray) (i : Nat) : Int := 1 - 2 * ((zb z i : Int) - 48)
theorem chF_of {z : ByteArray} {i b : Nat} (h : zb z i = 48 + b) : chF z i = 1 - 2 * (b : Int) := by unfold chF; rw [h]; omega
theorem chF_bd {z : ByteArray} (h : okB z z.size = true) {i : Nat} (hi : i < z.size) : chF z i = 1 ∨ chF z i = -1 := by
  unfold chF
  rcases okB_zb z h i hi with e | e <;> rw [e] <;> decide
theorem bits_iff (z : ByteArray) : bitsB z = true ↔ okB z z.size = true ∧ z.size ≤ 600 := by unfold bitsB; simp only [Bool.and_eq_true, decide_eq_true_eq]
/-- How many chips ChipsOf answers. -/
def chN (z : ByteArray) : Nat := if bitsB z then z.size else 0
theorem chN_le6 (z : ByteArray) : chN z ≤ 1000000 := by
  unfold chN
  split
  · have := ((bits_iff z).1 (by assumption)).2; omega
  · omega
theorem ret_st {a b : ByteArray} (h : a = b) : Ending.returned (.string a) = .returned (.string b) := by rw [h]
/-- The bits that signs tell. -/
def sgF (f : Nat → Int) (i : Nat) : Nat := if f i < 0 then 49 else 48
def sgS (n : Nat) (f : Nat → Int) : ByteArray := strF n (sgF f)
theorem sgF_lt (f : Nat → Int) (i : Nat) : sgF f i < 256 := by unfold sgF; split <;> omega
theorem sgS_size (n : Nat) (f : Nat → Int) : (sgS n f).size = n := strF_size _ _
theorem zb_sgS {n : Nat} {f : Nat → Int} {i : Nat} (h : i < n) : zb (sgS n f) i = sgF f i := zb_strF h (sgF_lt f i)
theorem sgS_congr {n : Nat} {f g : Nat → Int} (h : ∀ i, i < n → f i = g i) : sgS n f = sgS n g := strF_congr fun i hi => by unfold sgF; rw [h i hi]
theorem sgS_ok (n : Nat) (f : Nat → Int) : okB (sgS n f) (sgS n f).size = true := okB_of_zb _ fun i hi => by
  rw [sgS_size] at hi
  rw [zb_sgS hi]
  unfold sgF
  split
  · exact .inr rfl
  · exact .inl rfl
end Go.Proofs.YtpacaelnmpdnhaaDoor
