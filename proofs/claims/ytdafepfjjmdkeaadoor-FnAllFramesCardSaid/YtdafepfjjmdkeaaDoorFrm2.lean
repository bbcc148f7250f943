/- Repeated bits, bits in rows and columns: the program's closures and their functions, of both sides. -/
import Derived.Test.YtdafepfjjmdkeaaDoorFrm0
import Derived.Shelf.Abstract
import Derived.BigQuiet
namespace Go.Proofs.YtdafepfjjmdkeaaDoor
open Go.RowKit Go.Shelf
set_option linter.unusedVariables false
set_option maxRecDepth 100000
theorem bits_of2 {z : ByteArray} (h : bitsB z = true) : okB z z.size = true ∧ z.size ≤ 600 := by unfold bitsB at h; simp only [Bool.and_eq_true, decide_eq_true_eq] at h; exact h
theorem ret_u8 {a b : Nat} (h : a = b) : Ending.returned (.int .u8 (a : Nat)) = .returned (.int .u8 (b : Nat)) := by rw [h]
theorem ret_sA {A : ByteArray × Bool} {x : ByteArray} {c : Bool} (h : A = (x, c)) : Ending.returned (.tuple #[.string x, .bool c]) = .returned (.tuple #[.string A.1, .bool A.2]) := by rw [h]
theorem div_value (i n : Nat) (hi : i ≤ 1048576) : IntKind.i64.wrap ((i : Int) / (n : Int)) = ((i / n : Nat) : Int) := by
  have h := Nat.div_le_self i n
  rw [← Int.natCast_ediv]
  obtain ⟨Q, hQ⟩ : ∃ Q, i / n = Q := ⟨_, rfl⟩
  rw [hQ] at h ⊢
  exact IntWalk.i64_in _ (by omega)
theorem mod_value (i n : Nat) : (i : Int).tmod (n : Int) = ((i % n : Nat) : Int) := by
  rw [Int.tmod_eq_emod_of_nonneg (by omega)]; exact (Int.natCast_emod i n).symm
/-- A box holds the same behind what lays blocks of its own. -/
theorem box_kept {w W : World} {b : Nat} {v : Value} (h : w.cell? ⟨b, 0, none⟩ = some v) (hb : b < w.heap.size) (k : Below w.heap.size w W) : W.cell? ⟨b, 0, none⟩ = some v := (k.cell (p := ⟨b, 0, none⟩) hb).trans h
theorem box_new (w : World) (v : Value) (t : TypeId) : (w.alloc (.cells #[v] t)).cell? ⟨w.heap.size, 0, none⟩ = some v := by simp
theorem box_old {w : World} {b : Nat} {v : Value} (h : w.cell? ⟨b, 0, none⟩ = some v) (hb : b < w.heap.size) (o : Obj) : (w.alloc o).cell? ⟨b, 0, none⟩ = some v := box_kept h hb ((Below.refl _ _).alloc (Nat.le_refl _) _)
/-- Repetitions. -/
def repsB (n : Int) : Bool := decide (1 ≤ n) && (decide (n ≤ 9) && decide (n.tmod 2 = 1))
theorem repsB_iff (n : Int) : repsB n = true ↔ 1 ≤ n ∧ n ≤ 9 ∧ n.tmod 2 = 1 := by unfold repsB; simp only [Bool.and_eq_true, decide_eq_true_eq]
theorem reps_nat {n : Int} (h : repsB n = true) : ∃ m : Nat, n = m ∧ 1 ≤ m ∧ m ≤ 9 ∧ m % 2 = 1 := by
  obtain ⟨h1, h2, h3⟩ := (repsB_iff n).1 h
  refine ⟨n.toNat, by omega, by omega, by omega, ?_⟩
  rw [Int.tmod_eq_emod_of_nonneg (by omega)] at h3
  omega
def repS (z : ByteArray) (n : Nat) : ByteArray := strF (z.size * n) (fun i => zb z (i / n))
def repAns (z : ByteArray) (n : Int) : ByteArray × Bool := if bitsB z = true ∧ repsB n = true ∧ z.size * n.toNat ≤ 600 then (repS z n.toNat, true) else noS
/-- Bits in rows, read by columns. -/
def weaveS (z : ByteArray) (R C : Nat) : ByteArray := strF z.size (fun i => zb z (i % R * C + i / R))
theorem weave_lt {R C i : Nat} (h : i < R * C) : i % R * C + i / R < R * C ∧ i / R < C ∧ i % R < R := by
  have hR : 0 < R := by
    rcases Nat.eq_zero_or_pos R with e | e
    · subst e; simp at h
    · exact e
  have h1 : i / R < C := Nat.div_lt_of_lt_mul h
  have h2 := Nat.mod_lt i hR
  have h3 : (i % R + 1) * C ≤ R * C := Nat.mul_le_mul_right _ h2
  rw [Nat.add_mul, Nat.one_mul] at h3
  omega
theorem weave_back {R C i : Nat} (h : i < R * C) : (i % R * C + i / R) % C * R + (i % R * C + i / R) / C = i := by
  obtain ⟨_, h1, _⟩ := weave_lt h
  have hC : 0 < C := Nat.lt_of_le_of_lt (Nat.zero_le _) h1
  have e1 : (i % R * C + i / R) % C = i / R := by rw [Nat.mul_comm, Nat.mul_add_mod, Nat.mod_eq_of_lt h1]
  have e2 : (i % R * C + i / R) / C = i % R := by rw [Nat.mul_comm, Nat.mul_add_div hC, Nat.div_eq_of_lt h1, Nat.add_zero]
  rw [e1, e2, Nat.mul_comm]
  exact Nat.div_add_mod i R
end Go.Proofs.YtdafepfjjmdkeaaDoor
