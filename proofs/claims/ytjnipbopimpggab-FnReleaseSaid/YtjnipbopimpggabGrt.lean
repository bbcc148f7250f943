/- The greatest of some numbers without regard to their signs. -/
import Derived.Test.YtjnipbopimpggabInts
import Derived.Test.YtjnipbopimpggabStrs
namespace Go.Proofs.Ytjnipbopimpggab
open Go.RowKit
set_option linter.unusedVariables false
def abI (x : Int) : Int := max x (-x)
/-- The greatest of some numbers without regard to signs, and of one before them. -/
def mxA (acc : Int) (g : Nat → Int) : Nat → Int
  | 0 => acc
  | n + 1 => max (mxA acc g n) (abI (g n))
theorem abI_nonneg (x : Int) : 0 ≤ abI x := by unfold abI; omega
theorem mxA_le (acc : Int) (g : Nat → Int) : ∀ n, acc ≤ mxA acc g n
  | 0 => Int.le_refl _
  | n + 1 => by have := mxA_le acc g n; simp only [mxA]; omega
theorem mxA_acc (acc : Int) (h : 0 ≤ acc) (g : Nat → Int) : ∀ n, mxA acc g n = max acc (mxA 0 g n)
  | 0 => by simp only [mxA]; omega
  | n + 1 => by simp only [mxA]; rw [mxA_acc acc h g n]; omega
theorem mxA_congr {acc : Int} {f g : Nat → Int} : ∀ n, (∀ i, i < n → f i = g i) → mxA acc f n = mxA acc g n
  | 0, _ => rfl
  | n + 1, h => by simp only [mxA]; rw [mxA_congr n (fun i hi => h i (by omega)), h n (by omega)]
theorem mxA_tail (g : Nat → Int) (h : g 0 = 0) : ∀ n, mxA 0 g (n + 1) = mxA 0 (fun j => g (1 + j)) n
  | 0 => by simp only [mxA]; rw [h]; rfl
  | n + 1 => by
    rw [mxA, mxA_tail g h n]
    simp only [mxA]
    rw [show 1 + n = n + 1 by omega]
theorem mxA_bd {g : Nat → Int} {M : Int} (hM : 0 ≤ M) : ∀ n, (∀ i, i < n → -M ≤ g i ∧ g i ≤ M) → mxA 0 g n ≤ M
  | 0, _ => hM
  | n + 1, h => by
    have h1 := mxA_bd hM n (fun i hi => h i (by omega))
    have h2 := h n (by omega)
    simp only [mxA]
    unfold abI
    omega
set_option maxRecDepth 100000 in
theorem greatest_any (a : Option Addr) (cap n : Nat) (f : Nat → Int) (w : World) (hc : ∀ i, i < n → ∃ x : Addr, a = some x ∧ x.block < w.heap.size ∧ w.cell? (x.add i) = some (.int .i64 (f i))) (hn : n ≤ 1000) (hf : ∀ i, i < n → -1000 ≤ f i ∧ f i ≤ 1000) :
    Calls Try.prog 25 #[.slice a n cap] w fun e w' => e = .returned (.int .i64 (mxA 0 f n)) ∧ w = w' := by
  have HC := Lib.hid hc
  have HF := Lib.hid hf
  have HB := Lib.hid (fun k (hk : k ≤ n) => mxA_bd (g := f) (M := 1000) (by omega) k (fun i hi => hf i (by omega)))
  have HL := Lib.hid (fun k => mxA_le 0 f k)
  clear hc hf
  go_enter Try.func25, Try.ntmps25
  go_wp2
  go_loop [3, 8] (fun m i => ∃ k : Nat, k ≤ n ∧ i = .int .i64 k ∧ m = .int .i64 (mxA 0 f k)) (fun _ i => n - (intOf i).toNat)
  case atStart => exact ⟨0, by omega, rfl, rfl⟩
  case round =>
    obtain ⟨k, hk, rfl, rfl⟩ := hrel
    by_cases hlt : k < n
    · obtain ⟨x, rfl, hx, hcc⟩ := HC.out k hlt
      obtain ⟨f1, f2⟩ := HF.out k hlt
      have m1 := HB.out k hk
      have m0 := HL.out k
      have hstep : mxA 0 f (k + 1) = max (mxA 0 f k) (max (f k) (-(f k))) := rfl
      obtain ⟨y, hy⟩ : ∃ y, f k = y := ⟨_, rfl⟩
      rw [hy] at hcc f1 f2 hstep
      obtain ⟨M, hM⟩ : ∃ M, mxA 0 f k = M := ⟨_, rfl⟩
      rw [hM] at m1 m0 hstep ⊢
      have HS := Lib.hid hstep
      have i0 : (0 : Int) ≤ (k : Int) := by omega
      have i1 : (k : Int) < (n : Int) := by omega
      clear hy hM hstep hx
      go_wp2
      go_round
      case rel => exact ⟨k + 1, by omega, by go_num, by rw [HS.out]; congr 1; omega⟩
      case measure => simp [intOf]; omega
    · obtain rfl : k = n := by omega
      go_wp2
      go_ret
      exact ⟨rfl, rfl⟩
end Go.Proofs.Ytjnipbopimpggab
