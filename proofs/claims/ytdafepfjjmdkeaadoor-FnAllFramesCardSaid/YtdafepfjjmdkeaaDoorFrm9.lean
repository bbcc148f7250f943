/- Numbers of binary digits; frames read, of the model. -/
import Derived.Test.YtdafepfjjmdkeaaDoorFrm7
import Derived.Test.YtdafepfjjmdkeaaDoorClone
import Derived.Deep.RegionHeld3
namespace Go.Proofs.YtdafepfjjmdkeaaDoor
open Go.RowKit
set_option linter.unusedVariables false
set_option maxRecDepth 100000
/-- The number with these binary digits. -/
def numF (f : Nat → Nat) : Nat → Nat
  | 0 => 0
  | k + 1 => 2 * numF f k + (f k - 48)
theorem numF_lt {f : Nat → Nat} : ∀ k, k ≤ 7 → (∀ i, i < k → f i = 48 ∨ f i = 49) → numF f k < tw k
  | 0, _, _ => by show 0 < 1; omega
  | k + 1, hk, h => by
    have := numF_lt k (by omega) (fun i hi => h i (by omega))
    have hf := h k (by omega)
    have ht : tw (k + 1) = 2 * tw k := by show 2 ^ (k + 1) = 2 * 2 ^ k; rw [Nat.pow_succ]; omega
    simp only [numF]
    omega
theorem numF_congr {f g : Nat → Nat} : ∀ k, (∀ i, i < k → f i = g i) → numF f k = numF g k
  | 0, _ => rfl
  | k + 1, h => by simp only [numF]; rw [numF_congr k (fun i hi => h i (by omega)), h k (by omega)]
theorem tw7 : ∀ k, k ≤ 7 → tw k ≤ 128 := fun k hk => Nat.pow_le_pow_right (n := 2) (by omega) hk
theorem sNum_any (z : ByteArray) (w : World) (ho : okB z z.size = true) (h7 : z.size = 7) :
    Calls Tryd.prog 44 #[.string z] w fun e w' => e = .returned (.int .i64 (numF (zb z) 7 : Nat)) ∧ w = w' := by
  have HB := Lib.hid (okB_zb z ho)
  clear ho
  go_enter Tryd.func44, Tryd.ntmps44
  go_wp2
  go_loopw [3, 4] (fun s i wr => ∃ k : Nat, k ≤ 7 ∧ i = .int .i64 k ∧ s = .int .i64 (numF (zb z) k : Nat) ∧ w = wr) (fun _ i _ => 7 - (intOf i).toNat)
  case atStart => exact ⟨0, by omega, rfl, rfl, rfl⟩
  case round =>
    obtain ⟨k, hk, rfl, rfl, rfl⟩ := hrel
    by_cases hlt : k < 7
    · have hkz : k < z.size := by omega
      have hl := numF_lt (f := zb z) k hk (fun i hi => HB.out i (by omega))
      have ht := tw7 k hk
      have hb := HB.out k hkz
      have hnx : numF (zb z) (k + 1) = 2 * numF (zb z) k + (zb z k - 48) := rfl
      have hz := zb_at z k hkz
      obtain ⟨S, hS⟩ : ∃ S, numF (zb z) k = S := ⟨_, rfl⟩
      rw [hS] at hnx hl ⊢
      obtain ⟨V, hV⟩ : ∃ S, z[k].toNat = S := ⟨_, rfl⟩
      have hV2 : (z[k].toNat : Int) = (V : Int) := by rw [hV]
      rw [← hz, hV] at hnx hb
      have hN : ((2 * (S : Int)) + (V : Int)) - 48 = ((numF (zb z) (k + 1) : Nat) : Int) := by rw [hnx]; omega
      have HN := Lib.hid hN
      have i0 : (0 : Int) ≤ (k : Int) := by omega
      have i1 : (k : Int) < (z.size : Int) := by omega
      have q1 : S ≤ 128 := by omega
      have q2 : V ≤ 49 := by omega
      have q3 : 48 ≤ V := by omega
      clear hnx hS hV hN hz hl ht hb
      go_wp2
      go_roundw
      case rel => exact ⟨k + 1, by omega, by go_num, by rw [← HN.out], trivial⟩
      case measure => simp [intOf]; omega
    · obtain rfl : k = 7 := by omega
      go_wp2
      go_ret
      exact ⟨rfl, rfl⟩
theorem iNum_any (z : ByteArray) (w : World) (ho : okB z z.size = true) (h7 : z.size = 7) :
    Calls Tryd.prog 57 #[.string z] w fun e w' => e = .returned (.int .i64 (numF (zb z) 7 : Nat)) ∧ w = w' := by
  have HB := Lib.hid (okB_zb z ho)
  clear ho
  go_enter Tryd.func57, Tryd.ntmps57
  go_wp2
  go_loopw [3, 7] (fun s i wr => ∃ k : Nat, k ≤ 7 ∧ i = .int .i64 k ∧ s = .int .i64 (numF (zb z) k : Nat) ∧ w = wr) (fun _ i _ => 7 - (intOf i).toNat)
  case atStart => exact ⟨0, by omega, rfl, rfl, rfl⟩
  case round =>
    obtain ⟨k, hk, rfl, rfl, rfl⟩ := hrel
    by_cases hlt : k < 7
    · have hkz : k < z.size := by omega
      have hl := numF_lt (f := zb z) k hk (fun i hi => HB.out i (by omega))
      have ht := tw7 k hk
      have hnx : numF (zb z) (k + 1) = 2 * numF (zb z) k + (zb z k - 48) := rfl
      obtain ⟨b, hb2, hbz⟩ := isBit _ (HB.out k hkz)
      have v0 : IntKind.u8.wrap ((z[k].toNat : Int) - 48) = (b : Int) := by rw [zb_at z k hkz, hbz, show ((48 + b : Nat) : Int) - 48 = (b : Int) by omega]; exact IntWalk.u8_in _ (by omega)
      obtain ⟨S, hS⟩ : ∃ S, numF (zb z) k = S := ⟨_, rfl⟩
      rw [hS] at hnx hl ⊢
      have hN : (2 * (S : Int)) + (b : Int) = ((numF (zb z) (k + 1) : Nat) : Int) := by rw [hnx, hbz]; omega
      have HN := Lib.hid hN
      have i0 : (0 : Int) ≤ (k : Int) := by omega
      have i1 : (k : Int) < (z.size : Int) := by omega
      have q1 : S ≤ 128 := by omega
      clear hnx hS hbz hN hl ht
      go_wp2
      clear v0
      go_roundw
      case rel => exact ⟨k + 1, by omega, by go_num, by rw [← HN.out], trivial⟩
      case measure => simp [intOf]; omega
    · obtain rfl : k = 7 := by omega
      go_wp2
      go_ret
      exact ⟨rfl, rfl⟩
end Go.Proofs.YtdafepfjjmdkeaaDoor
