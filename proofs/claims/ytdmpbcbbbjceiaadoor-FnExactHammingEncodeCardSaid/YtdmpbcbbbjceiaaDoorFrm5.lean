/- Syndromes, of both sides. -/
import Derived.Test.YtdmpbcbbbjceiaaDoorFrm0
import Derived.Lib.ConvBytes
import Derived.Lib.OwnBridge
namespace Go.Proofs.YtdmpbcbbbjceiaaDoor
open Go.RowKit
set_option linter.unusedVariables false
set_option maxRecDepth 100000
/-- The sum without carries of the places that have a 1. -/
def synF (f : Nat → Nat) : Nat → Nat
  | 0 => 0
  | k + 1 => if f k = 49 then synF f k ^^^ (k + 1) else synF f k
theorem synF_lt (f : Nat → Nat) : ∀ k, k ≤ 7 → synF f k < 8
  | 0, _ => by show 0 < 8; omega
  | k + 1, h => by
    have := synF_lt f k (by omega)
    simp only [synF]
    split
    · exact Nat.xor_lt_two_pow (n := 3) this (by omega)
    · exact this
theorem synF_congr {f g : Nat → Nat} : ∀ k, (∀ i, i < k → f i = g i) → synF f k = synF g k
  | 0, _ => rfl
  | k + 1, h => by simp only [synF]; rw [synF_congr k (fun i hi => h i (by omega)), h k (by omega)]
def synAns (z : ByteArray) : Int := if bitsB z = true ∧ z.size = 7 then (synF (zb z) 7 : Nat) else -1
theorem syn_any (g off c : Nat) (f : Nat → Nat) (w : World) (hc : ∀ i, i < 7 → w.cell? ⟨g, off + i, none⟩ = some (.int .u8 (f i : Nat))) :
    Calls Tryd.prog 15 #[.slice (some ⟨g, off, none⟩) 7 c] w fun e w' => e = .returned (.int .i64 (synF f 7 : Nat)) ∧ w = w' := by
  have HC := Lib.hid hc
  clear hc
  go_enter Tryd.func15, Tryd.ntmps15
  go_wp2
  go_loopw [3, 8] (fun s i wr => ∃ k : Nat, k ≤ 7 ∧ i = .int .i64 k ∧ s = .int .i64 (synF f k : Nat) ∧ w = wr) (fun _ i _ => 7 - (intOf i).toNat)
  case atStart => exact ⟨0, by omega, rfl, rfl, rfl⟩
  case round =>
    obtain ⟨k, hk, rfl, rfl, rfl⟩ := hrel
    by_cases hlt : k < 7
    · have hcl := HC.out k hlt
      have hsl := synF_lt f k hk
      have hnx : synF f (k + 1) = if f k = 49 then synF f k ^^^ (k + 1) else synF f k := rfl
      have hx := xor64 (synF f k) (k + 1) (by omega) (by omega)
      obtain ⟨S, hS⟩ : ∃ S, synF f k = S := ⟨_, rfl⟩
      rw [hS] at hnx hx hsl ⊢
      obtain ⟨V, hV⟩ : ∃ V, f k = V := ⟨_, rfl⟩
      rw [hV] at hnx hcl
      have hk1 : ((k + 1 : Nat) : Int) = (k : Int) + 1 := by omega
      rw [hk1] at hx
      obtain ⟨X, hX⟩ : ∃ X, S ^^^ (k + 1) = X := ⟨_, rfl⟩
      rw [hX] at hnx hx
      have HK := Lib.hid hlt
      have i0 : (0 : Int) ≤ (k : Int) := by omega
      have i1 : (k : Int) < 7 := by omega
      by_cases e : V = 49
      · subst e
        rw [if_pos rfl] at hnx
        have HN := Lib.hid hnx
        clear hnx hS hX hk1 hsl hV
        go_wp2
        clear hx
        go_roundw
        case rel => exact ⟨k + 1, HK.out, by go_num, by rw [HN.out], trivial⟩
        case measure => simp [intOf]; omega
      · rw [if_neg e] at hnx
        have t1 : ((V : Int) == 49) = false := by simp; omega
        have HN := Lib.hid hnx
        clear hnx hS hX hk1 hsl hV e hx
        go_wp2
        go_roundw
        case rel => exact ⟨k + 1, HK.out, by go_num, by rw [HN.out], trivial⟩
        case measure => simp [intOf]; omega
    · obtain rfl : k = 7 := by omega
      go_wp2
      go_ret
      exact ⟨rfl, rfl⟩
theorem sSyn_any (z : ByteArray) (w : World) (hz : z.size = 7) :
    Calls Tryd.prog 13 #[.string z] w fun e w' => e = .returned (.int .i64 (synF (zb z) 7 : Nat)) ∧ w = w' := by
  go_enter Tryd.func13, Tryd.ntmps13
  go_wp2
  go_loopw [3, 4] (fun s i wr => ∃ k : Nat, k ≤ 7 ∧ i = .int .i64 k ∧ s = .int .i64 (synF (zb z) k : Nat) ∧ w = wr) (fun _ i _ => 7 - (intOf i).toNat)
  case atStart => exact ⟨0, by omega, rfl, rfl, rfl⟩
  case round =>
    obtain ⟨k, hk, rfl, rfl, rfl⟩ := hrel
    by_cases hlt : k < 7
    · have hkz : k < z.size := by omega
      have hsl := synF_lt (zb z) k hk
      have hnx : synF (zb z) (k + 1) = if zb z k = 49 then synF (zb z) k ^^^ (k + 1) else synF (zb z) k := rfl
      have hx := xor64 (synF (zb z) k) (k + 1) (by omega) (by omega)
      obtain ⟨S, hS⟩ : ∃ S, synF (zb z) k = S := ⟨_, rfl⟩
      rw [hS] at hnx hx hsl ⊢
      have hk1 : ((k + 1 : Nat) : Int) = (k : Int) + 1 := by omega
      rw [hk1] at hx
      obtain ⟨X, hX⟩ : ∃ X, S ^^^ (k + 1) = X := ⟨_, rfl⟩
      rw [hX] at hnx hx
      have HK := Lib.hid hlt
      have i0 : (0 : Int) ≤ (k : Int) := by omega
      have i1 : (k : Int) < (z.size : Int) := by omega
      by_cases e : zb z k = 49
      · rw [if_pos e] at hnx
        have t1 : ((z[k].toNat : Int) == 49) = true := by rw [zb_at z k hkz, e]; rfl
        have HN := Lib.hid hnx
        clear hnx hS hX hk1 hsl e
        go_wp2
        clear hx t1
        go_roundw
        case rel => exact ⟨k + 1, HK.out, by go_num, by rw [HN.out], trivial⟩
        case measure => simp [intOf]; omega
      · rw [if_neg e] at hnx
        have t1 : ((z[k].toNat : Int) == 49) = false := by rw [zb_at z k hkz]; simp; omega
        have HN := Lib.hid hnx
        clear hnx hS hX hk1 hsl e hx
        go_wp2
        clear t1
        go_roundw
        case rel => exact ⟨k + 1, HK.out, by go_num, by rw [HN.out], trivial⟩
        case measure => simp [intOf]; omega
    · obtain rfl : k = 7 := by omega
      go_wp2
      go_ret
      exact ⟨rfl, rfl⟩
theorem below_bytes' (w : World) (e : TypeId) (s : ByteArray) : Below w.heap.size w (Lib.bytesWorld w e s) :=
  ⟨rfl, rfl, rfl, by rw [Lib.bytesWorld_size]; omega, fun k hk => Lib.bytesWorld_at_old w e s k hk⟩
theorem syn_no {z : ByteArray} (h : ¬ (bitsB z = true ∧ z.size = 7)) : synAns z = -1 := by unfold synAns; rw [if_neg h]
end Go.Proofs.YtdmpbcbbbjceiaaDoor
