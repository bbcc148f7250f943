/- Syndromes, of both sides. -/
import Derived.Test.YtabokoodpobnnaaDoorFrm0
import Derived.Lib.ConvBytes
import Derived.Lib.OwnBridge
namespace Go.Proofs.YtabokoodpobnnaaDoor
open Go.RowKit
set_option linter.unusedVariables false
set_option maxRecDepth 100000
/-- The sum without carries of the places that have a 1. -/
def synF (f : Nat → Nat) : Nat → Nat
  | 0 => 0
  | k + 1 => if f k = 49 then synF f k ^^^ (k + 1) else synF f k
theorem synF_lt (f : Nat → Nat) : ∀ k, k ≤ 7 → synF f k < 8
  | 0, _ => by show 0 < 8; omega
  | k + 1, h => by
    have := synF_lt f k (by omega)
    simp only [synF]
    split
    · exact Nat.xor_lt_two_pow (n := 3) this (by omega)
    · exact this
theorem synF_congr {f g : Nat → Nat} : ∀ k, (∀ i, i < k → f i = g i) → synF f k = synF g k
  | 0, _ => rfl
  | k + 1, h => by simp only [synF]; rw [synF_congr k (fun i hi => h i (by omega)), h k (by omega)]
def synAns (z : ByteArray) : Int := if bitsB z = true ∧ z.size = 7 then (synF (zb z) 7 : Nat) else -1
theorem syn_any (g off c : Nat) (f : Nat → Nat) (w : World) (hc : ∀ i, i < 7 → w.cell? ⟨g, off + i, none⟩ = some (.int .u8 (f i : Nat))) :
    Calls Tryd.prog 52 #[.slice (some ⟨g, off, none⟩) 7 c] w fun e w' => e = .returned (.int .i64 (synF f 7 : Nat)) ∧ w = w' := by
  have HC := Lib.hid hc
  clear hc
  go_enter Tryd.func52, Tryd.ntmps52
  go_wp2
  go_loopw [3, 8] (fun s i wr => ∃ k : Nat, k ≤ 7 ∧ i = .int .i64 k ∧ s = .int .i64 (synF f k : Nat) ∧ w = wr) (fun _ i _ => 7 - (intOf i).toNat)
  case atStart => exact ⟨0, by omega, rfl, rfl, rfl⟩
  case round =>
    obtain ⟨k, hk, rfl, rfl, rfl⟩ := hrel
    by_cases hlt : k < 7
    · have hcl := HC.out k hlt
      have hsl := synF_lt f k hk
      have hnx : synF f (k + 1) = if f k = 49 then synF f k ^^^ (k + 1) else synF f k := rfl
      have hx := xor64 (synF f k) (k + 1) (by omega) (by omega)
      obtain ⟨S, hS⟩ : ∃ S, synF f k = S := ⟨_, rfl⟩
      rw [hS] at hnx hx hsl ⊢
      obtain ⟨V, hV⟩ : ∃ V, f k = V := ⟨_, rfl⟩
      rw [hV] at hnx hcl
      have hk1 : ((k + 1 : Nat) : Int) = (k : Int) + 1 := by omega
      rw [hk1] at hx
      obtain ⟨X, hX⟩ : ∃ X, S ^^^ (k + 1) = X := ⟨_, rfl⟩
      rw [hX] at hnx hx
      have HK := Lib.hid hlt
      have i0 : (0 : Int) ≤ (k : Int) := by omega
      have i1 : (k : Int) < 7 := by omega
      by_cases e : V = 49
      · subst e
        rw [if_pos rfl] at hnx
        have HN := Lib.hid hnx
        clear hnx hS hX hk1 hsl hV
        go_wp2
        clear hx
        go_roundw
        case rel => exact ⟨k + 1, HK.out, by go_num, by rw [HN.out], trivial⟩
        case measure => simp [intOf]; omega
      · rw [if_neg e] at hnx
        have t1 : ((V : Int) == 49) = false := by simp; omega
        have HN := Lib.hid hnx
        clear hnx hS hX hk1 hsl hV e hx
        go_wp2
        go_roundw
        case rel => exact ⟨k + 1, HK.out, by go_num, by rw [HN.out], trivial⟩
        case measure => simp [intOf]; omega
    · obtain rfl : k = 7 := by omega
      go_wp2
      go_ret
      exact ⟨rfl, rfl⟩
theorem sSyn_any (z : ByteArray) (w : World) (hz : z.size = 7) :
    Calls Tryd.prog 55 #[.string z] w fun e w' => e = .returned (.int .i64 (synF (zb z) 7 : Nat)) ∧ w = w' := by
  go_enter Tryd.func55, Tryd.ntmps55
  go_wp2
  go_loopw [3, 4] (fun s i wr => ∃ k : Nat, k ≤ 7 ∧ i = .int .i64 k ∧ s = .int .i64 (synF (zb z) k : Nat) ∧ w = wr) (fun _ i _ => 7 - (intOf i).toNat)
  case atStart => exact ⟨0, by omega, rfl, rfl, rfl⟩
  case round =>
    obtain ⟨k, hk, rfl, rfl, rfl⟩ := hrel
    by_cases hlt : k < 7
    · have hkz : k < z.size := by omega
      have hsl := synF_lt (zb z) k hk
      have hnx : synF (zb z) (k + 1) = if zb z k = 49 then synF (zb z) k ^^^ (k + 1) else synF (zb z) k := rfl
      have hx := xor64 (synF (zb z) k) (k + 1) (by omega) (by omega)
      obtain ⟨S, hS⟩ : ∃ S, synF (zb z) k = S := ⟨_, rfl⟩
      rw [hS] at hnx hx hsl ⊢
      have hk1 : ((k + 1 : Nat) : Int) = (k : Int) + 1 := by omega
      rw [hk1] at hx
      obtain ⟨X, hX⟩ : ∃ X, S ^^^ (k + 1) = X := ⟨_, rfl⟩
      rw [hX] at hnx hx
      have HK := Lib.hid hlt
      have i0 : (0 : Int) ≤ (k : Int) := by omega
      have i1 : (k : Int) < (z.size : Int) := by omega
      by_cases e : zb z k = 49
      · rw [if_pos e] at hnx
        have t1 : ((z[k].toNat : Int) == 49) = true := by rw [zb_at z k hkz, e]; rfl
        have HN := Lib.hid hnx
        clear hnx hS hX hk1 hsl e
        go_wp2
        clear hx t1
        go_roundw
        case rel => exact ⟨k + 1, HK.out, by go_num, by rw [HN.out], trivial⟩
        case measure => simp [intOf]; omega
      · rw [if_neg e] at hnx
        have t1 : ((z[k].toNat : Int) == 49) = false := by rw [zb_at z k hkz]; simp; omega
        have HN := Lib.hid hnx
        clear hnx hS hX hk1 hsl e hx
        go_wp2
        clear t1
        go_roundw
        case rel => exact ⟨k + 1, HK.out, by go_num, by rw [HN.out], trivial⟩
        case measure => simp [intOf]; omega
    · obtain rfl : k = 7 := by omega
      go_wp2
      go_ret
      exact ⟨rfl, rfl⟩
theorem below_bytes' (w : World) (e : TypeId) (s : ByteArray) : Below w.heap.size w (Lib.bytesWorld w e s) :=
  ⟨rfl, rfl, rfl, by rw [Lib.bytesWorld_size]; omega, fun k hk => Lib.bytesWorld_at_old w e s k hk⟩
theorem syn_no {z : ByteArray} (h : ¬ (bitsB z = true ∧ z.size = 7)) : synAns z = -1 := by unfold synAns; rw [if_neg h]
theorem iSyn_any (z : ByteArray) (w : World) (hs : z.size ≤ 1048576) :
    Calls Tryd.prog 20 #[.string z] w fun e w' => e = .returned (.int .i64 (synAns z)) ∧ Below w.heap.size w w' := by
  by_cases h7 : z.size = 7
  · have hv := fun w => bitsValid_any z w (by omega)
    cases hb : bitsB z with
    | false =>
      rw [hb] at hv
      have HX := Lib.hid (syn_no (z := z) (by rw [hb]; simp))
      have HV := Lib.hid hv
      have t1 : ((z.size : Int) != 7) = false := by simp; omega
      clear hb hv
      go_enter Tryd.func20, Tryd.ntmps20
      go_wp2_with fail
      refine (HV.out _).mono ?_
      rintro e w1 ⟨rfl, rfl⟩
      go_wp2
      go_ret
      exact ⟨ret_int HX.out.symm, Below.refl _ _⟩
    | true =>
      rw [hb] at hv
      have HX : Hid (synAns z = (synF (zb z) 7 : Nat)) := Lib.hid (by unfold synAns; rw [if_pos ⟨hb, h7⟩])
      have HV := Lib.hid hv
      have t1 : ((z.size : Int) != 7) = false := by simp; omega
      obtain ⟨W1, c, hcv, hH, hB⟩ : ∃ W1 c, (convert 9 29 (.string z)).run Tryd.prog w = .ok (.slice (some ⟨w.heap.size, 0, none⟩) z.size c) W1 ∧ (∀ i, i < 7 → W1.cell? ⟨w.heap.size, 0 + i, none⟩ = some (.int .u8 (zb z i : Nat))) ∧ Below w.heap.size w W1 :=
        ⟨_, _, Lib.run_convert_string_bytes w 9 29 5 z (u := .string) (by kernel_rfl) (by kernel_rfl) (by kernel_rfl), fun i hi => by rw [Nat.zero_add, Lib.bytesWorld_cell w _ z i (by omega)]; rfl, below_bytes' w _ z⟩
      rw [h7] at hcv
      have hS := syn_any w.heap.size 0 c (zb z) W1 hH
      have HS := Lib.hid hS
      clear hb hv hH hS
      go_enter Tryd.func20, Tryd.ntmps20
      go_wp2_with fail
      refine (HV.out _).mono ?_
      rintro e w1 ⟨rfl, rfl⟩
      go_wp2_with fail
      refine HS.out.mono ?_
      rintro e w1 ⟨rfl, rfl⟩
      go_wp2
      go_ret
      exact ⟨ret_int HX.out.symm, hB⟩
  · have HX := Lib.hid (syn_no (z := z) (fun h => h7 h.2))
    have t1 : ((z.size : Int) != 7) = true := by simp; omega
    clear h7
    go_enter Tryd.func20, Tryd.ntmps20
    go_wp2
    go_ret
    exact ⟨ret_int HX.out.symm, Below.refl _ _⟩
end Go.Proofs.YtabokoodpobnnaaDoor
