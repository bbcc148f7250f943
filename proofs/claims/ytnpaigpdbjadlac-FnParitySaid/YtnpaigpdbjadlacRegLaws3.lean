/- The walk of the law FnParity. -/
import Derived.Test.YtnpaigpdbjadlacDraw
import Derived.Test.YtnpaigpdbjadlacRegLaws1
namespace Go.Proofs.Ytnpaigpdbjadlac
open Go.RowKit
theorem IsBytes.below {w w' : World} {a : Option Addr} {len cap : Nat} {zs : List Int} (h : IsBytes w a len cap zs) (hb : Below w.heap.size w w') : IsBytes w' a len cap zs := by
  rcases h with h | ⟨x, hx, hl, hm, hz, hcell, hwz⟩
  · exact .inl h
  · exact .inr ⟨x, hx, hl, hm, hz, fun i hi => (hb.cell (World.block_lt_of_cell? _ _ (hcell i hi))).trans (hcell i hi), hwz⟩
theorem sParity_yes (n : Int) (w : World) (h0 : 0 ≤ n) (h : n ≤ 9223372036854775807) : Calls Try.prog 11 #[.int .i64 n] w fun e w' => e = .returned (.int .i64 (par n.toNat : Nat)) ∧ w = w' := by
  obtain ⟨k, rfl⟩ : ∃ k : Nat, n = k := ⟨n.toNat, by omega⟩
  exact sParity_any k w (by omega)
theorem parity_two (k : Nat) (w : World) (h : k ≤ 4611686018427387903) : Calls Try.prog 12 #[.int .i64 (2 * (k : Int))] w fun e w' => e = .returned (.int .i64 (par k : Nat)) ∧ w = w' := by
  have := parity_any (2 * k) w (by omega)
  rw [par_double k h] at this
  rw [show 2 * (k : Int) = ((2 * k : Nat) : Int) by omega]
  exact this
theorem parity_two1 (k : Nat) (w : World) (h : k ≤ 4611686018427387903) : Calls Try.prog 12 #[.int .i64 (2 * (k : Int) + 1)] w fun e w' => e = .returned (.int .i64 (1 - ((par k : Nat) : Int))) ∧ w = w' := by
  have := parity_any (2 * k + 1) w (by omega)
  have hp := par_lt k
  rw [par_odd k h] at this
  rw [show 2 * (k : Int) + 1 = ((2 * k + 1 : Nat) : Int) by omega, show 1 - ((par k : Nat) : Int) = ((1 - par k : Nat) : Int) by omega]
  exact this
theorem fnParity_walk (a0 : Option Addr) (len0 cap0 : Nat) (z0 : List Int) (a1 : Option Addr) (len1 cap1 : Nat) (z1 : List Int) (w : World) (w0 : IsBytes w a0 len0 cap0 z0) (w1 : IsBytes w a1 len1 cap1 z1) :
    Calls Try.prog 5 #[.slice a0 len0 cap0, .slice a1 len1 cap1] w fun e w' => e = .returned (.bool true) ∧ Below w.heap.size w w' := by
  by_cases hl : 1048576 < len0
  · go_enter Try.func5, Try.ntmps5
    go_wp2
    go_ret
    exact ⟨rfl, Below.refl _ _⟩
  · by_cases hl1 : 1048576 < len1
    · go_enter Try.func5, Try.ntmps5
      go_wp2
      go_ret
      exact ⟨rfl, Below.refl _ _⟩
    · go_enter Try.func5, Try.ntmps5
      go_wp2_with fail
      refine (drawParity_any a0 len0 cap0 z0 _ w0).mono ?_
      rintro e W1 ⟨n, rfl, hn, b1⟩
      have w1' := w1.below b1
      go_wp2_with fail
      refine (drawParity_any a1 len1 cap1 z1 _ w1').mono ?_
      rintro e W2 ⟨m, rfl, hm, b2'⟩
      have b2 := below_then b1 (Nat.le_refl _) b2'
      clear b1 b2' w1' w0 w1
      by_cases h0 : n < 0
      · go_wp2_with (first | (go_at_call 12; refine (parity_neg _ _ h0).mono ?_; rintro e w' ⟨rfl, rfl⟩) | (go_at_call 11; refine (sParity_neg _ _ h0).mono ?_; rintro e w' ⟨rfl, rfl⟩))
        go_ret
        exact ⟨rfl, b2⟩
      · obtain ⟨k, rfl⟩ : ∃ k : Nat, n = k := ⟨n.toNat, by omega⟩
        have hk : k ≤ 9223372036854775807 := by omega
        go_wp2_with fail
        refine (parity_any _ _ hk).mono ?_
        rintro e w' ⟨rfl, rfl⟩
        go_wp2_with fail
        refine (sParity_any _ _ hk).mono ?_
        rintro e w' ⟨rfl, rfl⟩
        have hpk := par_lt k
        by_cases h1 : m < 0
        · clear hn hm hk
          rcases (show par k = 0 ∨ par k = 1 by omega) with e | e
          · rw [e]
            clear e hpk
            go_wp2
            go_ret
            exact ⟨rfl, b2⟩
          · rw [e]
            clear e hpk
            go_wp2
            go_ret
            exact ⟨rfl, b2⟩
        · obtain ⟨j, rfl⟩ : ∃ j : Nat, m = j := ⟨m.toNat, by omega⟩
          have hj : j ≤ 9223372036854775807 := by omega
          have hx := xor64 k j (by omega) (by omega)
          have hxl : k ^^^ j ≤ 9223372036854775807 := by have : k ^^^ j < 2 ^ 63 := Nat.xor_lt_two_pow (by omega) (by omega); omega
          have hxp := par_xor k j
          have hxb := xor64_bit (par k) (par j) (par_lt k) (par_lt j)
          rw [← hxp] at hxb
          have HL := Lib.hid hxl
          have HJ := Lib.hid hj
          have HB := Lib.hid hxb
          clear hn hm hk hpk hxp hxl hj hxb
          by_cases h2 : 4611686018427387903 < k
          · go_wp2_with fail
            refine (parity_any _ _ HL.out).mono ?_
            rintro e w' ⟨rfl, rfl⟩
            go_wp2_with fail
            refine (parity_any _ _ HJ.out).mono ?_
            rintro e w' ⟨rfl, rfl⟩
            have hxb := HB.out
            go_wp2
            go_ret
            exact ⟨rfl, b2⟩
          · go_wp2_with fail
            refine (parity_any _ _ HL.out).mono ?_
            rintro e w' ⟨rfl, rfl⟩
            go_wp2_with fail
            refine (parity_any _ _ HJ.out).mono ?_
            rintro e w' ⟨rfl, rfl⟩
            have hxb := HB.out
            go_wp2_with fail
            refine (parity_two k _ (by omega)).mono ?_
            rintro e w' ⟨rfl, rfl⟩
            clear hxb hx
            go_wp2_with fail
            refine (parity_two1 k _ (by omega)).mono ?_
            rintro e w' ⟨rfl, rfl⟩
            have hpk := par_lt k
            go_wp2
            go_ret
            exact ⟨rfl, b2⟩
end Go.Proofs.Ytnpaigpdbjadlac
