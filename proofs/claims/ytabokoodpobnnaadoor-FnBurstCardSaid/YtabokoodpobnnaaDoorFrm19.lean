/- HammingEncode: what both sides answer; the model. -/
import Derived.Test.YtabokoodpobnnaaDoorFrm18
import Derived.Test.YtabokoodpobnnaaDoorFrm6
namespace Go.Proofs.YtabokoodpobnnaaDoor
open Go.RowKit Go.Shelf
set_option linter.unusedVariables false
set_option maxRecDepth 100000
def encF (z : ByteArray) (i : Nat) : Nat := blkV (fun k => zb z (4 * (i / 7) + k)) (i % 7)
theorem blkV_lt (q : Nat → Nat) (h : ∀ i, q i < 256) (j : Nat) : blkV q j < 256 := by
  have hc : ∀ a b c : Nat, ck3 a b c < 256 := fun a b c => by rcases ck3_bit a b c with h | h <;> rw [h] <;> omega
  unfold blkV
  split
  · exact hc _ _ _
  · split
    · exact hc _ _ _
    · split
      · exact h _
      · split
        · exact hc _ _ _
        · exact h _
theorem encF_lt (z : ByteArray) (i : Nat) : encF z i < 256 := blkV_lt _ (fun k => zb_lt z _) _
def heAns (z : ByteArray) : ByteArray × Bool := if bitsB z = true ∧ z.size % 4 = 0 ∧ z.size / 4 * 7 ≤ 600 then (strF (z.size / 4 * 7) (encF z), true) else noS
theorem he_no {z : ByteArray} (h : ¬ (bitsB z = true ∧ z.size % 4 = 0 ∧ z.size / 4 * 7 ≤ 600)) : heAns z = noS := by unfold heAns; rw [if_neg h]
theorem blk_cut {z : ByteArray} {b j : Nat} (h : 4 * b + 4 ≤ z.size) (hj : j < 7) : blkV (zb (z.extract (4 * b) (4 * b + 4))) j = encF z (7 * b + j) := by
  have e : ∀ k, k < 4 → zb (z.extract (4 * b) (4 * b + 4)) k = zb z (4 * b + k) := fun k hk => zb_extract _ _ _ _ h (by omega)
  unfold encF
  rw [show (7 * b + j) / 7 = b by omega, show (7 * b + j) % 7 = j by omega]
  have h7 : j = 0 ∨ j = 1 ∨ j = 2 ∨ j = 3 ∨ j = 4 ∨ j = 5 ∨ j = 6 := by omega
  rcases h7 with rfl | rfl | rfl | rfl | rfl | rfl | rfl <;> simp [blkV, e]
theorem enc_next {z : ByteArray} {b : Nat} (h : 4 * b + 4 ≤ z.size) : strF (7 * b) (encF z) ++ strF 7 (blkV (zb (z.extract (4 * b) (4 * b + 4)))) = strF (7 * (b + 1)) (encF z) := by
  apply strF_of
  · rw [ByteArray.size_append, strF_size, strF_size]; omega
  · intro i hi
    by_cases h1 : i < 7 * b
    · rw [zb_append_left _ _ _ (by rw [strF_size]; exact h1), zb_strF h1 (encF_lt z i)]
    · rw [zb_append_right _ _ _ (by rw [strF_size]; omega) (by rw [strF_size, strF_size]; omega), strF_size, zb_strF (by omega) (blkV_lt _ (fun k => zb_lt _ _) _), blk_cut h (by omega)]
      congr 1; omega
set_option maxHeartbeats 1600000 in
theorem sHe_any (z : ByteArray) (w : World) (hs : z.size ≤ 1048576) :
    Calls Tryd.prog 18 #[.string z] w fun e w' => e = .returned (.tuple #[.string (heAns z).1, .bool (heAns z).2]) ∧ Below w.heap.size w w' := by
  have HV := Lib.hid (fun w => l1Bits_any z w (by omega))
  cases hb : bitsB z with
  | false =>
    have HX := Lib.hid (he_no (z := z) (by rw [hb]; simp))
    rw [hb] at HV
    clear hb
    go_enter Tryd.func18, Tryd.ntmps18
    go_wp2_with fail
    refine (HV.out _).mono ?_
    rintro e w1 ⟨rfl, rfl⟩
    go_wp2
    go_ret2
    exact ⟨ret_sA HX.out, Below.refl _ _⟩
  | true =>
    rw [hb] at HV
    obtain ⟨ho, h6⟩ := bits_of2 hb
    by_cases h7 : z.size % 4 = 0
    · obtain ⟨n, hn⟩ : ∃ n, z.size / 4 = n := ⟨_, rfl⟩
      have hzn : z.size = 4 * n := by omega
      have t1 : (z.size : Int) % 4 = 0 := by omega
      have t2 : (z.size : Int) / 4 = (n : Int) := by omega
      by_cases h8 : n * 7 ≤ 600
      · have HX : Hid (heAns z = (strF (7 * n) (encF z), true)) := Lib.hid (by unfold heAns; rw [if_pos ⟨hb, h7, by rw [hn]; exact h8⟩, hn, Nat.mul_comm n 7])
        have HO := Lib.hid ho
        clear hb ho h7 hn
        go_enter Tryd.func18, Tryd.ntmps18
        go_wp2_with fail
        refine (HV.out _).mono ?_
        rintro e w1 ⟨rfl, rfl⟩
        go_wp2
        clear t1 t2
        go_loopw [4, 5] (fun s i wr => ∃ b : Nat, b ≤ n ∧ i = .int .i64 (4 * b : Nat) ∧ s = .string (strF (7 * b) (encF z)) ∧ Below w.heap.size w wr) (fun _ i _ => z.size - (intOf i).toNat)
        case atStart => exact ⟨0, by omega, by simp, rfl, Below.refl _ _⟩
        case round =>
          obtain ⟨b, hk, rfl, rfl, b0⟩ := hrel
          by_cases hlt : b < n
          · have hle : 4 * b + 4 ≤ z.size := by omega
            have hsB := size_extract z (4 * b) (4 * b + 4) hle
            have hok := okCut HO.out (4 * b) (4 * b + 4) hle
            have hN := enc_next hle
            have hsz := strF_size (7 * b) (encF z)
            have hC := fun w => l6Block_val (z.extract (4 * b) (4 * b + 4)) w hok (by omega)
            have hs7 := strF_size 7 (blkV (zb (z.extract (4 * b) (4 * b + 4))))
            have HPE : Hid (4 * (b + 1) = 4 * b + 4) := Lib.hid (by omega)
            obtain ⟨B, hB⟩ : ∃ B, z.extract (4 * b) (4 * b + 4) = B := ⟨_, rfl⟩
            rw [hB] at hC hN hs7
            obtain ⟨X, hX⟩ : ∃ X, strF 7 (blkV (zb B)) = X := ⟨_, rfl⟩
            rw [hX] at hC hN hs7
            obtain ⟨S, hS⟩ : ∃ S, strF (7 * b) (encF z) = S := ⟨_, rfl⟩
            rw [hS] at hN hsz ⊢
            obtain ⟨P, hP⟩ : ∃ P, 4 * b = P := ⟨_, rfl⟩
            rw [hP] at hB hle HPE ⊢
            obtain ⟨E, hE⟩ : ∃ E, P + 4 = E := ⟨_, rfl⟩
            rw [hE] at hB hle HPE
            have hE' : (P : Int) + 4 = (E : Int) := by omega
            have i0 : (0 : Int) ≤ (P : Int) := by omega
            have i1 : (P : Int) ≤ (E : Int) := by omega
            have i2 : (E : Int) ≤ (z.size : Int) := by omega
            have i3 : (P : Int) < (z.size : Int) := by omega
            have q1 : S.size + X.size ≤ 9223372036854775807 := by omega
            have q3 := fun w => run_string_add_sum (P := Tryd.prog) w S X q1
            have q5 : ¬ (9223372036854775807 < S.size + X.size) := by omega
            have HEN := Lib.hid hE
            have HK := Lib.hid hlt
            have HN := Lib.hid hN
            have HC := Lib.hid hC
            have BB := Lib.hid b0
            clear hsB hok hN hsz hC hs7 hX hS hP hE hlt hk b0 hle
            go_wp2_with fail
            refine (HC.out _).mono ?_
            rintro e w1 ⟨rfl, hb1⟩
            have b1 := below_then BB.out (Nat.le_refl _) hb1
            clear hb1
            go_wp2
            go_roundw
            case rel => exact ⟨b + 1, HK.out, by rw [HPE.out], by rw [← HN.out], b1⟩
            case measure => have := HEN.out; simp [intOf]; omega
          · obtain rfl : b = n := by omega
            have j1 : ¬ ((4 * b : Nat) : Int) < (z.size : Int) := by omega
            obtain ⟨P, hP⟩ : ∃ P, 4 * b = P := ⟨_, rfl⟩
            rw [hP] at j1 ⊢
            clear hP hzn hlt hk
            go_wp2
            go_ret2
            exact ⟨ret_sA HX.out, b0⟩
      · have HX := Lib.hid (he_no (z := z) (fun h => h8 (by rw [← hn]; exact h.2.2)))
        clear hb h7 hn
        go_enter Tryd.func18, Tryd.ntmps18
        go_wp2_with fail
        refine (HV.out _).mono ?_
        rintro e w1 ⟨rfl, rfl⟩
        go_wp2
        go_ret2
        exact ⟨ret_sA HX.out, Below.refl _ _⟩
    · have HX := Lib.hid (he_no (z := z) (fun h => h7 h.2.1))
      obtain ⟨M, hM⟩ : ∃ M, z.size % 4 = M := ⟨_, rfl⟩
      have t1 : (z.size : Int) % 4 = (M : Int) := by omega
      have t2 : ((M : Int) != 0) = true := by simp; omega
      clear hb h7 hM
      go_enter Tryd.func18, Tryd.ntmps18
      go_wp2_with fail
      refine (HV.out _).mono ?_
      rintro e w1 ⟨rfl, rfl⟩
      go_wp2
      go_ret2
      exact ⟨ret_sA HX.out, Below.refl _ _⟩
end Go.Proofs.YtabokoodpobnnaaDoor
