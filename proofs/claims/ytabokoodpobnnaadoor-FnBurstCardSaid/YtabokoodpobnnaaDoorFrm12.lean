/- HammingDecode: what both sides answer; the model. -/
import Derived.Test.YtabokoodpobnnaaDoorFrm5
import Derived.Test.YtabokoodpobnnaaDoorFrm6
import Derived.Test.YtabokoodpobnnaaDoorFlp
namespace Go.Proofs.YtabokoodpobnnaaDoor
open Go.RowKit Go.Shelf
set_option linter.unusedVariables false
set_option maxRecDepth 100000
/-- The places of the data in a block, from 0 on. -/
def plF4 (j : Nat) : Nat := if j = 0 then 2 else if j = 1 then 4 else if j = 2 then 5 else 6
/-- The bytes of a block, corrected. -/
def corF (f : Nat → Nat) (j : Nat) : Nat := if synF f 7 = j + 1 then 97 - f j else f j
def blkF (z : ByteArray) (b j : Nat) : Nat := zb z (7 * b + j)
def decF (z : ByteArray) (i : Nat) : Nat := corF (blkF z (i / 4)) (plF4 (i % 4))
theorem corF_lt (z : ByteArray) (b j : Nat) : corF (blkF z b) j < 256 := by
  have := zb_lt z (7 * b + j)
  unfold corF blkF at *
  split <;> omega
theorem decF_lt (z : ByteArray) (i : Nat) : decF z i < 256 := corF_lt _ _ _
def cntF (z : ByteArray) : Nat → Nat
  | 0 => 0
  | b + 1 => cntF z b + (if synF (blkF z b) 7 = 0 then 0 else 1)
theorem cntF_le (z : ByteArray) : ∀ b, cntF z b ≤ b
  | 0 => Nat.le_refl _
  | b + 1 => by have := cntF_le z b; simp only [cntF]; split <;> omega
def hdAns (z : ByteArray) : ByteArray × Int × Bool := if bitsB z = true ∧ z.size % 7 = 0 then (strF (z.size / 7 * 4) (decF z), ((cntF z (z.size / 7) : Nat) : Int), true) else (⟨#[]⟩, 0, false)
theorem hd_no {z : ByteArray} (h : ¬ (bitsB z = true ∧ z.size % 7 = 0)) : hdAns z = (⟨#[]⟩, 0, false) := by unfold hdAns; rw [if_neg h]
theorem ret_H {A : ByteArray × Int × Bool} {x : ByteArray} {i : Int} {c : Bool} (h : A = (x, i, c)) : Ending.returned (.tuple #[.string x, .int .i64 i, .bool c]) = .returned (.tuple #[.string A.1, .int .i64 A.2.1, .bool A.2.2]) := by rw [h]
theorem syn_blk (z : ByteArray) (b : Nat) (h : 7 * b + 7 ≤ z.size) : synF (zb (z.extract (7 * b) (7 * b + 7))) 7 = synF (blkF z b) 7 := synF_congr 7 fun i hi => zb_extract _ _ _ _ h (by omega)
/-- Four bytes more. -/
theorem dec_next {z Y : ByteArray} {b : Nat} (hY : Y.size = 7) (hy : ∀ j, j < 7 → zb Y j = corF (blkF z b) j) : (strF (4 * b) (decF z) ++ Y.extract 2 3) ++ Y.extract 4 7 = strF (4 * (b + 1)) (decF z) := by
  have s1 := size_extract Y 2 3 (by omega)
  have s2 := size_extract Y 4 7 (by omega)
  apply strF_of
  · rw [ByteArray.size_append, ByteArray.size_append, strF_size, s1, s2]; omega
  · intro i hi
    by_cases h1 : i < 4 * b
    · rw [zb_append_left _ _ _ (by rw [ByteArray.size_append, strF_size]; omega), zb_append_left _ _ _ (by rw [strF_size]; exact h1), zb_strF h1 (decF_lt z i)]
    · have e1 : i / 4 = b := by omega
      unfold decF
      rw [e1]
      by_cases h2 : i = 4 * b
      · rw [zb_append_left _ _ _ (by rw [ByteArray.size_append, strF_size, s1]; omega), zb_append_right _ _ _ (by rw [strF_size]; omega) (by rw [strF_size, s1]; omega), strF_size, zb_extract _ _ _ _ (by omega) (by omega), hy _ (by omega), show i % 4 = 0 by omega]
        congr 1; show 2 + (i - 4 * b) = 2; omega
      · rw [zb_append_right _ _ _ (by rw [ByteArray.size_append, strF_size, s1]; omega) (by rw [ByteArray.size_append, strF_size, s1, s2]; omega), ByteArray.size_append, strF_size, s1, zb_extract _ _ _ _ (by omega) (by omega), hy _ (by omega)]
        have h3 : i % 4 = 1 ∨ i % 4 = 2 ∨ i % 4 = 3 := by omega
        rcases h3 with h | h | h <;> rw [h] <;> congr 1
        · show 4 + (i - (4 * b + (3 - 2))) = 4; omega
        · show 4 + (i - (4 * b + (3 - 2))) = 5; omega
        · show 4 + (i - (4 * b + (3 - 2))) = 6; omega
set_option maxHeartbeats 1600000 in
theorem sHd_any (z : ByteArray) (w : World) (hs : z.size ≤ 1048576) :
    Calls Tryd.prog 15 #[.string z] w fun e w' => e = .returned (.tuple #[.string (hdAns z).1, .int .i64 (hdAns z).2.1, .bool (hdAns z).2.2]) ∧ Below w.heap.size w w' := by
  have HV := Lib.hid (fun w => l1Bits_any z w (by omega))
  cases hb : bitsB z with
  | false =>
    have HX := Lib.hid (hd_no (z := z) (by rw [hb]; simp))
    rw [hb] at HV
    clear hb
    go_enter Tryd.func15, Tryd.ntmps15
    go_wp2_with fail
    refine (HV.out _).mono ?_
    rintro e w1 ⟨rfl, rfl⟩
    go_wp2
    refine bodyPost_ret (v := .tuple #[.string ⟨#[]⟩, .int .i64 0, .bool false]) (by simp [results, Tryd.results15, go_sem]) rfl ?_
    exact ⟨ret_H HX.out, Below.refl _ _⟩
  | true =>
    rw [hb] at HV
    obtain ⟨ho, h6⟩ := bits_of2 hb
    by_cases h7 : z.size % 7 = 0
    · obtain ⟨n, hn⟩ : ∃ n, z.size / 7 = n := ⟨_, rfl⟩
      have hzn : z.size = 7 * n := by omega
      have HX : Hid (hdAns z = (strF (4 * n) (decF z), ((cntF z n : Nat) : Int), true)) := Lib.hid (by unfold hdAns; rw [if_pos ⟨hb, h7⟩, hn, Nat.mul_comm n 4])
      have t1 : (z.size : Int) % 7 = 0 := by omega
      have HO := Lib.hid ho
      clear hb ho h7 hn
      go_enter Tryd.func15, Tryd.ntmps15
      go_wp2_with fail
      refine (HV.out _).mono ?_
      rintro e w1 ⟨rfl, rfl⟩
      go_wp2
      clear t1
      go_loopw [5, 6, 7] (fun s c i wr => ∃ b : Nat, b ≤ n ∧ i = .int .i64 (7 * b : Nat) ∧ s = .string (strF (4 * b) (decF z)) ∧ c = .int .i64 (cntF z b : Nat) ∧ Below w.heap.size w wr) (fun _ _ i _ => z.size - (intOf i).toNat)
      case atStart => exact ⟨0, by omega, by simp, rfl, rfl, Below.refl _ _⟩
      case round =>
        obtain ⟨b, hk, rfl, rfl, rfl, b0⟩ := hrel
        by_cases hlt : b < n
        · have hle : 7 * b + 7 ≤ z.size := by omega
          have hsB := size_extract z (7 * b) (7 * b + 7) hle
          have hsy := syn_blk z b hle
          have hok := okCut HO.out (7 * b) (7 * b + 7) hle
          have hN := fun Y hY hy => dec_next (z := z) (Y := Y) (b := b) hY hy
          have hyz : ∀ j, j < 7 → zb (z.extract (7 * b) (7 * b + 7)) j = blkF z b j := fun j hj => by rw [zb_extract _ _ _ _ hle (by omega)]; rfl
          have hcl := cntF_le z b
          have hc1 : cntF z (b + 1) = cntF z b + (if synF (blkF z b) 7 = 0 then 0 else 1) := rfl
          have hsz := strF_size (4 * b) (decF z)
          have hKl := synF_lt (blkF z b) 7 (by omega)
          have hcor : ∀ j, corF (blkF z b) j = if synF (blkF z b) 7 = j + 1 then 97 - blkF z b j else blkF z b j := fun j => rfl
          obtain ⟨B, hB⟩ : ∃ B, z.extract (7 * b) (7 * b + 7) = B := ⟨_, rfl⟩
          obtain ⟨K, hK⟩ : ∃ K, synF (blkF z b) 7 = K := ⟨_, rfl⟩
          rw [hB] at hsB hsy hok hyz
          rw [hK] at hsy hc1 hKl hcor
          have hs7 : B.size = 7 := by omega
          have hL := fun w => sSyn_any B w hs7
          rw [hsy] at hL
          have HPE : Hid (7 * (b + 1) = 7 * b + 7) := Lib.hid (by omega)
          obtain ⟨S, hS⟩ : ∃ S, strF (4 * b) (decF z) = S := ⟨_, rfl⟩
          obtain ⟨C, hC⟩ : ∃ C, cntF z b = C := ⟨_, rfl⟩
          rw [hS] at hN hsz ⊢
          rw [hC] at hc1 hcl ⊢
          obtain ⟨P, hP⟩ : ∃ P, 7 * b = P := ⟨_, rfl⟩
          rw [hP] at hB hle HPE ⊢
          obtain ⟨E, hE⟩ : ∃ E, P + 7 = E := ⟨_, rfl⟩
          rw [hE] at hB hle HPE
          have hE' : (P : Int) + 7 = (E : Int) := by omega
          have i0 : (0 : Int) ≤ (P : Int) := by omega
          have i1 : (P : Int) ≤ (E : Int) := by omega
          have i2 : (E : Int) ≤ (z.size : Int) := by omega
          have i3 : (P : Int) < (z.size : Int) := by omega
          have HL := Lib.hid hL
          have HEN := Lib.hid hE
          have HK := Lib.hid hlt
          have hCb : C ≤ 149797 := by omega
          have hSs : S.size ≤ 600000 := by omega
          have BB := Lib.hid b0
          by_cases hK0 : K = 0
          · have hy : ∀ j, j < 7 → zb B j = corF (blkF z b) j := fun j hj => by rw [hyz j hj, hcor, if_neg (by omega)]
            have HN := Lib.hid (hN B hs7 hy)
            rw [if_pos hK0, Nat.add_zero] at hc1
            have HC1 := Lib.hid hc1
            have t1 : ¬ (0 : Int) < ((K : Nat) : Int) := by omega
            obtain ⟨T, hT⟩ : ∃ T, ((K : Nat) : Int) = T := ⟨_, rfl⟩
            rw [hT] at HL t1
            have x1 := size_extract B 2 3 (by omega)
            have x2 := size_extract B 4 7 (by omega)
            obtain ⟨X1, hX1⟩ : ∃ X, B.extract 2 3 = X := ⟨_, rfl⟩
            obtain ⟨X2, hX2⟩ : ∃ X, B.extract 4 7 = X := ⟨_, rfl⟩
            rw [hX1, hX2] at HN
            rw [hX1] at x1
            rw [hX2] at x2
            have q1 : S.size + X1.size ≤ 9223372036854775807 := by omega
            have q2 : (S ++ X1).size + X2.size ≤ 9223372036854775807 := by rw [ByteArray.size_append]; omega
            have q3 := fun w => run_string_add_sum (P := Tryd.prog) w S X1 q1
            have q4 := fun w => run_string_add_sum (P := Tryd.prog) w (S ++ X1) X2 q2
            have q5 : ¬ (9223372036854775807 < S.size + X1.size) := by omega
            have q6 : ¬ (9223372036854775807 < S.size + X1.size + X2.size) := by omega
            clear hN hyz hcor hy hc1 hcl hK hsy hKl hL hok hlt hK0 hsB hsz hS hC hE hP b0 x1 x2 hT hle hk
            go_wp2_with fail
            refine (HL.out _).mono ?_
            rintro e w1 ⟨rfl, rfl⟩
            go_wp2_with fail
            go_quiet (fail)
            go_wp2
            exact ⟨⟨b + 1, HK.out, by rw [HPE.out], by rw [← HN.out], by rw [HC1.out]; rfl, below_drewN BB.out _⟩, by have := HEN.out; simp [intOf]; omega⟩
          · obtain ⟨k, hk1⟩ : ∃ k, K = k + 1 := ⟨K - 1, by omega⟩
            have hF := fun w => l6Flip_any B k w (by omega) hok (by omega)
            have hyf : ∀ j, j < 7 → zb (flipS B k) j = corF (blkF z b) j := fun j hj => by
              rw [zb_flipS (by omega), hyz j hj, hcor]
              by_cases hjk : j = k
              · rw [if_pos hjk, if_pos (by omega)]
              · rw [if_neg hjk, if_neg (by omega)]
            have hYs : (flipS B k).size = 7 := by rw [flipS_size]; exact hs7
            obtain ⟨Y, hY⟩ : ∃ Y, flipS B k = Y := ⟨_, rfl⟩
            rw [hY] at hF hyf hYs
            have HN := Lib.hid (hN Y hYs hyf)
            rw [if_neg hK0] at hc1
            have HC1 := Lib.hid hc1
            have HF := Lib.hid hF
            have t1 : (0 : Int) < ((K : Nat) : Int) := by omega
            have v1 : ((K : Nat) : Int) - 1 = (k : Int) := by omega
            have t2 : ((K : Nat) : Int) ≤ 7 := by omega
            have v2 : IntKind.i64.wrap (((K : Nat) : Int) - 1) = (k : Int) := by rw [v1]; exact IntWalk.i64_in _ (by omega)
            obtain ⟨T, hT⟩ : ∃ T, ((K : Nat) : Int) = T := ⟨_, rfl⟩
            rw [hT] at HL t1 t2 v1 v2
            have x1 := size_extract Y 2 3 (by omega)
            have x2 := size_extract Y 4 7 (by omega)
            obtain ⟨X1, hX1⟩ : ∃ X, Y.extract 2 3 = X := ⟨_, rfl⟩
            obtain ⟨X2, hX2⟩ : ∃ X, Y.extract 4 7 = X := ⟨_, rfl⟩
            rw [hX1, hX2] at HN
            rw [hX1] at x1
            rw [hX2] at x2
            have q1 : S.size + X1.size ≤ 9223372036854775807 := by omega
            have q2 : (S ++ X1).size + X2.size ≤ 9223372036854775807 := by rw [ByteArray.size_append]; omega
            have q3 := fun w => run_string_add_sum (P := Tryd.prog) w S X1 q1
            have q4 := fun w => run_string_add_sum (P := Tryd.prog) w (S ++ X1) X2 q2
            have q5 : ¬ (9223372036854775807 < S.size + X1.size) := by omega
            have q6 : ¬ (9223372036854775807 < S.size + X1.size + X2.size) := by omega
            clear hN hyz hcor hyf hc1 hcl hK hsy hKl hL hok hlt hK0 hsB hsz hS hC hE hP b0 x1 x2 hT hle hk hk1 hF hY hs7
            go_wp2_with fail
            refine (HL.out _).mono ?_
            rintro e w1 ⟨rfl, rfl⟩
            go_wp2_with fail
            refine (HF.out _).mono ?_
            rintro e w1 ⟨rfl, hb1⟩
            have b1 := below_then BB.out (Nat.le_refl _) hb1
            clear hb1
            go_wp2_with fail
            go_quiet (fail)
            go_wp2
            exact ⟨⟨b + 1, HK.out, by rw [HPE.out], by rw [← HN.out], by rw [HC1.out]; go_num, below_drewN b1 _⟩, by have := HEN.out; simp [intOf]; omega⟩
        · obtain rfl : b = n := by omega
          have j1 : ¬ ((7 * b : Nat) : Int) < (z.size : Int) := by omega
          obtain ⟨P, hP⟩ : ∃ P, 7 * b = P := ⟨_, rfl⟩
          rw [hP] at j1 ⊢
          clear hP hzn hlt hk
          go_wp2
          refine bodyPost_ret (v := .tuple #[.string (strF (4 * b) (decF z)), .int .i64 (cntF z b : Nat), .bool true]) (by simp [results, Tryd.results15, go_sem]) rfl ?_
          exact ⟨ret_H HX.out, b0⟩
    · have HX := Lib.hid (hd_no (z := z) (fun h => h7 h.2))
      obtain ⟨M, hM⟩ : ∃ M, z.size % 7 = M := ⟨_, rfl⟩
      have t1 : (z.size : Int) % 7 = (M : Int) := by omega
      have t2 : ((M : Int) != 0) = true := by simp; omega
      clear hb h7 hM
      go_enter Tryd.func15, Tryd.ntmps15
      go_wp2_with fail
      refine (HV.out _).mono ?_
      rintro e w1 ⟨rfl, rfl⟩
      go_wp2
      refine bodyPost_ret (v := .tuple #[.string ⟨#[]⟩, .int .i64 0, .bool false]) (by simp [results, Tryd.results15, go_sem]) rfl ?_
      exact ⟨ret_H HX.out, Below.refl _ _⟩
end Go.Proofs.YtabokoodpobnnaaDoor
