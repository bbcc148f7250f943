/- Contracts of FirstBarker, of both sides: binary digits as a text. -/
import Derived.Test.YtdafepfjjmdkeaaDoorFam1
import Derived.Test.YtdafepfjjmdkeaaDoorFirstN
namespace Go.Proofs.YtdafepfjjmdkeaaDoor
open Go.RowKit
set_option linter.unusedVariables false
theorem tw_60 (s : Nat) (h : s ≤ 60) : tw s ≤ 1152921504606846976 := Nat.pow_le_pow_right (n := 2) (by omega) h
theorem wrap_tw60 (s : Nat) (h : s ≤ 60) : wrap64 ((2 : Int) ^ s) = ((tw s : Nat) : Int) := by
  rw [int_tw]
  have := tw_60 s h
  exact IntWalk.wrap64_in _ (by omega)
theorem strF_snoc (n : Nat) (f : Nat → Nat) (d : Nat) (hd : d = f n) (hf : ∀ i, f i < 256) : strF n f ++ strF 1 (fun _ => d) = strF (n + 1) f := by
  subst hd
  apply strF_of
  · rw [ByteArray.size_append, strF_size, strF_size]
  · intro i hi
    by_cases h : i < n
    · rw [zb_append_left _ _ _ (by rw [strF_size]; exact h), zb_strF h (hf _)]
    · obtain rfl : i = n := by omega
      have e1 := zb_strF (n := 1) (f := fun _ => f i) (i := i - i) (by omega) (hf i)
      rw [zb_append_right _ _ _ (by rw [strF_size]; exact Nat.le_refl _) (by rw [strF_size, strF_size]; omega), strF_size, e1]
theorem app_empty (z : ByteArray) : z ++ (⟨#[]⟩ : ByteArray) = z := by
  apply ba_ext
  · rw [ByteArray.size_append]; rfl
  · intro i hi
    rw [ByteArray.size_append] at hi
    exact zb_append_left _ _ _ (by have : (⟨#[]⟩ : ByteArray).size = 0 := rfl; omega)
/-- The binary digits of a number, the highest one first. -/
def digF (n c : Nat) (i : Nat) : Nat := 48 + n / tw (c - 1 - i) % 2
def digS (n c : Nat) : ByteArray := strF c (digF n c)
theorem digF_lt (n c i : Nat) : digF n c i < 256 := by unfold digF; omega
theorem digS_size (n c : Nat) : (digS n c).size = c := strF_size _ _
set_option maxRecDepth 100000 in
theorem l9Dec_bit (n : Nat) (w : World) (hn : n ≤ 9) : Calls Tryd.prog 68 #[.int .i64 n] w fun e w' => e = .returned (.string (strF 1 (fun _ => 48 + n))) ∧ Below w.heap.size w w' := by
  obtain ⟨V, hV⟩ : ∃ V, 48 + n = V := ⟨_, rfl⟩
  have v1 : (48 : Int) + (n : Int) = (V : Int) := by omega
  have v2 : IntKind.u8.wrap (V : Int) = (V : Int) := IntWalk.u8_in _ (by omega)
  have hB : Bytes (w.alloc (.cells #[.int .u8 (V : Nat)] 5)) w.heap.size 5 1 (fun _ => V) := World.rowIs_alloc w #[.int .u8 (V : Nat)] 5 _ (fun i hi => by
    obtain rfl : i = 0 := by simp at hi; omega
    rfl)
  have hst := fun cap => hB.str (P := Tryd.prog) 31 5 9 (by kernel_rfl) (by kernel_rfl) (by kernel_rfl) 0 1 cap (by omega)
  rw [hV]
  obtain ⟨y, hy⟩ : ∃ y, strF 1 (fun _ => V) = y := ⟨_, rfl⟩
  have hys : y.size = 1 := by rw [← hy]; exact strF_size _ _
  rw [hy] at hst ⊢
  have hy2 : y.size + ByteArray.size ⟨#[]⟩ ≤ 9223372036854775807 := by rw [hys]; decide
  clear hy hB hys hV
  go_enter Tryd.func68, Tryd.ntmps68
  go_wp2
  go_loop [0, 3] (fun i s => i = .int .i64 n ∧ s = .string ⟨#[]⟩) (fun i _ => (intOf i).toNat)
  case atStart => exact ⟨rfl, rfl⟩
  case round =>
    obtain ⟨rfl, rfl⟩ := hrel
    go_wp2
    go_ret
    exact ⟨ret_str (app_empty y), (Below.refl _ _).alloc (Nat.le_refl _) _⟩
theorem dig_value (n d : Nat) (hn : n ≤ 1152921504606846976) : ∃ D B : Nat, (n : Int) / 2 ^ d = (D : Int) ∧ bits .and .i64 (D : Int) 1 = (B : Int) ∧ B < 2 ∧ 48 + n / tw d % 2 = 48 + B := by
  have h3 := Nat.div_le_self n (tw d)
  refine ⟨n / tw d, n / tw d % 2, ?_, and64_one _ (by omega), by omega, rfl⟩
  rw [int_tw]; exact (Int.natCast_ediv _ _).symm
set_option maxRecDepth 100000 in
theorem digitsOf_any (n c : Nat) (w : World) (hn : n ≤ 1152921504606846976) (hc : c ≤ 60) :
    Calls Tryd.prog 46 #[.int .i64 n, .int .i64 c] w fun e w' => e = .returned (.string (digS n c)) ∧ Below w.heap.size w w' := by
  have hmk := make_bytes c (by omega) (by omega)
  go_enter Tryd.func46, Tryd.ntmps46
  go_wp2
  go_loopw [11] (fun i wr => ∃ k : Nat, k ≤ c ∧ i = .int .i64 k ∧ Bytes wr w.heap.size 5 c (fun v => if v < k then digF n c v else 0) ∧ Below w.heap.size w wr) (fun i _ => c - (intOf i).toNat)
  case atStart => exact ⟨0, by omega, rfl, Bytes.congr (Bytes.new rfl) (fun v _ => by simp), (Below.refl _ _).alloc (Nat.le_refl _) _⟩
  case round =>
    obtain ⟨k, hk, rfl, rB, rb⟩ := hrel
    clear hmk
    by_cases hlt : k < c
    · obtain ⟨D, B, v1, v2, hB2, v3⟩ := dig_value n (c - 1 - k) hn
      have e1 : ((c : Int) - 1 - (k : Int)).toNat = c - 1 - k := by omega
      obtain ⟨V, hV⟩ : ∃ V, 48 + B = V := ⟨_, rfl⟩
      have v4 : (48 : Int) + (B : Int) = (V : Int) := by omega
      have hVV : digF n c k = V := by unfold digF; rw [v3, hV]
      have hc := rB.cell k hlt
      have hf := World.rowIs.frozen rB k
      have i0 : (0 : Int) ≤ (k : Int) := by omega
      have i1 : (k : Int) < (c : Int) := by omega
      have hV2 : V < 50 := by omega
      have nB : Hid (Bytes (wr.setCell ⟨w.heap.size, k, none⟩ (.int .u8 (V : Nat))) w.heap.size 5 c (fun v => if v < k + 1 then digF n c v else 0)) :=
        row_step (F := fun v => digF n c v) rB hVV
      have nb : Hid (Below w.heap.size w (wr.setCell ⟨w.heap.size, k, none⟩ (.int .u8 (V : Nat)))) := Lib.hid (bytes_below rb (Nat.le_refl _) _ _)
      clear hV hVV v3 rB rb
      go_wp2
      clear v1 v2 v4
      go_roundw
      case rel => exact ⟨k + 1, by omega, by go_num, nB.out, nb.out⟩
      case measure => simp [intOf]; omega
    · obtain rfl : k = c := by omega
      have hst := fun cap => rB.str (P := Tryd.prog) 31 5 9 (by kernel_rfl) (by kernel_rfl) (by kernel_rfl) 0 k cap (by omega)
      obtain ⟨y, hy⟩ : ∃ y, strF k (fun i => if 0 + i < k then digF n k (0 + i) else 0) = y := ⟨_, rfl⟩
      rw [hy] at hst
      have HY : Hid (y = digS n k) := Lib.hid (by rw [← hy]; exact strF_congr fun i hi => by simp [hi])
      clear hy
      go_wp2
      go_ret
      exact ⟨ret_str HY.out, rb⟩
/-- The first Barker code of a length. -/
def barkP (c : Nat) (i : Nat) : Bool := barkB (digS i c)
def firstBark (N : Int) : ByteArray × Bool :=
  if 1 ≤ N ∧ N ≤ 13 then (if firstN (barkP N.toNat) (tw N.toNat) < tw N.toNat then (digS (firstN (barkP N.toNat) (tw N.toNat)) N.toNat, true) else noS) else noS
theorem firstBark_no {N : Int} (h : ¬ (1 ≤ N ∧ N ≤ 13)) : firstBark N = noS := by unfold firstBark; rw [if_neg h]
theorem firstBark_hit {c k : Nat} (h1 : 1 ≤ c) (h2 : c ≤ 13) (hk : k < tw c) (h : firstN (barkP c) k = k) (hp : barkP c k = true) : firstBark (c : Int) = (digS k c, true) := by
  unfold firstBark
  rw [if_pos (by omega), Int.toNat_natCast, firstN_hit h hp (tw c) hk, if_pos hk]
theorem firstBark_none {c : Nat} (h : firstN (barkP c) (tw c) = tw c) : firstBark (c : Int) = noS := by
  unfold firstBark
  rw [Int.toNat_natCast, h, if_neg (Nat.lt_irrefl _)]
  split <;> rfl
theorem ret_sAns {A : ByteArray × Bool} {x : ByteArray} {c : Bool} (h : A = (x, c)) : Ending.returned (.tuple #[.string x, .bool c]) = .returned (.tuple #[.string A.1, .bool A.2]) := by rw [h]
theorem sdig_value (x d : Nat) (hx : x ≤ 8192) (hd : d ≤ 13) : ∃ D B : Nat, IntKind.i64.wrap ((x : Int) / ((tw d : Nat) : Int)) = (D : Int) ∧ (D : Int) % 2 = (B : Int) ∧ B < 2 ∧ 48 + x / tw d % 2 = 48 + B := by
  have h3 := Nat.div_le_self x (tw d)
  refine ⟨x / tw d, x / tw d % 2, ?_, (Int.natCast_emod _ 2).symm, by omega, rfl⟩
  rw [← Int.natCast_ediv]
  obtain ⟨D, hD⟩ : ∃ D, x / tw d = D := ⟨_, rfl⟩
  rw [hD] at h3 ⊢
  exact IntWalk.i64_in _ (by omega)
end Go.Proofs.YtdafepfjjmdkeaaDoor
