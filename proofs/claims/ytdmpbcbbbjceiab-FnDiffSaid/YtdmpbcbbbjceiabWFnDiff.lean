/- The walk of the law FnDiff. -/
import Derived.Test.YtdmpbcbbbjceiabDrawFrm
import Derived.Test.YtdmpbcbbbjceiabFrm6
import Derived.Test.YtdmpbcbbbjceiabSsFlip
namespace Go.Proofs.Ytdmpbcbbbjceiab
open Go.RowKit
set_option linter.unusedVariables false
set_option maxRecDepth 100000
theorem denS_size (z : ByteArray) : (denS z).size = z.size + 1 := strF_size _ _
theorem zb_denS {z : ByteArray} {i : Nat} (hi : i < z.size + 1) : zb (denS z) i = dE z i := zb_strF hi (dE_lt z i)
theorem denS_ok (z : ByteArray) : okB (denS z) (denS z).size = true := okB_of_zb _ fun i hi => by rw [denS_size] at hi; rw [zb_denS hi]; exact dE_bit z i
theorem addB_back {x y : Nat} (hx : x = 48 ∨ x = 49) (hy : y = 48 ∨ y = 49) : addB x (addB x y) = y := by
  rcases hx with rfl | rfl <;> rcases hy with rfl | rfl <;> decide
theorem addB_inv {x y : Nat} (hx : x = 48 ∨ x = 49) (hy : y = 48 ∨ y = 49) : addB (97 - x) (97 - y) = addB x y := by
  rcases hx with rfl | rfl <;> rcases hy with rfl | rfl <;> decide
theorem ok_bits {z : ByteArray} (h : okB z z.size = true) (h6 : z.size ≤ 600) : bitsB z = true := by unfold bitsB; rw [h, decide_eq_true h6]; rfl
/-- What was written as changes is read back. -/
theorem dd_den {z : ByteArray} (h : okB z z.size = true) (h6 : z.size < 600) : ddAns (denS z) = (z, true) := by
  unfold ddAns
  rw [if_pos ⟨ok_bits (denS_ok z) (by rw [denS_size]; omega), by rw [denS_size]; omega⟩]
  congr 1
  symm
  unfold ddS
  rw [denS_size]
  apply strF_of _ _ _ (by omega)
  intro i hi
  unfold ddF
  rw [zb_denS (by omega), zb_denS (by omega)]
  exact (addB_back (dE_bit z i) (okB_zb z h i (by omega))).symm
/-- The first bits of a string changed. -/
def invF (z : ByteArray) (k : Nat) : ByteArray := strF z.size (fun i => if i < k then 97 - zb z i else zb z i)
theorem invF_size (z : ByteArray) (k : Nat) : (invF z k).size = z.size := strF_size _ _
theorem zb_invF {z : ByteArray} {k i : Nat} (hi : i < z.size) : zb (invF z k) i = if i < k then 97 - zb z i else zb z i := by
  have := zb_lt z i
  exact zb_strF (f := fun i => if i < k then 97 - zb z i else zb z i) hi (by show (if i < k then 97 - zb z i else zb z i) < 256; split <;> omega)
theorem invF_zero (z : ByteArray) : invF z 0 = z := by
  symm; unfold invF
  exact strF_of _ _ _ rfl fun i hi => by rw [if_neg (by omega)]
theorem invF_next (z : ByteArray) (k : Nat) : flipS (invF z k) k = invF z (k + 1) := by
  unfold flipS
  rw [invF_size]
  show _ = strF z.size _
  refine strF_congr fun i hi => ?_
  rw [zb_invF hi]
  by_cases e : i = k
  · subst e; simp
  · rw [if_neg e]
    by_cases h : i < k
    · rw [if_pos h, if_pos (by omega)]
    · rw [if_neg h, if_neg (by omega)]
theorem invF_ok {z : ByteArray} (h : okB z z.size = true) (k : Nat) : okB (invF z k) (invF z k).size = true := okB_of_zb _ fun i hi => by
  rw [invF_size] at hi
  rw [zb_invF hi]
  rcases okB_zb z h i hi with e | e <;> rw [e] <;> split <;> simp
theorem dd_inv {z : ByteArray} (h : okB z z.size = true) (h6 : z.size < 600) : ddAns (invF (denS z) (z.size + 1)) = (z, true) := by
  unfold ddAns
  rw [if_pos ⟨ok_bits (invF_ok (denS_ok z) _) (by rw [invF_size, denS_size]; omega), by rw [invF_size, denS_size]; omega⟩]
  congr 1
  symm
  unfold ddS
  rw [invF_size, denS_size]
  apply strF_of _ _ _ (by omega)
  intro i hi
  unfold ddF
  rw [zb_invF (by rw [denS_size]; omega), zb_invF (by rw [denS_size]; omega), if_pos (by omega), if_pos (by omega), zb_denS (by omega), zb_denS (by omega), addB_inv (dE_bit z _) (dE_bit z _)]
  exact (addB_back (dE_bit z i) (okB_zb z h i (by omega))).symm
set_option maxHeartbeats 1600000 in
theorem fnDiff_walk (a0 : Option Addr) (len0 cap0 : Nat) (z0 : List Int) (w : World) (w0 : IsBytes w a0 len0 cap0 z0) :
    Calls Try.prog 7 #[.slice a0 len0 cap0] w fun e w' => e = .returned (.bool true) ∧ Below w.heap.size w w' := by
  by_cases hl0 : 1048576 < len0
  · go_enter Try.func7, Try.ntmps7
    go_wp2
    go_ret
    exact ⟨rfl, Below.refl _ _⟩
  go_enter Try.func7, Try.ntmps7
  go_wp2_with fail
  refine (drawDen_any a0 len0 cap0 z0 _ w0).mono ?_
  rintro e W1 ⟨z, rfl, hz, b1⟩
  clear w0
  have hI := fun w => iDen_any z w (by omega)
  have hS := fun w => sDen_any z w (by omega)
  by_cases hok : bitsB z = true ∧ z.size < 600
  · have hA : denAns z = (denS z, true) := by unfold denAns; rw [if_pos hok]
    rw [hA] at hI hS
    have ho := (bits_of2 hok.1).1
    have HD := Lib.hid (fun w => iDd_any (denS z) w (by rw [denS_size]; omega))
    have HDS := Lib.hid (fun w => sDd_any (denS z) w (by rw [denS_size]; omega))
    have HDI := Lib.hid (fun w => iDd_any (invF (denS z) (z.size + 1)) w (by rw [invF_size, denS_size]; omega))
    rw [dd_den ho hok.2] at HD HDS
    rw [dd_inv ho hok.2] at HDI
    have hes := denS_size z
    have HEO := Lib.hid (denS_ok z)
    obtain ⟨E, hE⟩ : ∃ E, denS z = E := ⟨_, rfl⟩
    rw [hE] at hI hS HD HDS HDI hes HEO
    have HI := Lib.hid hI
    have HS := Lib.hid hS
    clear hI hS hA hE ho hok
    have HF := Lib.hid (fun k (hk : k < z.size + 1) w => ssFlip_any (invF E k) k w (by rw [invF_size, hes]; omega) (okB_zb _ (invF_ok HEO.out k) k (by rw [invF_size, hes]; omega)))
    go_wp2_with fail
    refine (HI.out _).mono ?_
    rintro e w' ⟨rfl, hB⟩
    have c1 := below_then b1 (Nat.le_refl _) hB
    clear hB b1
    go_wp2_with fail
    refine (HS.out _).mono ?_
    rintro e w' ⟨rfl, hB⟩
    have c2 := below_then c1 (Nat.le_refl _) hB
    clear hB c1
    go_wp2_with fail
    refine (HD.out _).mono ?_
    rintro e w' ⟨rfl, hB⟩
    have c3 := below_then c2 (Nat.le_refl _) hB
    clear hB c2
    go_wp2
    go_loopw [10, 11] (fun v i wr => ∃ k : Nat, k ≤ z.size + 1 ∧ i = .int .i64 k ∧ v = .string (invF E k) ∧ Below w.heap.size w wr) (fun _ i _ => z.size + 1 - (intOf i).toNat)
    case atStart => exact ⟨0, by omega, rfl, by rw [invF_zero], c3⟩
    case round =>
      clear c3
      obtain ⟨k, hk, rfl, rfl, rb⟩ := hrel
      by_cases hlt : k < z.size + 1
      · have hF := HF.out k hlt
        rw [invF_next] at hF
        have HN : Hid (invF E (k + 1) = invF E (k + 1)) := Lib.hid rfl
        obtain ⟨Y, hY⟩ : ∃ Y, invF E k = Y := ⟨_, rfl⟩
        obtain ⟨X, hX⟩ : ∃ Y, invF E (k + 1) = Y := ⟨_, rfl⟩
        rw [hY, hX] at hF
        rw [hY]
        have HXX := Lib.hid hX
        have i1 : (k : Int) < (E.size : Int) := by omega
        clear hY hX
        go_wp2_with fail
        refine (hF _).mono ?_
        rintro e w' ⟨rfl, hB⟩
        have c4 := below_then rb (Nat.le_refl _) hB
        clear hB rb hF
        go_wp2
        go_roundw
        case rel => exact ⟨k + 1, by omega, by go_num, by rw [HXX.out], c4⟩
        case measure => simp [intOf]; omega
      · obtain rfl : k = z.size + 1 := by omega
        have i1 : ¬ ((z.size + 1 : Nat) : Int) < (E.size : Int) := by omega
        obtain ⟨Y, hY⟩ : ∃ Y, invF E (z.size + 1) = Y := ⟨_, rfl⟩
        rw [hY] at HDI ⊢
        clear hY
        go_wp2_with fail
        refine (HDI.out _).mono ?_
        rintro e w' ⟨rfl, hB⟩
        have c4 := below_then rb (Nat.le_refl _) hB
        clear hB rb
        go_wp2_with fail
        refine (HDS.out _).mono ?_
        rintro e w' ⟨rfl, hB⟩
        have c5 := below_then c4 (Nat.le_refl _) hB
        clear hB c4
        have hsz : ((E.size : Int) == (z.size : Int) + 1) = true := beq_iff_eq.2 (by omega)
        go_wp2
        go_ret
        exact ⟨rfl, c5⟩
  · have hA : denAns z = noS := by unfold denAns; rw [if_neg hok]
    rw [hA] at hI hS
    have HI := Lib.hid hI
    have HS := Lib.hid hS
    clear hI hS hA hok
    go_wp2_with fail
    refine (HI.out _).mono ?_
    rintro e w' ⟨rfl, hB⟩
    have c1 := below_then b1 (Nat.le_refl _) hB
    clear hB b1
    go_wp2_with fail
    refine (HS.out _).mono ?_
    rintro e w' ⟨rfl, hB⟩
    have c2 := below_then c1 (Nat.le_refl _) hB
    clear hB c1
    go_wp2
    go_ret
    exact ⟨rfl, c2⟩
end Go.Proofs.Ytdmpbcbbbjceiab
