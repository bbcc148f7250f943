/- Contracts of InvertBits, DecimateBits and AperiodicOf, of both sides. -/
import Derived.Test.YtabokoodpobnnaaDoorSeqFun
import Derived.Test.YtabokoodpobnnaaDoorSeqTurn
namespace Go.Proofs.YtabokoodpobnnaaDoor
open Go.RowKit
set_option linter.unusedVariables false
/-- All bits changed. -/
def invS (z : ByteArray) : ByteArray := strF z.size (fun i => 97 - zb z i)
theorem invS_size (z : ByteArray) : (invS z).size = z.size := strF_size _ _
theorem zb_invS (z : ByteArray) (i : Nat) (hi : i < z.size) : zb (invS z) i = 97 - zb z i := zb_strF hi (by omega)
theorem many_one (n i : Nat) (hi : i < n) : zb (many ⟨#[49]⟩ n) i = 49 := by
  rw [zb_many _ _ _ (by show i < 1 * n; omega)]
  show zb ⟨#[49]⟩ (i % 1) = 49
  rw [Nat.mod_one]; rfl
theorem invS_add (z : ByteArray) (h : okB z z.size = true) : addS z (many ⟨#[49]⟩ z.size) = invS z := by
  unfold addS invS
  refine strF_congr fun i hi => ?_
  rw [many_one _ _ hi]
  rcases okB_zb z h i hi with e | e <;> rw [e] <;> rfl
theorem many_one_size (n : Nat) : (many ⟨#[49]⟩ n).size = n := by rw [many_size]; show 1 * n = n; omega
theorem many_one_ok (n : Nat) : okB (many ⟨#[49]⟩ n) (many ⟨#[49]⟩ n).size = true := okB_of_zb _ fun i hi => by rw [many_one_size] at hi; right; exact many_one n i hi
def invAns (z : ByteArray) : ByteArray × Bool := if seqB z then (invS z, true) else noS
set_option maxRecDepth 100000 in
theorem l2Invert_any (z : ByteArray) (w : World) (h : seqB z = true) :
    Calls Tryd.prog 86 #[.string z] w fun e w' => e = .returned (.string (invS z)) ∧ Below w.heap.size w w' := by
  obtain ⟨h1, h2, h3⟩ := (seqB_iff z).1 h
  have HM := Lib.hid (fun w => l9Many_any ⟨#[49]⟩ z.size w (by show 1 * z.size ≤ _; omega) (by omega))
  have HA := Lib.hid (fun w => l2Add_any z (many ⟨#[49]⟩ z.size) w h1 (many_one_ok _) (many_one_size _).symm h3)
  have HI := Lib.hid (invS_add z h1)
  obtain ⟨y, hy⟩ : ∃ y, many ⟨#[49]⟩ z.size = y := ⟨_, rfl⟩
  rw [hy] at HM HA HI
  clear hy h1 h
  go_enter Tryd.func86, Tryd.ntmps86
  go_wp2_with fail
  refine (HM.out _).mono ?_
  rintro e w1 ⟨rfl, rfl⟩
  go_wp2_with fail
  refine (HA.out _).mono ?_
  rintro e w1 ⟨rfl, hB⟩
  go_wp2
  go_ret
  exact ⟨ret_str HI.out, hB⟩
/-- Every k-th bit. -/
def decS (z : ByteArray) (k : Nat) : ByteArray := strF z.size (fun i => zb z ((k * i) % z.size))
theorem decS_size (z : ByteArray) (k : Nat) : (decS z k).size = z.size := strF_size _ _
theorem zb_decS (z : ByteArray) (k i : Nat) (hi : i < z.size) : zb (decS z k) i = zb z ((k * i) % z.size) := zb_strF hi (zb_lt _ _)
def decAns (z : ByteArray) (k : Int) : ByteArray × Bool := if seqB z && (decide (0 ≤ k) && decide (k ≤ 255)) then (decS z k.toNat, true) else noS
theorem decAns_no {z : ByteArray} {k : Int} (h : ¬ (seqB z = true ∧ 0 ≤ k ∧ k ≤ 255)) : decAns z k = noS := by
  unfold decAns
  rw [if_neg]
  intro e
  simp only [Bool.and_eq_true, decide_eq_true_eq] at e
  exact h e
theorem decAns_yes {z : ByteArray} {k : Nat} (h : seqB z = true) (hk : k ≤ 255) : decAns z k = (decS z k, true) := by
  unfold decAns
  rw [if_pos (by simp only [Bool.and_eq_true, decide_eq_true_eq]; exact ⟨h, by omega, by omega⟩)]
  rfl
theorem dec_prod (k i n : Nat) (hk : k ≤ 255) (hi : i < n) (hn : n ≤ 255) : ∃ P Q : Nat, (k : Int) * (i : Int) = P ∧ P ≤ 65025 ∧ (P : Int) % (n : Int) = Q ∧ Q < n ∧ modN (P : Int) n = Q ∧ (k * i) % n = Q := by
  have h1 : k * i ≤ 255 * 255 := Nat.mul_le_mul hk (by omega)
  exact ⟨k * i, (k * i) % n, by rw [← Int.natCast_mul], by omega, by rw [← Int.natCast_emod], Nat.mod_lt _ (by omega), modN_of_nat _ _, rfl⟩
end Go.Proofs.YtabokoodpobnnaaDoor
