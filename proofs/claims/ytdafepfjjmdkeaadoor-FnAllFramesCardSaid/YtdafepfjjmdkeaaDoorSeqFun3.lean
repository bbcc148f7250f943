/- Contracts of InvertBits, DecimateBits and AperiodicOf, of both sides. -/
import Derived.Test.YtdafepfjjmdkeaaDoorSeqFun
import Derived.Test.YtdafepfjjmdkeaaDoorSeqTurn
namespace Go.Proofs.YtdafepfjjmdkeaaDoor
open Go.RowKit
set_option linter.unusedVariables false
/-- All bits changed. -/
def invS (z : ByteArray) : ByteArray := strF z.size (fun i => 97 - zb z i)
theorem invS_size (z : ByteArray) : (invS z).size = z.size := strF_size _ _
theorem zb_invS (z : ByteArray) (i : Nat) (hi : i < z.size) : zb (invS z) i = 97 - zb z i := zb_strF hi (by omega)
theorem many_one (n i : Nat) (hi : i < n) : zb (many ⟨#[49]⟩ n) i = 49 := by
  rw [zb_many _ _ _ (by show i < 1 * n; omega)]
  show zb ⟨#[49]⟩ (i % 1) = 49
  rw [Nat.mod_one]; rfl
theorem invS_add (z : ByteArray) (h : okB z z.size = true) : addS z (many ⟨#[49]⟩ z.size) = invS z := by
  unfold addS invS
  refine strF_congr fun i hi => ?_
  rw [many_one _ _ hi]
  rcases okB_zb z h i hi with e | e <;> rw [e] <;> rfl
theorem many_one_size (n : Nat) : (many ⟨#[49]⟩ n).size = n := by rw [many_size]; show 1 * n = n; omega
theorem many_one_ok (n : Nat) : okB (many ⟨#[49]⟩ n) (many ⟨#[49]⟩ n).size = true := okB_of_zb _ fun i hi => by rw [many_one_size] at hi; right; exact many_one n i hi
def invAns (z : ByteArray) : ByteArray × Bool := if seqB z then (invS z, true) else noS
set_option maxRecDepth 100000 in
theorem l2Invert_any (z : ByteArray) (w : World) (h : seqB z = true) :
    Calls Tryd.prog 33 #[.string z] w fun e w' => e = .returned (.string (invS z)) ∧ Below w.heap.size w w' := by
  obtain ⟨h1, h2, h3⟩ := (seqB_iff z).1 h
  have HM := Lib.hid (fun w => l9Many_any ⟨#[49]⟩ z.size w (by show 1 * z.size ≤ _; omega) (by omega))
  have HA := Lib.hid (fun w => l2Add_any z (many ⟨#[49]⟩ z.size) w h1 (many_one_ok _) (many_one_size _).symm h3)
  have HI := Lib.hid (invS_add z h1)
  obtain ⟨y, hy⟩ : ∃ y, many ⟨#[49]⟩ z.size = y := ⟨_, rfl⟩
  rw [hy] at HM HA HI
  clear hy h1 h
  go_enter Tryd.func33, Tryd.ntmps33
  go_wp2_with fail
  refine (HM.out _).mono ?_
  rintro e w1 ⟨rfl, rfl⟩
  go_wp2_with fail
  refine (HA.out _).mono ?_
  rintro e w1 ⟨rfl, hB⟩
  go_wp2
  go_ret
  exact ⟨ret_str HI.out, hB⟩
set_option maxRecDepth 100000 in
theorem iInvert_yes (z : ByteArray) (w : World) (h : seqB z = true) :
    Calls Tryd.prog 28 #[.string z] w fun e w' => e = .returned (.tuple #[.string (invS z), .bool true]) ∧ Below w.heap.size w w' := by
  obtain ⟨h1, h2, h3⟩ := (seqB_iff z).1 h
  have hmk := make_bytes z.size (by omega) (by omega)
  have HA := Lib.hid (okB_zb z h1)
  clear h1
  go_enter Tryd.func28, Tryd.ntmps28
  go_wp2_with (first | (go_at_call 48; refine (iSequenceValid_yes z _ h).mono ?_; rintro e w1 ⟨rfl, rfl⟩))
  go_loopw [14] (fun i wr => ∃ k : Nat, k ≤ z.size ∧ i = .int .i64 k ∧ Bytes wr w.heap.size 5 z.size (fun v => if v < k then 97 - zb z v else 0) ∧ Below w.heap.size w wr) (fun i _ => z.size - (intOf i).toNat)
  case atStart => exact ⟨0, by omega, rfl, Bytes.congr (Bytes.new rfl) (fun v _ => by simp), (Below.refl _ _).alloc (Nat.le_refl _) _⟩
  case round =>
    obtain ⟨k, hk, rfl, rB, rb⟩ := hrel
    clear hmk h
    by_cases hlt : k < z.size
    · have hx := HA.out k hlt
      obtain ⟨V, hV⟩ : ∃ V, 97 - zb z k = V := ⟨_, rfl⟩
      have v1 : IntKind.u8.wrap (97 - ((z[k].toNat : Nat) : Int)) = (V : Nat) := by
        rw [zb_at z k hlt]
        rcases hx with e | e <;> rw [e] at hV ⊢ <;> subst hV <;> decide
      have hc := rB.cell k hlt
      have hf := World.rowIs.frozen rB k
      have i0 : (0 : Int) ≤ (k : Int) := by omega
      have i1 : (k : Int) < (z.size : Int) := by omega
      have nB : Hid (Bytes (wr.setCell ⟨w.heap.size, k, none⟩ (.int .u8 (V : Nat))) w.heap.size 5 z.size (fun v => if v < k + 1 then 97 - zb z v else 0)) :=
        row_step (F := fun v => 97 - zb z v) rB hV
      have nb : Hid (Below w.heap.size w (wr.setCell ⟨w.heap.size, k, none⟩ (.int .u8 (V : Nat)))) := Lib.hid (bytes_below rb (Nat.le_refl _) _ _)
      clear hV rB rb hx
      go_wp2
      go_roundw
      case rel => exact ⟨k + 1, by omega, by go_num, nB.out, nb.out⟩
      case measure => simp [intOf]; omega
    · obtain rfl : k = z.size := by omega
      have hst := fun cap => rB.str (P := Tryd.prog) 31 5 9 (by kernel_rfl) (by kernel_rfl) (by kernel_rfl) 0 z.size cap (by omega)
      obtain ⟨y, hy⟩ : ∃ y, strF z.size (fun i => if 0 + i < z.size then 97 - zb z (0 + i) else 0) = y := ⟨_, rfl⟩
      rw [hy] at hst
      have HY : Hid (y = invS z) := Lib.hid (by rw [← hy]; exact strF_congr fun i hi => by simp [hi])
      clear hy
      go_wp2
      go_ret2
      exact ⟨ret_sb HY.out, rb⟩
set_option maxRecDepth 100000 in
theorem iInvert_any (z : ByteArray) (w : World) (hs : z.size ≤ 9223372036854775807) :
    Calls Tryd.prog 28 #[.string z] w fun e w' => e = .returned (.tuple #[.string (invAns z).1, .bool (invAns z).2]) ∧ Below w.heap.size w w' := by
  cases h : seqB z with
  | true => rw [show invAns z = (invS z, true) by unfold invAns; rw [h]; rfl]; exact iInvert_yes z w h
  | false =>
    rw [show invAns z = noS by unfold invAns; rw [h]; rfl]
    go_enter Tryd.func28, Tryd.ntmps28
    go_wp2_with (first | (go_at_call 48; refine (iSequenceValid_no z _ hs h).mono ?_; rintro e w1 ⟨rfl, rfl⟩))
    go_ret2
    exact ⟨rfl, Below.refl _ _⟩
/-- Every k-th bit. -/
def decS (z : ByteArray) (k : Nat) : ByteArray := strF z.size (fun i => zb z ((k * i) % z.size))
theorem decS_size (z : ByteArray) (k : Nat) : (decS z k).size = z.size := strF_size _ _
theorem zb_decS (z : ByteArray) (k i : Nat) (hi : i < z.size) : zb (decS z k) i = zb z ((k * i) % z.size) := zb_strF hi (zb_lt _ _)
def decAns (z : ByteArray) (k : Int) : ByteArray × Bool := if seqB z && (decide (0 ≤ k) && decide (k ≤ 255)) then (decS z k.toNat, true) else noS
theorem decAns_no {z : ByteArray} {k : Int} (h : ¬ (seqB z = true ∧ 0 ≤ k ∧ k ≤ 255)) : decAns z k = noS := by
  unfold decAns
  rw [if_neg]
  intro e
  simp only [Bool.and_eq_true, decide_eq_true_eq] at e
  exact h e
theorem decAns_yes {z : ByteArray} {k : Nat} (h : seqB z = true) (hk : k ≤ 255) : decAns z k = (decS z k, true) := by
  unfold decAns
  rw [if_pos (by simp only [Bool.and_eq_true, decide_eq_true_eq]; exact ⟨h, by omega, by omega⟩)]
  rfl
theorem dec_prod (k i n : Nat) (hk : k ≤ 255) (hi : i < n) (hn : n ≤ 255) : ∃ P Q : Nat, (k : Int) * (i : Int) = P ∧ P ≤ 65025 ∧ (P : Int) % (n : Int) = Q ∧ Q < n ∧ modN (P : Int) n = Q ∧ (k * i) % n = Q := by
  have h1 : k * i ≤ 255 * 255 := Nat.mul_le_mul hk (by omega)
  exact ⟨k * i, (k * i) % n, by rw [← Int.natCast_mul], by omega, by rw [← Int.natCast_emod], Nat.mod_lt _ (by omega), modN_of_nat _ _, rfl⟩
end Go.Proofs.YtdafepfjjmdkeaaDoor
