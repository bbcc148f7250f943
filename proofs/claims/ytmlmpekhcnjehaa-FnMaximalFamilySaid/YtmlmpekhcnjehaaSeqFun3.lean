/- Contracts of InvertBits, DecimateBits and AperiodicOf, of both sides. -/
import Derived.Test.YtmlmpekhcnjehaaSeqFun
import Derived.Test.YtmlmpekhcnjehaaSeqTurn
namespace Go.Proofs.Ytmlmpekhcnjehaa
open Go.RowKit
set_option linter.unusedVariables false
/-- All bits changed. -/
def invS (z : ByteArray) : ByteArray := strF z.size (fun i => 97 - zb z i)
theorem invS_size (z : ByteArray) : (invS z).size = z.size := strF_size _ _
theorem zb_invS (z : ByteArray) (i : Nat) (hi : i < z.size) : zb (invS z) i = 97 - zb z i := zb_strF hi (by omega)
theorem many_one (n i : Nat) (hi : i < n) : zb (many ⟨#[49]⟩ n) i = 49 := by
  rw [zb_many _ _ _ (by show i < 1 * n; omega)]
  show zb ⟨#[49]⟩ (i % 1) = 49
  rw [Nat.mod_one]; rfl
theorem invS_add (z : ByteArray) (h : okB z z.size = true) : addS z (many ⟨#[49]⟩ z.size) = invS z := by
  unfold addS invS
  refine strF_congr fun i hi => ?_
  rw [many_one _ _ hi]
  rcases okB_zb z h i hi with e | e <;> rw [e] <;> rfl
theorem many_one_size (n : Nat) : (many ⟨#[49]⟩ n).size = n := by rw [many_size]; show 1 * n = n; omega
theorem many_one_ok (n : Nat) : okB (many ⟨#[49]⟩ n) (many ⟨#[49]⟩ n).size = true := okB_of_zb _ fun i hi => by rw [many_one_size] at hi; right; exact many_one n i hi
def invAns (z : ByteArray) : ByteArray × Bool := if seqB z then (invS z, true) else noS
/-- Every k-th bit. -/
def decS (z : ByteArray) (k : Nat) : ByteArray := strF z.size (fun i => zb z ((k * i) % z.size))
theorem decS_size (z : ByteArray) (k : Nat) : (decS z k).size = z.size := strF_size _ _
theorem zb_decS (z : ByteArray) (k i : Nat) (hi : i < z.size) : zb (decS z k) i = zb z ((k * i) % z.size) := zb_strF hi (zb_lt _ _)
def decAns (z : ByteArray) (k : Int) : ByteArray × Bool := if seqB z && (decide (0 ≤ k) && decide (k ≤ 255)) then (decS z k.toNat, true) else noS
theorem decAns_no {z : ByteArray} {k : Int} (h : ¬ (seqB z = true ∧ 0 ≤ k ∧ k ≤ 255)) : decAns z k = noS := by
  unfold decAns
  rw [if_neg]
  intro e
  simp only [Bool.and_eq_true, decide_eq_true_eq] at e
  exact h e
theorem decAns_yes {z : ByteArray} {k : Nat} (h : seqB z = true) (hk : k ≤ 255) : decAns z k = (decS z k, true) := by
  unfold decAns
  rw [if_pos (by simp only [Bool.and_eq_true, decide_eq_true_eq]; exact ⟨h, by omega, by omega⟩)]
  rfl
theorem dec_prod (k i n : Nat) (hk : k ≤ 255) (hi : i < n) (hn : n ≤ 255) : ∃ P Q : Nat, (k : Int) * (i : Int) = P ∧ P ≤ 65025 ∧ (P : Int) % (n : Int) = Q ∧ Q < n ∧ modN (P : Int) n = Q ∧ (k * i) % n = Q := by
  have h1 : k * i ≤ 255 * 255 := Nat.mul_le_mul hk (by omega)
  exact ⟨k * i, (k * i) % n, by rw [← Int.natCast_mul], by omega, by rw [← Int.natCast_emod], Nat.mod_lt _ (by omega), modN_of_nat _ _, rfl⟩
set_option maxRecDepth 100000 in
theorem iDec_yes (z : ByteArray) (q : Nat) (w : World) (h : seqB z = true) (hq : q ≤ 255) :
    Calls Try.prog 18 #[.string z, .int .i64 q] w fun e w' => e = .returned (.tuple #[.string (decS z q), .bool true]) ∧ Below w.heap.size w w' := by
  have h12 := size_le h
  have hmk := make_bytes z.size (by omega) (by omega)
  have HO := Lib.hid (fun (k : Int) w => modulo_any k z.size w h12.1 h12.2)
  have q0 : ¬ ((q : Int) < 0) := by omega
  have q1 : ¬ ((255 : Int) < (q : Int)) := by omega
  have q2 : 0 ≤ (q : Int) := by omega
  have q3 : (q : Int) ≤ 255 := by omega
  go_enter Try.func18, Try.ntmps18
  go_wp2_with (first | (go_at_call 38; refine (iSequenceValid_yes z _ h).mono ?_; rintro e w1 ⟨rfl, rfl⟩))
  go_loopw [24] (fun i wr => ∃ k : Nat, k ≤ z.size ∧ i = .int .i64 k ∧ Bytes wr w.heap.size 5 z.size (fun v => if v < k then zb z ((q * v) % z.size) else 0) ∧ Below w.heap.size w wr) (fun i _ => z.size - (intOf i).toNat)
  case atStart => exact ⟨0, by omega, rfl, Bytes.congr (Bytes.new rfl) (fun v _ => by simp), (Below.refl _ _).alloc (Nat.le_refl _) _⟩
  case round =>
    obtain ⟨k, hk, rfl, rB, rb⟩ := hrel
    clear hmk h
    by_cases hlt : k < z.size
    · obtain ⟨P, Q, p1, p2, p3, p4, p5, p6⟩ := dec_prod q k z.size hq hlt h12.2
      have hO := HO.out (P : Int)
      rw [p5] at hO
      have hc := rB.cell k hlt
      have hf := World.rowIs.frozen rB k
      have i0 : (0 : Int) ≤ (k : Int) := by omega
      have i1 : (k : Int) < (z.size : Int) := by omega
      have i2 : (0 : Int) ≤ (Q : Int) := by omega
      have i3 : (Q : Int) < (z.size : Int) := by omega
      have nB : Hid (Bytes (wr.setCell ⟨w.heap.size, k, none⟩ (.int .u8 (z[Q].toNat : Nat))) w.heap.size 5 z.size (fun v => if v < k + 1 then zb z ((q * v) % z.size) else 0)) :=
        row_step (F := fun v => zb z ((q * v) % z.size)) rB (by show zb z ((q * k) % z.size) = _; rw [p6, zb_at z Q p4])
      have nb : Hid (Below w.heap.size w (wr.setCell ⟨w.heap.size, k, none⟩ (.int .u8 (z[Q].toNat : Nat)))) := Lib.hid (bytes_below rb (Nat.le_refl _) _ _)
      clear rB rb p3 p5 p6
      go_wp2_with (first | (go_at_call 39; refine (hO _).mono ?_; rintro e w1 ⟨rfl, rfl⟩))
      go_roundw
      case rel => exact ⟨k + 1, by omega, by go_num, nB.out, nb.out⟩
      case measure => simp [intOf]; omega
    · obtain rfl : k = z.size := by omega
      have hst := fun cap => rB.str (P := Try.prog) 27 5 9 (by kernel_rfl) (by kernel_rfl) (by kernel_rfl) 0 z.size cap (by omega)
      obtain ⟨y, hy⟩ : ∃ y, strF z.size (fun i => if 0 + i < z.size then zb z ((q * (0 + i)) % z.size) else 0) = y := ⟨_, rfl⟩
      rw [hy] at hst
      have HY : Hid (y = decS z q) := Lib.hid (by rw [← hy]; exact strF_congr fun i hi => by simp [hi])
      clear hy
      go_wp2
      go_ret2
      exact ⟨ret_sb HY.out, rb⟩
set_option maxRecDepth 100000 in
theorem iDec_any (z : ByteArray) (k : Int) (w : World) (hs : z.size ≤ 9223372036854775807) :
    Calls Try.prog 18 #[.string z, .int .i64 k] w fun e w' => e = .returned (.tuple #[.string (decAns z k).1, .bool (decAns z k).2]) ∧ Below w.heap.size w w' := by
  cases h : seqB z with
  | false =>
    rw [decAns_no (by rw [h]; simp)]
    go_enter Try.func18, Try.ntmps18
    go_wp2_with (first | (go_at_call 38; refine (iSequenceValid_no z _ hs h).mono ?_; rintro e w1 ⟨rfl, rfl⟩))
    go_ret2
    exact ⟨rfl, Below.refl _ _⟩
  | true =>
    by_cases h0 : k < 0
    · rw [decAns_no (by omega)]
      go_enter Try.func18, Try.ntmps18
      go_wp2_with (first | (go_at_call 38; refine (iSequenceValid_yes z _ h).mono ?_; rintro e w1 ⟨rfl, rfl⟩))
      go_ret2
      exact ⟨rfl, Below.refl _ _⟩
    · by_cases h1 : 255 < k
      · rw [decAns_no (by omega)]
        go_enter Try.func18, Try.ntmps18
        go_wp2_with (first | (go_at_call 38; refine (iSequenceValid_yes z _ h).mono ?_; rintro e w1 ⟨rfl, rfl⟩))
        go_ret2
        exact ⟨rfl, Below.refl _ _⟩
      · obtain ⟨q, rfl⟩ : ∃ q : Nat, k = q := ⟨k.toNat, by omega⟩
        rw [decAns_yes h (by omega)]
        exact iDec_yes z q w h (by omega)
end Go.Proofs.Ytmlmpekhcnjehaa
