/- Bits that a function tells from their index; sums of more bits. -/
import Derived.Test.YtjnipbopimpggaaSsStr
import Derived.Test.YtjnipbopimpggaaSeqFun
namespace Go.Proofs.Ytjnipbopimpggaa
open Go.RowKit
set_option linter.unusedVariables false
set_option maxRecDepth 100000
theorem strF_snoc' (n : Nat) (f : Nat → Nat) (d : Nat) (hd : d = f n) (hf : ∀ i, f i < 256) : strF n f ++ strF 1 (fun _ => d) = strF (n + 1) f := by
  subst hd
  apply strF_of
  · rw [ByteArray.size_append, strF_size, strF_size]
  · intro i hi
    by_cases h : i < n
    · rw [zb_append_left _ _ _ (by rw [strF_size]; exact h), zb_strF h (hf _)]
    · obtain rfl : i = n := by omega
      have e1 := zb_strF (n := 1) (f := fun _ => f i) (i := i - i) (by omega) (hf i)
      rw [zb_append_right _ _ _ (by rw [strF_size]; exact Nat.le_refl _) (by rw [strF_size, strF_size]; omega), strF_size, e1]
/-- A function value that answers the byte of an index. -/
def TellsB (g : Nat) (lb : Array Value) (n : Nat) (F : Nat → Nat) (w : World) : Prop :=
  ∀ W (i : Nat), Below w.heap.size w W → i < n → Calls Try.prog g (#[.int .i64 i] ++ lb) W fun e W' => e = .returned (.int .u8 (F i : Nat)) ∧ Below W.heap.size W W'
theorem l2Add_big (a b : ByteArray) (w : World) (ha : okB a a.size = true) (hb : okB b b.size = true) (h1 : a.size = b.size) (h2 : a.size ≤ 1048576) :
    Calls Try.prog 103 #[.string a, .string b] w fun e w' => e = .returned (.string (addS a b)) ∧ Below w.heap.size w w' := by
  have hmk := make_bytes a.size (by omega) (by omega)
  have HA := Lib.hid (okB_zb a ha)
  have HB := Lib.hid (okB_zb b hb)
  have H1 := Lib.hid h1
  clear ha hb h1
  go_enter Try.func103, Try.ntmps103
  go_wp2
  go_loopw [6] (fun i wr => ∃ k : Nat, k ≤ a.size ∧ i = .int .i64 k ∧ Bytes wr w.heap.size 5 a.size (fun v => if v < k then addB (zb a v) (zb b v) else 0) ∧ Below w.heap.size w wr) (fun i _ => a.size - (intOf i).toNat)
  case atStart => exact ⟨0, by omega, rfl, Bytes.congr (Bytes.new rfl) (fun v _ => by simp), (Below.refl _ _).alloc (Nat.le_refl _) _⟩
  case round =>
    obtain ⟨k, hk, rfl, rB, rb⟩ := hrel
    clear hmk
    by_cases hlt : k < a.size
    · have hlb : k < b.size := by have := H1.out; omega
      obtain ⟨A, B, C, v1, v2, v3, v4⟩ := add_value (zb a k) (zb b k) (HA.out k hlt) (HB.out k hlb)
      rw [← zb_at a k hlt] at v1
      rw [← zb_at b k hlb] at v3
      obtain ⟨V, hV⟩ : ∃ V, addB (zb a k) (zb b k) = V := ⟨_, rfl⟩
      rw [hV] at v4
      have hc := rB.cell k hlt
      have hf := World.rowIs.frozen rB k
      have i0 : (0 : Int) ≤ (k : Int) := by omega
      have i1 : (k : Int) < (a.size : Int) := by omega
      have i2 : (k : Int) < (b.size : Int) := by omega
      have nB : Hid (Bytes (wr.setCell ⟨w.heap.size, k, none⟩ (.int .u8 (V : Nat))).drew w.heap.size 5 a.size (fun v => if v < k + 1 then addB (zb a v) (zb b v) else 0)) :=
        row_step (F := fun v => addB (zb a v) (zb b v)) rB hV
      have nb : Hid (Below w.heap.size w (wr.setCell ⟨w.heap.size, k, none⟩ (.int .u8 (V : Nat))).drew) := Lib.hid (below_drew (bytes_below rb (Nat.le_refl _) _ _))
      clear hV rB rb
      go_wp2_with fail
      go_still_tail 13, (by kernel_rfl)
      clear v1 v2 v3 v4
      go_wp2
      go_roundw
      case rel => exact ⟨k + 1, by omega, by go_num, nB.out, nb.out⟩
      case measure => simp [intOf]; omega
    · obtain rfl : k = a.size := by omega
      have hst := fun cap => rB.str (P := Try.prog) 52 5 9 (by kernel_rfl) (by kernel_rfl) (by kernel_rfl) 0 a.size cap (by omega)
      obtain ⟨y, hy⟩ : ∃ y, strF a.size (fun i => if 0 + i < a.size then addB (zb a (0 + i)) (zb b (0 + i)) else 0) = y := ⟨_, rfl⟩
      rw [hy] at hst
      have HY : Hid (y = addS a b) := Lib.hid (by rw [← hy]; exact strF_congr fun i hi => by simp [hi])
      clear hy
      go_wp2
      go_ret
      exact ⟨ret_str HY.out, rb⟩
end Go.Proofs.Ytjnipbopimpggaa
