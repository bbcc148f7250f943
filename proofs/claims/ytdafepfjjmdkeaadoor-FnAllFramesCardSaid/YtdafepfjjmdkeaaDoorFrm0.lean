/- Bits that a function tells from their index; sums of more bits. -/
import Derived.Test.YtdafepfjjmdkeaaDoorSsStr
import Derived.Test.YtdafepfjjmdkeaaDoorSeqFun
namespace Go.Proofs.YtdafepfjjmdkeaaDoor
open Go.RowKit
set_option linter.unusedVariables false
set_option maxRecDepth 100000
theorem strF_snoc' (n : Nat) (f : Nat → Nat) (d : Nat) (hd : d = f n) (hf : ∀ i, f i < 256) : strF n f ++ strF 1 (fun _ => d) = strF (n + 1) f := by
  subst hd
  apply strF_of
  · rw [ByteArray.size_append, strF_size, strF_size]
  · intro i hi
    by_cases h : i < n
    · rw [zb_append_left _ _ _ (by rw [strF_size]; exact h), zb_strF h (hf _)]
    · obtain rfl : i = n := by omega
      have e1 := zb_strF (n := 1) (f := fun _ => f i) (i := i - i) (by omega) (hf i)
      rw [zb_append_right _ _ _ (by rw [strF_size]; exact Nat.le_refl _) (by rw [strF_size, strF_size]; omega), strF_size, e1]
/-- A function value that answers the byte of an index. -/
def TellsB (g : Nat) (lb : Array Value) (n : Nat) (F : Nat → Nat) (w : World) : Prop :=
  ∀ W (i : Nat), Below w.heap.size w W → i < n → Calls Tryd.prog g (#[.int .i64 i] ++ lb) W fun e W' => e = .returned (.int .u8 (F i : Nat)) ∧ Below W.heap.size W W'
theorem bitsOf_any (n : Nat) (F : Nat → Nat) (g : Nat) (lb : Array Value) (w : World) (hn : n ≤ 1048576) (eg : ∀ args w, (callFunc g args).run Tryd.prog w = .ok (.enter g args) w) (hc : TellsB g lb n F w) :
    Calls Tryd.prog 34 #[.int .i64 n, .func (.func g) #[] lb] w fun e w' => e = .returned (.string (strF n F)) ∧ Below w.heap.size w w' := by
  have hmk := make_bytes n (by omega) (by omega)
  have HC := Lib.hid hc
  clear hc
  go_enter Tryd.func34, Tryd.ntmps34
  go_wp2
  go_loopw [11] (fun i wr => ∃ k : Nat, k ≤ n ∧ i = .int .i64 k ∧ Bytes wr w.heap.size 5 n (fun v => if v < k then F v else 0) ∧ Below w.heap.size w wr) (fun i _ => n - (intOf i).toNat)
  case atStart => exact ⟨0, by omega, rfl, Bytes.congr (Bytes.new rfl) (fun v _ => by simp), (Below.refl _ _).alloc (Nat.le_refl _) _⟩
  case round =>
    obtain ⟨k, hk, rfl, rB, rb⟩ := hrel
    clear hmk
    by_cases hlt : k < n
    · have hcall := HC.out wr k rb hlt
      obtain ⟨V, hV⟩ : ∃ V, F k = V := ⟨_, rfl⟩
      rw [hV] at hcall
      have i0 : (0 : Int) ≤ (k : Int) := by omega
      have i1 : (k : Int) < (n : Int) := by omega
      go_wp2_with fail
      refine hcall.mono ?_
      rintro e w1 ⟨rfl, hb1⟩
      have rB1 := rB.below hb1 rB.lt
      have b1 := below_then rb (Nat.le_refl _) hb1
      have hcl := rB1.cell k hlt
      have hf := World.rowIs.frozen rB1 k
      have nB : Hid (Bytes (w1.setCell ⟨w.heap.size, k, none⟩ (.int .u8 (V : Nat))) w.heap.size 5 n (fun v => if v < k + 1 then F v else 0)) := row_step rB1 hV
      have nb : Hid (Below w.heap.size w (w1.setCell ⟨w.heap.size, k, none⟩ (.int .u8 (V : Nat)))) := Lib.hid (bytes_below b1 (Nat.le_refl _) _ _)
      clear hV hcall hb1 rB rb rB1 b1
      go_wp2
      go_roundw
      case rel => exact ⟨k + 1, by omega, by go_num, nB.out, nb.out⟩
      case measure => simp [intOf]; omega
    · obtain rfl : k = n := by omega
      have hst := fun cap => rB.str (P := Tryd.prog) 31 5 9 (by kernel_rfl) (by kernel_rfl) (by kernel_rfl) 0 k cap (by omega)
      obtain ⟨y, hy⟩ : ∃ y, strF k (fun i => if 0 + i < k then F (0 + i) else 0) = y := ⟨_, rfl⟩
      rw [hy] at hst
      have HY : Hid (y = strF k F) := Lib.hid (by rw [← hy]; exact strF_congr fun i hi => by simp [hi])
      clear hy
      go_wp2
      go_ret
      exact ⟨ret_str HY.out, rb⟩
theorem bitSum_any (x y : Nat) (w : World) (hx : x = 48 ∨ x = 49) (hy : y = 48 ∨ y = 49) :
    Calls Tryd.prog 36 #[.int .u8 x, .int .u8 y] w fun e w' => e = .returned (.int .u8 (addB x y : Nat)) ∧ w = w' := by
  obtain ⟨A, v1, v2⟩ := iadd_value x y hx hy
  obtain ⟨V, hV⟩ : ∃ V, addB x y = V := ⟨_, rfl⟩
  rw [hV] at v2 ⊢
  clear hV hx hy
  go_enter Tryd.func36, Tryd.ntmps36
  go_wp2
  go_ret
  exact ⟨rfl, rfl⟩
theorem l2Add_big (a b : ByteArray) (w : World) (ha : okB a a.size = true) (hb : okB b b.size = true) (h1 : a.size = b.size) (h2 : a.size ≤ 1048576) :
    Calls Tryd.prog 51 #[.string a, .string b] w fun e w' => e = .returned (.string (addS a b)) ∧ Below w.heap.size w w' := by
  have hmk := make_bytes a.size (by omega) (by omega)
  have HA := Lib.hid (okB_zb a ha)
  have HB := Lib.hid (okB_zb b hb)
  have H1 := Lib.hid h1
  clear ha hb h1
  go_enter Tryd.func51, Tryd.ntmps51
  go_wp2
  go_loopw [6] (fun i wr => ∃ k : Nat, k ≤ a.size ∧ i = .int .i64 k ∧ Bytes wr w.heap.size 5 a.size (fun v => if v < k then addB (zb a v) (zb b v) else 0) ∧ Below w.heap.size w wr) (fun i _ => a.size - (intOf i).toNat)
  case atStart => exact ⟨0, by omega, rfl, Bytes.congr (Bytes.new rfl) (fun v _ => by simp), (Below.refl _ _).alloc (Nat.le_refl _) _⟩
  case round =>
    obtain ⟨k, hk, rfl, rB, rb⟩ := hrel
    clear hmk
    by_cases hlt : k < a.size
    · have hlb : k < b.size := by have := H1.out; omega
      obtain ⟨A, B, C, v1, v2, v3, v4⟩ := add_value (zb a k) (zb b k) (HA.out k hlt) (HB.out k hlb)
      rw [← zb_at a k hlt] at v1
      rw [← zb_at b k hlb] at v3
      obtain ⟨V, hV⟩ : ∃ V, addB (zb a k) (zb b k) = V := ⟨_, rfl⟩
      rw [hV] at v4
      have hc := rB.cell k hlt
      have hf := World.rowIs.frozen rB k
      have i0 : (0 : Int) ≤ (k : Int) := by omega
      have i1 : (k : Int) < (a.size : Int) := by omega
      have i2 : (k : Int) < (b.size : Int) := by omega
      have nB : Hid (Bytes (wr.setCell ⟨w.heap.size, k, none⟩ (.int .u8 (V : Nat))).drew w.heap.size 5 a.size (fun v => if v < k + 1 then addB (zb a v) (zb b v) else 0)) :=
        row_step (F := fun v => addB (zb a v) (zb b v)) rB hV
      have nb : Hid (Below w.heap.size w (wr.setCell ⟨w.heap.size, k, none⟩ (.int .u8 (V : Nat))).drew) := Lib.hid (below_drew (bytes_below rb (Nat.le_refl _) _ _))
      clear hV rB rb
      go_wp2_with fail
      go_still_tail 13, (by kernel_rfl)
      clear v1 v2 v3 v4
      go_wp2
      go_roundw
      case rel => exact ⟨k + 1, by omega, by go_num, nB.out, nb.out⟩
      case measure => simp [intOf]; omega
    · obtain rfl : k = a.size := by omega
      have hst := fun cap => rB.str (P := Tryd.prog) 31 5 9 (by kernel_rfl) (by kernel_rfl) (by kernel_rfl) 0 a.size cap (by omega)
      obtain ⟨y, hy⟩ : ∃ y, strF a.size (fun i => if 0 + i < a.size then addB (zb a (0 + i)) (zb b (0 + i)) else 0) = y := ⟨_, rfl⟩
      rw [hy] at hst
      have HY : Hid (y = addS a b) := Lib.hid (by rw [← hy]; exact strF_congr fun i hi => by simp [hi])
      clear hy
      go_wp2
      go_ret
      exact ⟨ret_str HY.out, rb⟩
end Go.Proofs.YtdafepfjjmdkeaaDoor
