/- Bits that a function tells from their index; sums of more bits. -/
import Derived.Test.YtpacaelnmpdnhaaDoorSsStr
import Derived.Test.YtpacaelnmpdnhaaDoorSeqFun
namespace Go.Proofs.YtpacaelnmpdnhaaDoor
open Go.RowKit
set_option linter.unusedVariables false
set_option maxRecDepth 100000
theorem strF_snoc' (n : Nat) (f : Nat → Nat) (d : Nat) (hd : d = f n) (hf : ∀ i, f i < 256) : strF n f ++ strF 1 (fun _ => d) = strF (n + 1) f := by
  subst hd
  apply strF_of
  · rw [ByteArray.size_append, strF_size, strF_size]
  · intro i hi
    by_cases h : i < n
    · rw [zb_append_left _ _ _ (by rw [strF_size]; exact h), zb_strF h (hf _)]
    · obtain rfl : i = n := by omega
      have e1 := zb_strF (n := 1) (f := fun _ => f i) (i := i - i) (by omega) (hf i)
      rw [zb_append_right _ _ _ (by rw [strF_size]; exact Nat.le_refl _) (by rw [strF_size, strF_size]; omega), strF_size, e1]
/-- A function value that answers the byte of an index. -/
def TellsB (g : Nat) (lb : Array Value) (n : Nat) (F : Nat → Nat) (w : World) : Prop :=
  ∀ W (i : Nat), Below w.heap.size w W → i < n → Calls Tryd.prog g (#[.int .i64 i] ++ lb) W fun e W' => e = .returned (.int .u8 (F i : Nat)) ∧ Below W.heap.size W W'
theorem bitsOf_any (n : Nat) (F : Nat → Nat) (g : Nat) (lb : Array Value) (w : World) (hn : n ≤ 1048576) (eg : ∀ args w, (callFunc g args).run Tryd.prog w = .ok (.enter g args) w) (hc : TellsB g lb n F w) :
    Calls Tryd.prog 60 #[.int .i64 n, .func (.func g) #[] lb] w fun e w' => e = .returned (.string (strF n F)) ∧ Below w.heap.size w w' := by
  have hmk := make_bytes n (by omega) (by omega)
  have HC := Lib.hid hc
  clear hc
  go_enter Tryd.func60, Tryd.ntmps60
  go_wp2
  go_loopw [11] (fun i wr => ∃ k : Nat, k ≤ n ∧ i = .int .i64 k ∧ Bytes wr w.heap.size 5 n (fun v => if v < k then F v else 0) ∧ Below w.heap.size w wr) (fun i _ => n - (intOf i).toNat)
  case atStart => exact ⟨0, by omega, rfl, Bytes.congr (Bytes.new rfl) (fun v _ => by simp), (Below.refl _ _).alloc (Nat.le_refl _) _⟩
  case round =>
    obtain ⟨k, hk, rfl, rB, rb⟩ := hrel
    clear hmk
    by_cases hlt : k < n
    · have hcall := HC.out wr k rb hlt
      obtain ⟨V, hV⟩ : ∃ V, F k = V := ⟨_, rfl⟩
      rw [hV] at hcall
      have i0 : (0 : Int) ≤ (k : Int) := by omega
      have i1 : (k : Int) < (n : Int) := by omega
      go_wp2_with fail
      refine hcall.mono ?_
      rintro e w1 ⟨rfl, hb1⟩
      have rB1 := rB.below hb1 rB.lt
      have b1 := below_then rb (Nat.le_refl _) hb1
      have hcl := rB1.cell k hlt
      have hf := World.rowIs.frozen rB1 k
      have nB : Hid (Bytes (w1.setCell ⟨w.heap.size, k, none⟩ (.int .u8 (V : Nat))) w.heap.size 5 n (fun v => if v < k + 1 then F v else 0)) := row_step rB1 hV
      have nb : Hid (Below w.heap.size w (w1.setCell ⟨w.heap.size, k, none⟩ (.int .u8 (V : Nat)))) := Lib.hid (bytes_below b1 (Nat.le_refl _) _ _)
      clear hV hcall hb1 rB rb rB1 b1
      go_wp2
      go_roundw
      case rel => exact ⟨k + 1, by omega, by go_num, nB.out, nb.out⟩
      case measure => simp [intOf]; omega
    · obtain rfl : k = n := by omega
      have hst := fun cap => rB.str (P := Tryd.prog) 36 5 9 (by kernel_rfl) (by kernel_rfl) (by kernel_rfl) 0 k cap (by omega)
      obtain ⟨y, hy⟩ : ∃ y, strF k (fun i => if 0 + i < k then F (0 + i) else 0) = y := ⟨_, rfl⟩
      rw [hy] at hst
      have HY : Hid (y = strF k F) := Lib.hid (by rw [← hy]; exact strF_congr fun i hi => by simp [hi])
      clear hy
      go_wp2
      go_ret
      exact ⟨ret_str HY.out, rb⟩
end Go.Proofs.YtpacaelnmpdnhaaDoor
