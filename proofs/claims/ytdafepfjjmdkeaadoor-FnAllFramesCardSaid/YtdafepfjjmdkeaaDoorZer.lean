/- ssZeros: a string of zeros. -/
import Derived.Test.YtdafepfjjmdkeaaDoorSsStr
namespace Go.Proofs.YtdafepfjjmdkeaaDoor
open Go.RowKit
set_option linter.unusedVariables false
set_option maxRecDepth 100000
def zroS (n : Nat) : ByteArray := strF n (fun _ => 48)
theorem zroS_size (n : Nat) : (zroS n).size = n := strF_size _ _
theorem zb_zroS {n i : Nat} (h : i < n) : zb (zroS n) i = 48 := zb_strF h (by decide)
theorem zroS_ok (n : Nat) : okB (zroS n) (zroS n).size = true := okB_of_zb _ fun i hi => by rw [zroS_size] at hi; left; exact zb_zroS hi
theorem ssZer_any (n : Nat) (w : World) (hn : n ≤ 1048576) :
    Calls Tryd.prog 26 #[.int .i64 n] w fun e w' => e = .returned (.string (zroS n)) ∧ Below w.heap.size w w' := by
  have hmk := make_bytes_cap n hn
  have O0 := BO.made0 w n (fun _ => 48) hn
  have b0 := (Below.refl w.heap.size w).alloc (Nat.le_refl _) (.cells (madeCells #[.int .u8 0] n) 5)
  go_enter Tryd.func26, Tryd.ntmps26
  go_wp2
  go_loopw [3, 4] (fun v i wr => ∃ k : Nat, k ≤ n ∧ i = .int .i64 k ∧ v = .slice (some ⟨w.heap.size, 0, none⟩) k n ∧ BO wr w.heap.size (.slice (some ⟨w.heap.size, 0, none⟩) k n) k (fun _ => 48) ∧ Below w.heap.size w wr) (fun _ i _ => n - (intOf i).toNat)
  case atStart => exact ⟨0, by omega, rfl, rfl, O0, b0⟩
  case round =>
    obtain ⟨k, hk, rfl, rfl, rO, rb⟩ := hrel
    clear hmk O0 b0
    by_cases hlt : k < n
    · go_wp2_with (at_builtin; refine wpList_append_bfit rfl (.tmp 12) (.tmp 13) rfl w.heap.size w.heap.size k n _ rfl (rO.alloc _) wr.heap.size 1 48 rfl (by simp) (by omega) ?_; intro w' O3 g3)
      have O4 := Lib.hid (O3.congr (g := fun _ => 48) (fun j hj => by split <;> rfl))
      have hsz := rb.size
      have nb : Hid (Below w.heap.size w w') := Lib.hid ((rb.alloc hsz _).grown g3 (by simp; omega) (fun q hq => by cases hq; exact Nat.le_refl _))
      clear O3 g3 rO rb hsz
      go_wp2
      go_roundw
      case rel => exact ⟨k + 1, by omega, by go_num, rfl, O4.out, nb.out⟩
      case measure => simp [intOf]; omega
    · obtain rfl : n = k := by omega
      have hst := rO.text
      have HY : Hid (strF n (fun _ => 48) = zroS n) := Lib.hid rfl
      obtain ⟨y, hy⟩ : ∃ y, strF n (fun _ => 48) = y := ⟨_, rfl⟩
      rw [hy] at hst HY
      clear hy rO
      go_wp2
      go_ret
      exact ⟨ret_str HY.out, rb⟩
end Go.Proofs.YtdafepfjjmdkeaaDoor
