/- strings.Clone, strings.HasPrefix at this program. -/
import Derived.Test.YtdafepfjjmdkeaaDoorFrm0
import Derived.Lib.UnsafeStr
import Derived.Lib.Walk
import Derived.Lib.Strings
namespace Go.Proofs.YtdafepfjjmdkeaaDoor
open Go.RowKit
set_option linter.unusedVariables false
set_option maxRecDepth 100000
theorem cellsOf_u8 : Tryd.prog.cellsOf 5 = 1 := by kernel_rfl
theorem slClone_any (z : ByteArray) (w : World) (hz : z.size ≤ 1048576) :
    Calls Tryd.prog 53 #[.string z] w fun e w' => e = .returned (.string z) ∧ Below w.heap.size w w' := by
  by_cases h0 : z.size = 0
  · obtain rfl : z = ⟨#[]⟩ := ba_ext h0 fun i hi => by omega
    go_enter Tryd.func53, Tryd.ntmps53
    go_wp2
    go_ret
    exact ⟨rfl, Below.refl _ _⟩
  · have hmk := make_bytes z.size (by omega) (by omega)
    obtain ⟨w1, c1, r1, b1⟩ := copy_string_row (P := Tryd.prog) 31 9 3 5 (by kernel_rfl) sizeOf_u8 w.heap.size 0 z.size z.size z (by omega) 5 z.size (fun _ => 0) (Bytes.new (w := w) rfl) (by omega) w.heap.size w ((Below.refl _ _).alloc (Nat.le_refl _) _) (Nat.le_refl _)
    have hcell : ∀ j x, z.data.toList[j]? = some x → w1.cell? ((⟨w.heap.size, 0, none⟩ : Addr).add j) = some (.int .u8 x.toNat) := fun j x hx => by
      obtain ⟨hj, hx2⟩ := List.getElem?_eq_some_iff.1 hx
      have hj' : j < z.size := hj
      have hc := r1.cell j hj'
      rw [show (⟨w.heap.size, 0, none⟩ : Addr).add j = ⟨w.heap.size, j, none⟩ by unfold Addr.add; split <;> simp_all, hc, if_pos ⟨Nat.zero_le _, by omega⟩, Nat.sub_zero, ← zb_at z j hj', ← hx2]
      rfl
    obtain ⟨cur, hg, hs, _⟩ := id r1
    have hUS := Lib.run_unsafeString_row (P := Tryd.prog) w1 88 3 9 5 (by kernel_rfl) cellsOf_u8 w.heap.size z.size (by unfold World.shape?; rw [hg, ← hs]) z.data.toList (fun e => h0 (by show z.data.toList.length = 0; rw [e]; rfl)) (Nat.le_refl _) (by show z.size ≤ _; omega) hcell
    rw [show z.data.toList.length = z.size from rfl] at hUS
    have hb := Lib.below_freeze b1 (p := ⟨w.heap.size, 0, none⟩) (Nat.le_refl _) z.size
    clear r1 b1 hcell hg hs
    have i1 : (0 : Int) < (z.size : Int) := by omega
    go_enter Tryd.func53, Tryd.ntmps53
    go_wp2
    go_ret
    exact ⟨rfl, hb⟩
theorem clone_any (z : ByteArray) (w : World) (hz : z.size ≤ 1048576) :
    Calls Tryd.prog 37 #[.string z] w fun e w' => e = .returned (.string z) ∧ Below w.heap.size w w' := by
  have HC := Lib.hid (fun w => slClone_any z w hz)
  go_enter Tryd.func37, Tryd.ntmps37
  go_wp2_with fail
  refine (HC.out _).mono ?_
  rintro e w1 ⟨rfl, b1⟩
  go_wp2
  go_ret
  exact ⟨rfl, b1⟩
/-- Whether a string begins with another one. -/
def preB (s p : ByteArray) : Bool := decide (p.size ≤ s.size) && (s.extract 0 p.size).toList == p.toList
theorem preB_iff (s p : ByteArray) : preB s p = true ↔ p.size ≤ s.size ∧ s.extract 0 p.size = p := by
  unfold preB
  rw [Bool.and_eq_true, decide_eq_true_eq]
  constructor
  · rintro ⟨h1, h2⟩
    refine ⟨h1, ?_⟩
    apply Classical.byContradiction
    intro hne
    rw [str_ne hne] at h2
    cases h2
  · rintro ⟨h1, h2⟩
    exact ⟨h1, by rw [h2]; exact beq_self_eq_true _⟩
theorem slPrefix_any (s p : ByteArray) (w : World) :
    Calls Tryd.prog 67 #[.string s, .string p] w fun e w' => e = .returned (.bool (preB s p)) ∧ w = w' := by
  by_cases h : p.size ≤ s.size
  · have HX : Hid (((s.extract 0 p.size).toList == p.toList) = preB s p) := Lib.hid (by unfold preB; rw [decide_eq_true h, Bool.true_and])
    have i1 : (p.size : Int) ≤ (s.size : Int) := by omega
    clear h
    go_enter Tryd.func67, Tryd.ntmps67
    go_wp2
    go_ret
    exact ⟨ret_bool HX.out, rfl⟩
  · have HX : Hid (false = preB s p) := Lib.hid (by unfold preB; rw [decide_eq_false h]; rfl)
    have i1 : ¬ (p.size : Int) ≤ (s.size : Int) := by omega
    clear h
    go_enter Tryd.func67, Tryd.ntmps67
    go_wp2
    go_ret
    exact ⟨ret_bool HX.out, rfl⟩
theorem prefix_any (s p : ByteArray) (w : World) :
    Calls Tryd.prog 58 #[.string s, .string p] w fun e w' => e = .returned (.bool (preB s p)) ∧ w = w' := by
  have HC := Lib.hid (fun w => slPrefix_any s p w)
  go_enter Tryd.func58, Tryd.ntmps58
  go_wp2_with fail
  refine (HC.out _).mono ?_
  rintro e w1 ⟨rfl, rfl⟩
  go_wp2
  go_ret
  exact ⟨rfl, rfl⟩
end Go.Proofs.YtdafepfjjmdkeaaDoor
