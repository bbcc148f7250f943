/- The model's Walsh codes. -/
import Derived.Test.YtgfehabpoebaoaaSeqFun
namespace Go.Proofs.Ytgfehabpoebaoaa
open Go.RowKit
set_option linter.unusedVariables false
/-- The bit of a Walsh code. -/
def walF (i k : Nat) : Nat := par (i &&& k)
theorem walF_lt (i k : Nat) : walF i k < 2 := par_lt _
def walshB (n i : Nat) : ByteArray := strF n (fun k => 48 + walF i k)
theorem walshB_size (n i : Nat) : (walshB n i).size = n := strF_size _ _
theorem tw_6 (o : Nat) (h : o ≤ 6) : tw o ≤ 64 := Nat.pow_le_pow_right (n := 2) (by omega) h
theorem and_bd (i k : Nat) (h : i < 64) : i &&& k < 64 := Nat.lt_of_le_of_lt Nat.and_le_left h
set_option maxRecDepth 100000 in
theorem l3Walsh_any (o i : Nat) (w : World) (h : o ≤ 6) (hi : i < 64) :
    Calls Try.prog 62 #[.int .i64 o, .int .i64 i] w fun e w' => e = .returned (.string (walshB (tw o) i)) ∧ Below w.heap.size w w' := by
  have hT := tw_6 o h
  have h2 := fun w => l1Two_any o w (by omega)
  obtain ⟨T, hTT⟩ : ∃ T, tw o = T := ⟨_, rfl⟩
  rw [hTT] at h2 hT ⊢
  have hmk := make_bytes T (by omega) (by omega)
  clear hTT
  go_enter Try.func62, Try.ntmps62
  go_wp2_with (first | (go_at_call 45; refine (h2 _).mono ?_; rintro e w' ⟨rfl, rfl⟩))
  go_loopw [6] (fun j wr => ∃ k : Nat, k ≤ T ∧ j = .int .i64 k ∧ Bytes wr w.heap.size 5 T (fun v => if v < k then 48 + walF i v else 0) ∧ Below w.heap.size w wr) (fun j _ => T - (intOf j).toNat)
  case atStart => exact ⟨0, by omega, rfl, Bytes.congr (Bytes.new rfl) (fun v _ => by simp), (Below.refl _ _).alloc (Nat.le_refl _) _⟩
  case round =>
    obtain ⟨k, hk, rfl, rB, rb⟩ := hrel
    clear hmk h2
    by_cases hlt : k < T
    · have hx := and64 i k (by omega) (by omega)
      have hbd := and_bd i k hi
      have hP := fun w => l1Parity_any (i &&& k) w (by omega)
      have hp2 := walF_lt i k
      have hd : walF i k = par (i &&& k) := rfl
      obtain ⟨X, hX⟩ : ∃ X, i &&& k = X := ⟨_, rfl⟩
      rw [hX] at hx hP hd
      obtain ⟨Y, hY⟩ : ∃ Y, par X = Y := ⟨_, rfl⟩
      rw [hY] at hP hd
      rw [hd] at hp2
      obtain ⟨V, hV⟩ : ∃ V, 48 + Y = V := ⟨_, rfl⟩
      have v4 : (48 : Int) + (Y : Int) = (V : Int) := by omega
      have hVV : 48 + walF i k = V := by rw [hd, hV]
      have hc := rB.cell k hlt
      have hf := World.rowIs.frozen rB k
      have i0 : (0 : Int) ≤ (k : Int) := by omega
      have i1 : (k : Int) < (T : Int) := by omega
      have hV2 : V < 50 := by omega
      have nB : Hid (Bytes (wr.setCell ⟨w.heap.size, k, none⟩ (.int .u8 (V : Nat))) w.heap.size 5 T (fun v => if v < k + 1 then 48 + walF i v else 0)) :=
        row_step (F := fun v => 48 + walF i v) rB hVV
      have nb : Hid (Below w.heap.size w (wr.setCell ⟨w.heap.size, k, none⟩ (.int .u8 (V : Nat)))) := Lib.hid (bytes_below rb (Nat.le_refl _) _ _)
      clear hV hVV hd hX hY rB rb hbd
      go_wp2_with (first | (go_at_call 70; refine (hP _).mono ?_; rintro e w' ⟨rfl, rfl⟩))
      clear hx v4 hP
      go_roundw
      case rel => exact ⟨k + 1, by omega, by go_num, nB.out, nb.out⟩
      case measure => simp [intOf]; omega
    · obtain rfl : k = T := by omega
      have hst := fun cap => rB.str (P := Try.prog) 22 5 9 (by kernel_rfl) (by kernel_rfl) (by kernel_rfl) 0 k cap (by omega)
      obtain ⟨y, hy⟩ : ∃ y, strF k (fun i_1 => if 0 + i_1 < k then 48 + walF i (0 + i_1) else 0) = y := ⟨_, rfl⟩
      rw [hy] at hst
      have HY : Hid (y = walshB k i) := Lib.hid (by rw [← hy]; exact strF_congr fun j hj => by simp [hj])
      clear hy
      go_wp2
      go_ret
      exact ⟨ret_str HY.out, rb⟩
end Go.Proofs.Ytgfehabpoebaoaa
