/- Copies with lost bits, of the program: what they are, and how many bits are lost. -/
import Derived.Test.YtpacaelnmpdnhaaDoorCop0
import Derived.Test.YtpacaelnmpdnhaaDoorDoorU
import Derived.Test.YtpacaelnmpdnhaaDoorRplLay
import Derived.Lib.Bytealg
namespace Go.Proofs.YtpacaelnmpdnhaaDoor
open Go.RowKit
set_option linter.unusedVariables false
set_option maxRecDepth 100000
theorem fill_any (z : ByteArray) (w : World) (hs : z.size ≤ 1048576) (hd : DoorAt w) :
    Calls Tryd.prog 51 #[.string z, .string ⟨#[63]⟩, .string ⟨#[48]⟩] w fun e w' => e = .returned (.string (fillS z)) ∧ Below w.heap.size w w' := by
  obtain ⟨m, hm⟩ := hd
  have h1 : Lib.countB z ⟨#[63]⟩ * 1 ≤ z.size := Lib.countB_mul_le ⟨#[63]⟩ (Nat.le_refl 1) z.size z (Nat.le_refl _)
  exact rpl_any z ⟨#[63]⟩ ⟨#[48]⟩ m w (by omega) hm (Nat.le_refl 1) (by show z.size + Lib.countB z ⟨#[63]⟩ * 1 ≤ _; omega)
theorem iCopy_any (z : ByteArray) (w : World) (hs : z.size ≤ 1048576) (hd : DoorAt w) :
    Calls Tryd.prog 30 #[.string z] w fun e w' => e = .returned (.bool (cpyB z)) ∧ Below w.heap.size w w' := by
  have HF := Lib.hid (fill_any z w hs hd)
  have HV := Lib.hid (fun w => bitsValid_any (fillS z) w (by rw [fillS_size]; omega))
  have HX : Hid (bitsB (fillS z) = cpyB z) := Lib.hid rfl
  obtain ⟨B, hB⟩ : ∃ B, cpyB z = B := ⟨_, rfl⟩
  rw [hB] at HX ⊢
  rw [HX.out] at HV
  obtain ⟨Y, hY⟩ : ∃ Y, fillS z = Y := ⟨_, rfl⟩
  rw [hY] at HF HV
  clear hB hY HX hd
  go_enter Tryd.func30, Tryd.ntmps30
  go_wp2_with fail
  refine HF.out.mono ?_
  rintro e w1 ⟨rfl, hb⟩
  go_wp2_with fail
  refine (HV.out _).mono ?_
  rintro e w2 ⟨rfl, rfl⟩
  go_wp2
  go_ret
  exact ⟨rfl, hb⟩
theorem count_marks (z : ByteArray) (w : World) : Calls Tryd.prog 31 #[.string z, .string ⟨#[63]⟩] w fun e w' => e = .returned (.int .i64 (lstN z z.size : Nat)) ∧ w = w' := by
  have HX := Lib.hid (lst_count z)
  go_enter Tryd.func31, Tryd.ntmps31
  go_wp2
  rw [run_callFunc_extern Tryd.func53 (by kernel_rfl) (by kernel_rfl) (by kernel_rfl) (e := Extern.BytealgCount.count) (by kernel_rfl), Lib.run_countString]
  simp only [Result.andThen]
  rw [Oper.upon_value]
  go_wp2
  go_ret
  exact ⟨ret_int (congrArg (fun n : Nat => (n : Int)) HX.out), rfl⟩
theorem iLost_any (z : ByteArray) (w : World) (hs : z.size ≤ 1048576) (hd : DoorAt w) :
    Calls Tryd.prog 11 #[.string z] w fun e w' => e = .returned (.int .i64 (lostA z)) ∧ Below w.heap.size w w' := by
  have HC := iCopy_any z w hs hd
  cases hc : cpyB z with
  | false =>
    rw [hc] at HC
    have HX : Hid (lostA z = -1) := Lib.hid (by unfold lostA; rw [hc]; rfl)
    have HC := Lib.hid HC
    clear hc
    go_enter Tryd.func11, Tryd.ntmps11
    go_wp2_with fail
    refine HC.out.mono ?_
    rintro e w1 ⟨rfl, hb⟩
    go_wp2
    go_ret
    exact ⟨ret_int HX.out.symm, hb⟩
  | true =>
    rw [hc] at HC
    have HX : Hid (lostA z = (lstN z z.size : Nat)) := Lib.hid (by unfold lostA; rw [hc]; rfl)
    have HC := Lib.hid HC
    have HM := Lib.hid (fun w => count_marks z w)
    obtain ⟨n, hn⟩ : ∃ n, lstN z z.size = n := ⟨_, rfl⟩
    rw [hn] at HM HX
    clear hc hn
    go_enter Tryd.func11, Tryd.ntmps11
    go_wp2_with fail
    refine HC.out.mono ?_
    rintro e w1 ⟨rfl, hb⟩
    go_wp2_with fail
    refine (HM.out _).mono ?_
    rintro e w2 ⟨rfl, rfl⟩
    go_wp2
    go_ret
    exact ⟨ret_int HX.out.symm, hb⟩
theorem fnExactLostBits_walk (z0 : ByteArray) (w : World) (hz0 : z0.size ≤ maxLen) (hd : DoorAt w) :
    Calls Tryd.prog 3 #[.string z0] w fun e w' => e = .returned (.bool true) ∧ Below w.heap.size w w' := by
  unfold maxLen at hz0
  by_cases hlz0 : 1048576 < z0.size
  · go_enter Tryd.func3, Tryd.ntmps3
    go_wp2
    go_ret
    exact ⟨rfl, Below.refl _ _⟩
  · have HS := Lib.hid (fun w => sLost_any z0 w (by omega))
    have HI := Lib.hid (fun w1 hd => iLost_any z0 w1 (by omega) hd)
    obtain ⟨X, hX⟩ : ∃ X, lostA z0 = X := ⟨_, rfl⟩
    rw [hX] at HS
    simp only [hX] at HI
    clear hX
    go_enter Tryd.func3, Tryd.ntmps3
    go_wp2_with fail
    refine (HS.out _).mono ?_
    rintro e w1 ⟨rfl, rfl⟩
    go_wp2_with fail
    refine (HI.out _ hd).mono ?_
    rintro e w2 ⟨rfl, b2⟩
    go_wp2
    go_ret
    exact ⟨rfl, b2⟩
end Go.Proofs.YtpacaelnmpdnhaaDoor
