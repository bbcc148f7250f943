/- Frames of payloads, of both sides. -/
import Derived.Test.YtdafepfjjmdkeaaDoorFrm1
import Derived.Test.YtdafepfjjmdkeaaDoorFrm2
namespace Go.Proofs.YtdafepfjjmdkeaaDoor
open Go.RowKit
set_option linter.unusedVariables false
set_option maxRecDepth 100000
theorem ok_append {a b : ByteArray} (ha : okB a a.size = true) (hb : okB b b.size = true) : okB (a ++ b) (a ++ b).size = true := okB_of_zb _ fun i hi => by
  rw [ByteArray.size_append] at hi
  by_cases h : i < a.size
  · rw [zb_append_left _ _ _ h]; exact okB_zb a ha i h
  · rw [zb_append_right _ _ _ (by omega) hi]; exact okB_zb b hb _ (by omega)
theorem digS_ok (n c : Nat) : okB (digS n c) (digS n c).size = true := okB_of_zb _ fun i hi => by
  rw [digS_size] at hi
  unfold digS
  rw [zb_strF hi (digF_lt _ _ _)]
  unfold digF; omega
theorem bits_mk {z : ByteArray} (h : okB z z.size = true) (h6 : z.size ≤ 600) : bitsB z = true := by unfold bitsB; rw [h, decide_eq_true h6]; rfl
/-- The inner bits, and the frame. -/
def innS (z : ByteArray) : ByteArray := digS z.size 7 ++ z
theorem innS_size (z : ByteArray) : (innS z).size = 7 + z.size := by unfold innS; rw [ByteArray.size_append, digS_size]
theorem innS_ok {z : ByteArray} (h : okB z z.size = true) : okB (innS z) (innS z).size = true := ok_append (digS_ok _ _) h
def frmS (z : ByteArray) : ByteArray := (⟨#[49, 49, 49, 48, 49, 48, 48, 48]⟩ ++ innS z) ++ crcV (innS z)
theorem frmS_size (z : ByteArray) : (frmS z).size = 23 + z.size := by
  unfold frmS
  rw [ByteArray.size_append, ByteArray.size_append, innS_size, crcV_size]
  show 8 + (7 + z.size) + 8 = _; omega
theorem crcV_ok (z : ByteArray) : okB (crcV z) (crcV z).size = true := digS_ok _ _
theorem frmS_ok {z : ByteArray} (h : okB z z.size = true) : okB (frmS z) (frmS z).size = true := ok_append (ok_append (by decide) (innS_ok h)) (crcV_ok _)
def payB (z : ByteArray) : Bool := bitsB z && decide (z.size ≤ 100)
theorem payB_iff (z : ByteArray) : payB z = true ↔ bitsB z = true ∧ z.size ≤ 100 := by unfold payB; rw [Bool.and_eq_true, decide_eq_true_eq]
def frmAns (z : ByteArray) : ByteArray × Bool := if payB z then (frmS z, true) else noS
theorem iFrame_yes (z : ByteArray) (w : World) (h : payB z = true) :
    Calls Tryd.prog 22 #[.string z] w fun e w' => e = .returned (.tuple #[.string (frmS z), .bool true]) ∧ Below w.heap.size w w' := by
  obtain ⟨hb, h1⟩ := (payB_iff z).1 h
  have HV := Lib.hid (fun w => bitsValid_any z w (by omega))
  rw [hb] at HV
  have g1 : ¬ (100 : Int) < (z.size : Int) := by omega
  have HD := Lib.hid (fun w => digitsOf_any z.size 7 w (by omega) (by omega))
  have hd := digS_size z.size 7
  have hi := innS_ok (bits_of hb).1
  have his := innS_size z
  have hC := fun w => iCrc_any (innS z) w (by omega)
  rw [crcAns_yes (bits_mk hi (by omega))] at hC
  have hcs := crcV_size (innS z)
  have hF : Hid (frmS z = (⟨#[49, 49, 49, 48, 49, 48, 48, 48]⟩ ++ innS z) ++ crcV (innS z)) := Lib.hid rfl
  have hI : innS z = digS z.size 7 ++ z := rfl
  obtain ⟨V, hV⟩ : ∃ V, crcV (innS z) = V := ⟨_, rfl⟩
  rw [hV] at hC hcs hF
  rw [hI] at hC his hF
  obtain ⟨Y, hY⟩ : ∃ V, digS z.size 7 = V := ⟨_, rfl⟩
  rw [hY] at hC HD hF hd his
  have q1 : Y.size + z.size ≤ 9223372036854775807 := by omega
  have HC := Lib.hid hC
  clear hb h hi hV hI hY hC
  go_enter Tryd.func22, Tryd.ntmps22
  go_wp2_with fail
  refine (HV.out _).mono ?_
  rintro e w1 ⟨rfl, rfl⟩
  go_wp2_with fail
  refine (HD.out _).mono ?_
  rintro e w1 ⟨rfl, b1⟩
  go_wp2_with fail
  refine (HC.out _).mono ?_
  rintro e w2 ⟨rfl, b2'⟩
  have b2 := below_then b1 (Nat.le_refl _) b2'
  clear b1 b2'
  go_wp2
  go_ret2
  exact ⟨ret_sb hF.out.symm, b2⟩
theorem iFrame_any (z : ByteArray) (w : World) (hs : z.size ≤ 1048576) :
    Calls Tryd.prog 22 #[.string z] w fun e w' => e = .returned (.tuple #[.string (frmAns z).1, .bool (frmAns z).2]) ∧ Below w.heap.size w w' := by
  cases h : payB z with
  | true =>
    have HX : Hid (frmAns z = (frmS z, true)) := Lib.hid (by unfold frmAns; rw [h]; rfl)
    refine (iFrame_yes z w h).mono ?_
    rintro e w' ⟨rfl, hb⟩
    exact ⟨ret_sA HX.out, hb⟩
  | false =>
    have HX : Hid (frmAns z = noS) := Lib.hid (by unfold frmAns; rw [h]; rfl)
    have HV := Lib.hid (fun w => bitsValid_any z w (by omega))
    cases hb : bitsB z with
    | false =>
      rw [hb] at HV
      clear hb h
      go_enter Tryd.func22, Tryd.ntmps22
      go_wp2_with fail
      refine (HV.out _).mono ?_
      rintro e w1 ⟨rfl, rfl⟩
      go_wp2
      go_ret2
      exact ⟨ret_sA HX.out, Below.refl _ _⟩
    | true =>
      have h1 : ¬ z.size ≤ 100 := fun h1 => by rw [(payB_iff z).2 ⟨hb, h1⟩] at h; cases h
      have g1 : (100 : Int) < (z.size : Int) := by omega
      rw [hb] at HV
      clear hb h h1
      go_enter Tryd.func22, Tryd.ntmps22
      go_wp2_with fail
      refine (HV.out _).mono ?_
      rintro e w1 ⟨rfl, rfl⟩
      go_wp2
      go_ret2
      exact ⟨ret_sA HX.out, Below.refl _ _⟩
theorem sFrm_any (z : ByteArray) (w : World) (ho : okB z z.size = true) (hs : z.size ≤ 600) :
    Calls Tryd.prog 45 #[.string z] w fun e w' => e = .returned (.string (frmS z)) ∧ Below w.heap.size w w' := by
  have HD := Lib.hid (fun w => l6Binary_any z.size 7 w (by omega) (by omega))
  have hd := digS_size z.size 7
  have hi := innS_ok ho
  have his := innS_size z
  have hC := fun w => l6Crc_any (innS z) w hi (by omega)
  have hcs := crcV_size (innS z)
  have hF : Hid (frmS z = (⟨#[49, 49, 49, 48, 49, 48, 48, 48]⟩ ++ innS z) ++ crcV (innS z)) := Lib.hid rfl
  have hI : innS z = digS z.size 7 ++ z := rfl
  obtain ⟨V, hV⟩ : ∃ V, crcV (innS z) = V := ⟨_, rfl⟩
  rw [hV] at hC hcs hF
  rw [hI] at hC his hF
  obtain ⟨Y, hY⟩ : ∃ V, digS z.size 7 = V := ⟨_, rfl⟩
  rw [hY] at hC HD hF hd his
  have q1 : Y.size + z.size ≤ 9223372036854775807 := by omega
  have HC := Lib.hid hC
  clear hi hV hI hY hC ho
  go_enter Tryd.func45, Tryd.ntmps45
  go_wp2_with fail
  refine (HD.out _).mono ?_
  rintro e w1 ⟨rfl, b1⟩
  go_wp2_with fail
  refine (HC.out _).mono ?_
  rintro e w2 ⟨rfl, b2'⟩
  have b2 := below_then b1 (Nat.le_refl _) b2'
  clear b1 b2'
  go_wp2
  go_ret
  exact ⟨ret_str hF.out.symm, b2⟩
end Go.Proofs.YtdafepfjjmdkeaaDoor
