/- Contracts of FirstRotation, of both sides. -/
import Derived.Test.YtjeadndajndmhaaSeqFind
import Derived.WalkLawsBesides
namespace Go.Proofs.Ytjeadndajndmhaa
open Go.RowKit
set_option linter.unusedVariables false
/-- The first one of two strings. -/
def minS (x y : ByteArray) : ByteArray := if (Op.bytesLess x.toList y.toList || x.toList == y.toList) then x else y
theorem run_minS (ts : Array TypeId) (t : TypeId) (x y : ByteArray) (w : World) : (Builtin.min_ ts t #[.string x, .string y]).run Try.prog w = .ok (.string (minS x y)) w := by
  unfold minS
  generalize hb : (Op.bytesLess x.toList y.toList || x.toList == y.toList) = b
  have hl : (Op.stringOp .leq x y : Sem Value) = pure (.bool b) := by simp only [Op.stringOp, hb]
  simp [Builtin.min_, Builtin.min2, hl]
  cases b <;> rfl
/-- The first one of the shifts up to k. -/
def rotB (z : ByteArray) : Nat → ByteArray
  | 0 => z
  | k + 1 => minS (rotB z k) (shift z ((k + 1 : Nat) : Int))
def rotAns (z : ByteArray) : ByteArray := if seqB z then rotB z (z.size - 1) else ByteArray.empty
set_option maxRecDepth 100000 in
theorem sRot_yes (z : ByteArray) (w : World) (h : seqB z = true) :
    Calls Try.prog 16 #[.string z] w fun e w' => e = .returned (.string (rotB z (z.size - 1))) ∧ Below w.heap.size w w' := by
  have h12 := size_le h
  have HT := Lib.hid (fun (k : Nat) w => l2Shift_any z (k : Int) w h12.1 h12.2)
  go_enter Try.func16, Try.ntmps16
  go_wp2_with (first | (go_at_call 38; refine (sSequenceValid_yes z _ h).mono ?_; rintro e w1 ⟨rfl, rfl⟩))
  go_loopw [3, 4] (fun s i wr => ∃ k : Nat, k + 1 ≤ z.size ∧ i = .int .i64 ((k : Int) + 1) ∧ s = .string (rotB z k) ∧ Below w.heap.size w wr) (fun _ i _ => z.size - (intOf i).toNat)
  case atStart => exact ⟨0, by omega, rfl, rfl, Below.refl _ _⟩
  case round =>
    obtain ⟨k, hk, rfl, rfl, hb⟩ := hrel
    clear h
    by_cases hlt : k + 1 < z.size
    · have hT := HT.out (k + 1)
      rw [show ((k + 1 : Nat) : Int) = (k : Int) + 1 by omega] at hT
      have HR := Lib.hid (show rotB z (k + 1) = minS (rotB z k) (shift z ((k : Int) + 1)) by rw [rotB, show ((k + 1 : Nat) : Int) = (k : Int) + 1 by omega])
      obtain ⟨X, hX⟩ : ∃ X, rotB z k = X := ⟨_, rfl⟩
      obtain ⟨Y, hY⟩ : ∃ Y, shift z ((k : Int) + 1) = Y := ⟨_, rfl⟩
      rw [hY] at hT HR
      rw [hX] at HR ⊢
      have hm := fun ts t w => run_minS ts t X Y w
      have HT' := Lib.hid hT
      clear hT hX hY
      go_wp2_with fail
      refine (HT'.out _).mono ?_
      rintro e w1 ⟨rfl, n, rfl⟩
      go_wp2
      go_roundw
      case rel => exact ⟨k + 1, by omega, by go_num, by rw [HR.out], below_drewN hb _⟩
      case measure => simp [intOf]; omega
    · have HE : Hid (z.size - 1 = k) := Lib.hid (by omega)
      go_wp2
      go_ret
      exact ⟨ret_str (by rw [HE.out]), hb⟩
set_option maxRecDepth 100000 in
theorem sRot_any (z : ByteArray) (w : World) (hs : z.size ≤ 9223372036854775807) :
    Calls Try.prog 16 #[.string z] w fun e w' => e = .returned (.string (rotAns z)) ∧ Below w.heap.size w w' := by
  cases h : seqB z with
  | true => rw [show rotAns z = rotB z (z.size - 1) by unfold rotAns; rw [h]; rfl]; exact sRot_yes z w h
  | false =>
    rw [show rotAns z = ByteArray.empty by unfold rotAns; rw [h]; rfl]
    go_enter Try.func16, Try.ntmps16
    go_wp2_with (first | (go_at_call 38; refine (sSequenceValid_no z _ hs h).mono ?_; rintro e w1 ⟨rfl, rfl⟩))
    go_ret
    exact ⟨rfl, Below.refl _ _⟩
set_option maxRecDepth 100000 in
theorem iRot_yes (z : ByteArray) (w : World) (h : seqB z = true) :
    Calls Try.prog 15 #[.string z] w fun e w' => e = .returned (.string (rotB z (z.size - 1))) ∧ Below w.heap.size w w' := by
  have h12 := size_le h
  have HT := Lib.hid (fun (k : Int) w => turned_any z k w h12.1 h12.2)
  have HM := Lib.hid (fun (k : Int) => modN_lt k z.size (by omega))
  have HZ := Lib.hid (fun (k : Int) (w' : World) (g : Nat) (hR : Bytes w' g 5 (2 * z.size) (fun i => zb z (i % z.size))) => turned_str hR k h12.1)
  have h00 := HZ.out 0
  rw [shift_zero z 0 (by unfold modN; simp)] at h00
  have H00 := Lib.hid h00
  clear h00
  go_enter Try.func15, Try.ntmps15
  go_wp2_with (first | (go_at_call 20; refine (iSequenceValid_yes z _ h).mono ?_; rintro e w1 ⟨rfl, rfl⟩))
  have hm0 := HM.out 0
  refine (HT.out 0 _).mono ?_
  rintro e w0 ⟨rfl, hR0, hB0⟩
  have hcv0 := H00.out _ _ hR0
  clear hR0 h
  go_wp2_with fail
  clear hcv0 hm0
  go_loopw [3, 4] (fun s i wr => ∃ k : Nat, k + 1 ≤ z.size ∧ i = .int .i64 ((k : Int) + 1) ∧ s = .string (rotB z k) ∧ Below w.heap.size w wr) (fun _ i _ => z.size - (intOf i).toNat)
  case atStart => exact ⟨0, by omega, rfl, rfl, hB0⟩
  case round =>
    obtain ⟨k, hk, rfl, rfl, hb⟩ := hrel
    by_cases hlt : k + 1 < z.size
    · have hT := HT.out ((k : Int) + 1)
      have hst := HZ.out ((k : Int) + 1)
      have hm2 := HM.out ((k : Int) + 1)
      have HR := Lib.hid (show rotB z (k + 1) = minS (rotB z k) (shift z ((k : Int) + 1)) by rw [rotB, show ((k + 1 : Nat) : Int) = (k : Int) + 1 by omega])
      obtain ⟨X, hX⟩ : ∃ X, rotB z k = X := ⟨_, rfl⟩
      obtain ⟨Y, hY⟩ : ∃ Y, shift z ((k : Int) + 1) = Y := ⟨_, rfl⟩
      rw [hY] at hst HR
      rw [hX] at HR ⊢
      have hm := fun ts t w => run_minS ts t X Y w
      have HT' := Lib.hid hT
      have HS := Lib.hid hst
      clear hT hX hY hst
      go_wp2_with fail
      refine (HT'.out _).mono ?_
      rintro e w1 ⟨rfl, hR, hB⟩
      have hcv := HS.out _ _ hR
      have qb := below_then hb (Nat.le_refl _) hB
      clear hR hB hb
      go_wp2
      go_roundw
      case rel => exact ⟨k + 1, by omega, by go_num, by rw [HR.out], qb⟩
      case measure => simp [intOf]; omega
    · have HE : Hid (z.size - 1 = k) := Lib.hid (by omega)
      go_wp2
      go_ret
      exact ⟨ret_str (by rw [HE.out]), hb⟩
set_option maxRecDepth 100000 in
theorem iRot_any (z : ByteArray) (w : World) (hs : z.size ≤ 9223372036854775807) :
    Calls Try.prog 15 #[.string z] w fun e w' => e = .returned (.string (rotAns z)) ∧ Below w.heap.size w w' := by
  cases h : seqB z with
  | true => rw [show rotAns z = rotB z (z.size - 1) by unfold rotAns; rw [h]; rfl]; exact iRot_yes z w h
  | false =>
    rw [show rotAns z = ByteArray.empty by unfold rotAns; rw [h]; rfl]
    go_enter Try.func15, Try.ntmps15
    go_wp2_with (first | (go_at_call 20; refine (iSequenceValid_no z _ hs h).mono ?_; rintro e w1 ⟨rfl, rfl⟩))
    go_ret
    exact ⟨rfl, Below.refl _ _⟩
end Go.Proofs.Ytjeadndajndmhaa
