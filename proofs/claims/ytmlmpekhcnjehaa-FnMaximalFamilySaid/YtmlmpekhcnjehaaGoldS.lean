/- The model's maximal sequences and Gold codes. -/
import Derived.Test.YtmlmpekhcnjehaaSRun
namespace Go.Proofs.Ytmlmpekhcnjehaa
open Go.RowKit
set_option linter.unusedVariables false
/-- A period of a maximal register. -/
def perS (S T : Int) : ByteArray := runS S.toNat T.toNat 1 (tw S.toNat - 1)
theorem regN_one {s t : Nat} (h : tapsB s t = true) : RegN s t 1 := by
  obtain ⟨h1, h2, h3, h4⟩ := (tapsB_iff s t).1 h
  simp only [Int.toNat_natCast] at h4
  have := tw_four s (by omega)
  exact ⟨by omega, by omega, by omega, by omega, by omega⟩
theorem taps_nat {S T : Int} (h : tapsB S T = true) : ∃ s t : Nat, S = s ∧ T = t ∧ 2 ≤ s ∧ s ≤ 8 ∧ RegN s t 1 := by
  obtain ⟨h1, h2, h3, h4⟩ := (tapsB_iff S T).1 h
  obtain ⟨s, rfl⟩ : ∃ s : Nat, S = s := ⟨S.toNat, by omega⟩
  obtain ⟨t, rfl⟩ : ∃ t : Nat, T = t := ⟨T.toNat, by omega⟩
  exact ⟨s, t, rfl, rfl, by omega, by omega, regN_one h⟩
set_option maxRecDepth 100000 in
theorem l3Sequence_any (S T : Int) (w : World) (h : tapsB S T = true) :
    Calls Try.prog 35 #[.int .i64 S, .int .i64 T] w fun e w' => e = .returned (.string (perS S T)) ∧ Below w.heap.size w w' := by
  obtain ⟨s, t, rfl, rfl, h2, h8, hR⟩ := taps_nat h
  have hp := tw_four s h2
  have hl := tw_le s h8
  have h2' := fun w => l1Two_any s w h8
  have hL := fun w => l1Run_any s t 1 (tw s - 1) w hR (by omega)
  unfold perS
  simp only [Int.toNat_natCast]
  obtain ⟨Z, hZ⟩ : ∃ Z, runS s t 1 (tw s - 1) = Z := ⟨_, rfl⟩
  rw [hZ] at hL ⊢
  obtain ⟨A, hA⟩ : ∃ A, tw s = A + 1 := ⟨tw s - 1, by omega⟩
  rw [hA] at h2' hL hp hl
  rw [show A + 1 - 1 = A by omega] at hL
  have e1 : (((A + 1 : Nat) : Nat) : Int) - 1 = (A : Int) := by omega
  have HT := Lib.hid h2'
  have HL := Lib.hid hL
  clear hZ hA h h2' hL
  go_enter Try.func35, Try.ntmps35
  go_wp2_with fail
  refine (HT.out _).mono ?_
  rintro e w' ⟨rfl, rfl⟩
  go_wp2_with fail
  refine (HL.out _).mono ?_
  rintro e w1 ⟨rfl, hb⟩
  clear e1
  go_wp2
  go_ret
  exact ⟨rfl, hb⟩
theorem perS_size {S T : Int} (h : tapsB S T = true) : (perS S T).size ≤ 255 := by
  obtain ⟨s, t, rfl, rfl, h2, h8, hR⟩ := taps_nat h
  have := tw_le s h8
  unfold perS
  rw [runS_size, Int.toNat_natCast]
  omega
theorem perS_seq {S T : Int} (h : tapsB S T = true) : seqB (perS S T) = true := by
  obtain ⟨s, t, rfl, rfl, h2, h8, hR⟩ := taps_nat h
  have h4 := tw_four s h2
  have := tw_le s h8
  refine (seqB_iff _).2 ⟨okB_of_zb _ fun i hi => ?_, ?_, perS_size h⟩
  · unfold perS at hi ⊢
    rw [runS_size] at hi
    rw [runS, zb_strF hi (by omega)]
    omega
  · unfold perS; rw [runS_size, Int.toNat_natCast]; omega
theorem perS_len {S a b : Int} : (perS S a).size = (perS S b).size := by unfold perS; rw [runS_size, runS_size]
/-- The code of a Gold family. -/
def goldS (S a b k : Int) : ByteArray := if k = -2 then perS S a else if k = -1 then perS S b else addS (perS S a) (shift (perS S b) k)
end Go.Proofs.Ytmlmpekhcnjehaa
