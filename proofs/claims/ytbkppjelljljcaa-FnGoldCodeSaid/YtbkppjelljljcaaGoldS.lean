/- The model's maximal sequences and Gold codes. -/
import Derived.Test.YtbkppjelljljcaaSRun
namespace Go.Proofs.Ytbkppjelljljcaa
open Go.RowKit
set_option linter.unusedVariables false
/-- A period of a maximal register. -/
def perS (S T : Int) : ByteArray := runS S.toNat T.toNat 1 (tw S.toNat - 1)
theorem regN_one {s t : Nat} (h : tapsB s t = true) : RegN s t 1 := by
  obtain ⟨h1, h2, h3, h4⟩ := (tapsB_iff s t).1 h
  simp only [Int.toNat_natCast] at h4
  have := tw_four s (by omega)
  exact ⟨by omega, by omega, by omega, by omega, by omega⟩
theorem taps_nat {S T : Int} (h : tapsB S T = true) : ∃ s t : Nat, S = s ∧ T = t ∧ 2 ≤ s ∧ s ≤ 8 ∧ RegN s t 1 := by
  obtain ⟨h1, h2, h3, h4⟩ := (tapsB_iff S T).1 h
  obtain ⟨s, rfl⟩ : ∃ s : Nat, S = s := ⟨S.toNat, by omega⟩
  obtain ⟨t, rfl⟩ : ∃ t : Nat, T = t := ⟨T.toNat, by omega⟩
  exact ⟨s, t, rfl, rfl, by omega, by omega, regN_one h⟩
set_option maxRecDepth 100000 in
theorem l3Sequence_any (S T : Int) (w : World) (h : tapsB S T = true) :
    Calls Try.prog 49 #[.int .i64 S, .int .i64 T] w fun e w' => e = .returned (.string (perS S T)) ∧ Below w.heap.size w w' := by
  obtain ⟨s, t, rfl, rfl, h2, h8, hR⟩ := taps_nat h
  have hp := tw_four s h2
  have hl := tw_le s h8
  have h2' := fun w => l1Two_any s w h8
  have hL := fun w => l1Run_any s t 1 (tw s - 1) w hR (by omega)
  unfold perS
  simp only [Int.toNat_natCast]
  obtain ⟨Z, hZ⟩ : ∃ Z, runS s t 1 (tw s - 1) = Z := ⟨_, rfl⟩
  rw [hZ] at hL ⊢
  obtain ⟨A, hA⟩ : ∃ A, tw s = A + 1 := ⟨tw s - 1, by omega⟩
  rw [hA] at h2' hL hp hl
  rw [show A + 1 - 1 = A by omega] at hL
  have e1 : (((A + 1 : Nat) : Nat) : Int) - 1 = (A : Int) := by omega
  have HT := Lib.hid h2'
  have HL := Lib.hid hL
  clear hZ hA h h2' hL
  go_enter Try.func49, Try.ntmps49
  go_wp2_with fail
  refine (HT.out _).mono ?_
  rintro e w' ⟨rfl, rfl⟩
  go_wp2_with fail
  refine (HL.out _).mono ?_
  rintro e w1 ⟨rfl, hb⟩
  clear e1
  go_wp2
  go_ret
  exact ⟨rfl, hb⟩
theorem perS_size {S T : Int} (h : tapsB S T = true) : (perS S T).size ≤ 255 := by
  obtain ⟨s, t, rfl, rfl, h2, h8, hR⟩ := taps_nat h
  have := tw_le s h8
  unfold perS
  rw [runS_size, Int.toNat_natCast]
  omega
theorem perS_seq {S T : Int} (h : tapsB S T = true) : seqB (perS S T) = true := by
  obtain ⟨s, t, rfl, rfl, h2, h8, hR⟩ := taps_nat h
  have h4 := tw_four s h2
  have := tw_le s h8
  refine (seqB_iff _).2 ⟨okB_of_zb _ fun i hi => ?_, ?_, perS_size h⟩
  · unfold perS at hi ⊢
    rw [runS_size] at hi
    rw [runS, zb_strF hi (by omega)]
    omega
  · unfold perS; rw [runS_size, Int.toNat_natCast]; omega
theorem perS_len {S a b : Int} : (perS S a).size = (perS S b).size := by unfold perS; rw [runS_size, runS_size]
/-- The code of a Gold family. -/
def goldS (S a b k : Int) : ByteArray := if k = -2 then perS S a else if k = -1 then perS S b else addS (perS S a) (shift (perS S b) k)
set_option maxRecDepth 100000 in
theorem l3Gold_any (S a b k : Int) (w : World) (ha : tapsB S a = true) (hb : tapsB S b = true) :
    Calls Try.prog 35 #[.int .i64 S, .int .i64 a, .int .i64 b, .int .i64 k] w fun e w' => e = .returned (.string (goldS S a b k)) ∧ Below w.heap.size w w' := by
  have HA := Lib.hid (fun w => l3Sequence_any S a w ha)
  have HB := Lib.hid (fun w => l3Sequence_any S b w hb)
  unfold goldS
  by_cases e2 : k = -2
  · subst e2
    rw [if_pos rfl]
    clear ha hb
    go_enter Try.func35, Try.ntmps35
    go_wp2_with fail
    refine (HA.out _).mono ?_
    rintro e w1 ⟨rfl, b1⟩
    go_wp2
    go_ret
    exact ⟨rfl, b1⟩
  · rw [if_neg e2]
    have d2 : (k == -2) = false := by simpa using e2
    by_cases e1 : k = -1
    · subst e1
      rw [if_pos rfl]
      clear ha hb
      go_enter Try.func35, Try.ntmps35
      go_wp2_with fail
      refine (HB.out _).mono ?_
      rintro e w1 ⟨rfl, b1⟩
      go_wp2
      go_ret
      exact ⟨rfl, b1⟩
    · rw [if_neg e1]
      have d1 : (k == -1) = false := by simpa using e1
      have s1 := (seqB_iff _).1 (perS_seq ha)
      have s2 := (seqB_iff _).1 (perS_seq hb)
      have HS := Lib.hid (fun w => l2Shift_any (perS S b) k w s2.2.1 s2.2.2)
      have HD := Lib.hid (fun w => l2Add_any (perS S a) (shift (perS S b) k) w s1.1 (shift_ok _ k s2.1) (by rw [shift_size]; exact perS_len) s1.2.2)
      obtain ⟨Z1, hZ1⟩ : ∃ Z, perS S a = Z := ⟨_, rfl⟩
      obtain ⟨Z2, hZ2⟩ : ∃ Z, perS S b = Z := ⟨_, rfl⟩
      rw [hZ1] at HA HD ⊢
      rw [hZ2] at HB HS HD ⊢
      clear hZ1 hZ2 ha hb s1 s2 e1 e2
      go_enter Try.func35, Try.ntmps35
      go_wp2_with fail
      refine (HA.out _).mono ?_
      rintro e w1 ⟨rfl, b1⟩
      go_wp2_with fail
      refine (HB.out _).mono ?_
      rintro e w2 ⟨rfl, hb2⟩
      have b2 := below_then b1 (Nat.le_refl _) hb2
      clear b1 hb2
      go_wp2_with fail
      refine (HS.out _).mono ?_
      rintro e w3 ⟨rfl, m, rfl⟩
      have b3 := below_drewN b2 m
      obtain ⟨W, hW⟩ : ∃ W, w2.drewN m = W := ⟨_, rfl⟩
      rw [hW] at b3 ⊢
      clear hW b2
      go_wp2_with fail
      refine (HD.out _).mono ?_
      rintro e w4 ⟨rfl, hb4⟩
      have b4 := below_then b3 (Nat.le_refl _) hb4
      clear b3 hb4
      go_wp2
      go_ret
      exact ⟨rfl, b4⟩
end Go.Proofs.Ytbkppjelljljcaa
