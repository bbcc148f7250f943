/- RunRegister of both sides, and the walk of its exact law. -/
import Derived.Test.YtcofaceadobdiaaRunReg
import Derived.Test.YtcofaceadobdiaaSeqFun
namespace Go.Proofs.Ytcofaceadobdiaa
open Go.RowKit
set_option linter.unusedVariables false
def runAns (S T X N : Int) : ByteArray × Bool := if regB S T X = true ∧ 0 ≤ N ∧ N ≤ 600 then (runS S.toNat T.toNat X.toNat N.toNat, true) else noS
theorem runAns_yes {s t x n : Nat} (h : RegN s t x) (hn : n ≤ 600) : runAns s t x n = (runS s t x n, true) := by
  unfold runAns; rw [if_pos ⟨h.valid, by omega, by omega⟩]; rfl
theorem runAns_no {S T X N : Int} (h : ¬ (regB S T X = true ∧ 0 ≤ N ∧ N ≤ 600)) : runAns S T X N = noS := by unfold runAns; rw [if_neg h]
set_option maxRecDepth 100000 in
theorem iRun_any (S T X N : Int) (w : World) :
    Calls Try.prog 17 #[.agg #[.int .i64 S, .int .i64 T, .int .i64 X], .int .i64 N] w fun e w' => e = .returned (.tuple #[.string (runAns S T X N).1, .bool (runAns S T X N).2]) ∧ Below w.heap.size w w' := by
  cases hv : regB S T X with
  | true =>
    obtain ⟨s, t, x, rfl, rfl, rfl, hR⟩ := RegN.of hv
    by_cases hN : 0 ≤ N ∧ N ≤ 600
    · obtain ⟨n, rfl⟩ : ∃ n : Nat, N = n := ⟨N.toNat, by omega⟩
      rw [runAns_yes hR (by omega)]
      exact iRun_yes s t x n w hR (by omega)
    · rw [runAns_no (fun h => hN h.2)]
      have b0 : Below w.heap.size w (w.alloc (.cells #[.int .i64 s, .int .i64 t, .int .i64 x] 26)) := (Below.refl _ _).alloc (Nat.le_refl _) _
      by_cases h0 : N < 0
      · go_enter Try.func17, Try.ntmps17
        go_wp2_with fail
        refine (run_valid s t x _ hR).mono ?_
        rintro e w1 ⟨rfl, hb⟩
        have b1 := below_then b0 (Nat.le_refl _) hb
        clear b0 hb
        go_wp2
        go_ret2
        exact ⟨rfl, b1⟩
      · have h6 : 600 < N := by omega
        go_enter Try.func17, Try.ntmps17
        go_wp2_with fail
        refine (run_valid s t x _ hR).mono ?_
        rintro e w1 ⟨rfl, hb⟩
        have b1 := below_then b0 (Nat.le_refl _) hb
        clear b0 hb
        go_wp2
        go_ret2
        exact ⟨rfl, b1⟩
  | false =>
    rw [runAns_no (by rw [hv]; simp)]
    have b0 : Below w.heap.size w (w.alloc (.cells #[.int .i64 S, .int .i64 T, .int .i64 X] 26)) := (Below.refl _ _).alloc (Nat.le_refl _) _
    go_enter Try.func17, Try.ntmps17
    go_wp2_with fail
    refine (run_invalid S T X _ hv).mono ?_
    rintro e w1 ⟨rfl, hb⟩
    have b1 := below_then b0 (Nat.le_refl _) hb
    clear b0 hb
    go_wp2
    go_ret2
    exact ⟨rfl, b1⟩
theorem srun_valid (S T X : Int) (b : Bool) (w : World) (h : regB S T X = b) :
    Calls Try.prog 51 #[.agg #[.int .i64 S, .int .i64 T, .int .i64 X]] w fun e w' => e = .returned (.bool b) ∧ Below w.heap.size w w' := by
  rw [← h]; exact sRegisterValid_any _ _ _ w
set_option maxRecDepth 100000 in
theorem sRun_any (S T X N : Int) (w : World) :
    Calls Try.prog 15 #[.agg #[.int .i64 S, .int .i64 T, .int .i64 X], .int .i64 N] w fun e w' => e = .returned (.tuple #[.string (runAns S T X N).1, .bool (runAns S T X N).2]) ∧ Below w.heap.size w w' := by
  have b0 : Below w.heap.size w (w.alloc (.cells #[.int .i64 S, .int .i64 T, .int .i64 X] 26)) := (Below.refl _ _).alloc (Nat.le_refl _) _
  have r0 := RegAt.new w 26 S T X
  cases hv : regB S T X with
  | true =>
    by_cases hN : 0 ≤ N ∧ N ≤ 600
    · obtain ⟨s, t, x, rfl, rfl, rfl, hR⟩ := RegN.of hv
      obtain ⟨n, rfl⟩ : ∃ n : Nat, N = n := ⟨N.toNat, by omega⟩
      rw [runAns_yes hR (by omega)]
      have HV := Lib.hid (fun w => srun_valid s t x true w hv)
      have HL := Lib.hid (fun w => l1Run_any s t x n w hR (by omega))
      obtain ⟨Z, hZ⟩ : ∃ Z, runS s t x n = Z := ⟨_, rfl⟩
      rw [hZ] at HL ⊢
      clear hZ hv
      go_enter Try.func15, Try.ntmps15
      go_wp2_with fail
      refine (HV.out _).mono ?_
      rintro e w1 ⟨rfl, hb⟩
      have b1 := below_then b0 (Nat.le_refl _) hb
      obtain ⟨c0, c1, c2, cl⟩ := r0.below hb (by simp)
      clear b0 hb r0
      go_wp2_with fail
      refine (l1In_yes _ 0 600 _ hN.1 hN.2).mono ?_
      rintro e w' ⟨rfl, rfl⟩
      go_wp2_with fail
      refine (HL.out _).mono ?_
      rintro e w2 ⟨rfl, hb⟩
      have b2 := below_then b1 (Nat.le_refl _) hb
      clear b1 hb c0 c1 c2 cl
      go_wp2
      go_ret2
      exact ⟨rfl, b2⟩
    · rw [runAns_no (fun h => hN h.2)]
      have HV := Lib.hid (fun w => srun_valid S T X true w hv)
      clear hv
      go_enter Try.func15, Try.ntmps15
      go_wp2_with fail
      refine (HV.out _).mono ?_
      rintro e w1 ⟨rfl, hb⟩
      have b1 := below_then b0 (Nat.le_refl _) hb
      clear b0 hb r0
      go_wp2_with fail
      refine (l1In_no _ 0 600 _ hN).mono ?_
      rintro e w' ⟨rfl, rfl⟩
      go_wp2
      go_ret2
      exact ⟨rfl, b1⟩
  | false =>
    rw [runAns_no (by rw [hv]; simp)]
    have HV := Lib.hid (fun w => srun_valid S T X false w hv)
    clear hv
    go_enter Try.func15, Try.ntmps15
    go_wp2_with fail
    refine (HV.out _).mono ?_
    rintro e w1 ⟨rfl, hb⟩
    have b1 := below_then b0 (Nat.le_refl _) hb
    clear b0 hb r0
    go_wp2
    go_ret2
    exact ⟨rfl, b1⟩
set_option maxRecDepth 100000 in
theorem fnExactRunRegister_walk (S T X K : Int) (w : World) (_ : (Lit.int .i64 S).wf = true) (_ : (Lit.int .i64 T).wf = true) (_ : (Lit.int .i64 X).wf = true) (_ : (Lit.int .i64 K).wf = true) :
    Calls Try.prog 3 #[.agg #[.int .i64 S, .int .i64 T, .int .i64 X], .int .i64 K] w fun e w' => e = .returned (.bool true) ∧ Below w.heap.size w w' := by
  have hs := fun w => sRun_any S T X K w
  have hi := fun w => iRun_any S T X K w
  obtain ⟨Z, hZ⟩ : ∃ Z, (runAns S T X K).1 = Z := ⟨_, rfl⟩
  obtain ⟨ok, hok⟩ : ∃ ok, (runAns S T X K).2 = ok := ⟨_, rfl⟩
  rw [hZ, hok] at hs hi
  clear hZ hok
  have HS := Lib.hid hs
  have HI := Lib.hid hi
  clear hs hi
  have r0 := RegAt.new w 23 S T X
  have b0 : Below w.heap.size w (w.alloc (.cells #[.int .i64 S, .int .i64 T, .int .i64 X] 23)) := (Below.refl _ _).alloc (Nat.le_refl _) _
  go_enter Try.func3, Try.ntmps3
  go_wp2_with fail
  refine (toRegister_any S T X _).mono ?_
  rintro e w1 ⟨rfl, hb1⟩
  have r1 := r0.below hb1 (by simp)
  have b1 := below_then b0 (Nat.le_refl _) hb1
  clear hb1 b0 r0
  go_wp2_with fail
  refine (HS.out _).mono ?_
  rintro e w2 ⟨rfl, hb2⟩
  have r2 := r1.below hb2 r1.2.2.2
  have b2 := below_then b1 (Nat.le_refl _) hb2
  clear hb2 r1 b1
  obtain ⟨c0, c1, c2, cl⟩ := id r2
  go_wp2_with fail
  clear c0 c1 c2 cl
  refine (toRegister_any S T X _).mono ?_
  rintro e w3 ⟨rfl, hb3⟩
  have b3 := below_then b2 (Nat.le_refl _) hb3
  clear hb3 b2 r2
  go_wp2_with fail
  refine (HI.out _).mono ?_
  rintro e w4 ⟨rfl, hb4⟩
  have b4 := below_then b3 (Nat.le_refl _) hb4
  clear hb4 b3
  cases ok
  all_goals
    go_wp2
    go_ret
    exact ⟨rfl, b4⟩
end Go.Proofs.Ytcofaceadobdiaa
