/- MaximalSequence, IsPreferred of both sides, and the walks of their exact laws. -/
import Derived.Test.YtcofaceadobdiaaRunBoth
import Derived.Test.YtcofaceadobdiaaRegMax
import Derived.Test.YtcofaceadobdiaaSeqVals
import Derived.Test.YtcofaceadobdiaaGold
namespace Go.Proofs.Ytcofaceadobdiaa
open Go.RowKit
set_option linter.unusedVariables false
/-- Which registers are maximal: both sides agree, whatever it is. -/
def MaxIs (M : Int → Int → Bool) : Prop := ∀ S T, (M S T = true → tapsB S T = true) ∧
  (∀ w, Calls Try.prog 72 #[.int .i64 S, .int .i64 T] w fun e w' => e = .returned (.bool (M S T)) ∧ Below w.heap.size w w') ∧
  (∀ w, Calls Try.prog 74 #[.int .i64 S, .int .i64 T] w fun e w' => e = .returned (.bool (M S T)) ∧ Below w.heap.size w w')
theorem maxIs : ∃ M, MaxIs M := by
  have h : ∀ p : Int × Int, ∃ B : Bool, (B = true → tapsB p.1 p.2 = true) ∧
      (∀ w, Calls Try.prog 72 #[.int .i64 p.1, .int .i64 p.2] w fun e w' => e = .returned (.bool B) ∧ Below w.heap.size w w') ∧
      (∀ w, Calls Try.prog 74 #[.int .i64 p.1, .int .i64 p.2] w fun e w' => e = .returned (.bool B) ∧ Below w.heap.size w w') := fun p => bothIsMaximal p.1 p.2
  obtain ⟨f, hf⟩ := Classical.axiomOfChoice h
  exact ⟨fun S T => f (S, T), fun S T => hf (S, T)⟩
/-- A period of a maximal register. -/
def perS (S T : Int) : ByteArray := runS S.toNat T.toNat 1 (tw S.toNat - 1)
def mseqAns (M : Int → Int → Bool) (S T : Int) : ByteArray × Bool := if M S T then (perS S T, true) else noS
theorem regN_one {s t : Nat} (h : tapsB s t = true) : RegN s t 1 := by
  obtain ⟨h1, h2, h3, h4⟩ := (tapsB_iff s t).1 h
  simp only [Int.toNat_natCast] at h4
  have := tw_four s (by omega)
  exact ⟨by omega, by omega, by omega, by omega, by omega⟩
theorem taps_nat {S T : Int} (h : tapsB S T = true) : ∃ s t : Nat, S = s ∧ T = t ∧ 2 ≤ s ∧ s ≤ 8 ∧ RegN s t 1 := by
  obtain ⟨h1, h2, h3, h4⟩ := (tapsB_iff S T).1 h
  obtain ⟨s, rfl⟩ : ∃ s : Nat, S = s := ⟨S.toNat, by omega⟩
  obtain ⟨t, rfl⟩ : ∃ t : Nat, T = t := ⟨T.toNat, by omega⟩
  exact ⟨s, t, rfl, rfl, by omega, by omega, regN_one h⟩
set_option maxRecDepth 100000 in
theorem l3Sequence_any (S T : Int) (w : World) (h : tapsB S T = true) :
    Calls Try.prog 73 #[.int .i64 S, .int .i64 T] w fun e w' => e = .returned (.string (perS S T)) ∧ Below w.heap.size w w' := by
  obtain ⟨s, t, rfl, rfl, h2, h8, hR⟩ := taps_nat h
  have hp := tw_four s h2
  have hl := tw_le s h8
  have h2' := fun w => l1Two_any s w h8
  have hL := fun w => l1Run_any s t 1 (tw s - 1) w hR (by omega)
  unfold perS
  simp only [Int.toNat_natCast]
  obtain ⟨Z, hZ⟩ : ∃ Z, runS s t 1 (tw s - 1) = Z := ⟨_, rfl⟩
  rw [hZ] at hL ⊢
  obtain ⟨A, hA⟩ : ∃ A, tw s = A + 1 := ⟨tw s - 1, by omega⟩
  rw [hA] at h2' hL hp hl
  rw [show A + 1 - 1 = A by omega] at hL
  have e1 : (((A + 1 : Nat) : Nat) : Int) - 1 = (A : Int) := by omega
  have HT := Lib.hid h2'
  have HL := Lib.hid hL
  clear hZ hA h h2' hL
  go_enter Try.func73, Try.ntmps73
  go_wp2_with fail
  refine (HT.out _).mono ?_
  rintro e w' ⟨rfl, rfl⟩
  go_wp2_with fail
  refine (HL.out _).mono ?_
  rintro e w1 ⟨rfl, hb⟩
  clear e1
  go_wp2
  go_ret
  exact ⟨rfl, hb⟩
set_option maxRecDepth 100000 in
theorem sMaxSeq_any (M : Int → Int → Bool) (hM : MaxIs M) (S T : Int) (w : World) :
    Calls Try.prog 28 #[.int .i64 S, .int .i64 T] w fun e w' => e = .returned (.tuple #[.string (mseqAns M S T).1, .bool (mseqAns M S T).2]) ∧ Below w.heap.size w w' := by
  obtain ⟨hv, hs, _⟩ := hM S T
  unfold mseqAns
  cases hm : M S T with
  | true =>
    rw [hm] at hs
    have HL := Lib.hid (fun w => l3Sequence_any S T w (hv hm))
    have HS := Lib.hid hs
    clear hv hs hm
    go_enter Try.func28, Try.ntmps28
    go_wp2_with fail
    refine (HS.out _).mono ?_
    rintro e w1 ⟨rfl, hb⟩
    go_wp2_with fail
    refine (HL.out _).mono ?_
    rintro e w2 ⟨rfl, hb2⟩
    have b2 := below_then hb (Nat.le_refl _) hb2
    clear hb hb2
    go_wp2
    go_ret2
    exact ⟨rfl, b2⟩
  | false =>
    rw [hm] at hs
    have HS := Lib.hid hs
    clear hv hs hm
    go_enter Try.func28, Try.ntmps28
    go_wp2_with fail
    refine (HS.out _).mono ?_
    rintro e w1 ⟨rfl, hb⟩
    go_wp2
    go_ret2
    exact ⟨rfl, hb⟩
set_option maxRecDepth 100000 in
theorem iMaxSeq_any (M : Int → Int → Bool) (hM : MaxIs M) (S T : Int) (w : World) :
    Calls Try.prog 29 #[.int .i64 S, .int .i64 T] w fun e w' => e = .returned (.tuple #[.string (mseqAns M S T).1, .bool (mseqAns M S T).2]) ∧ Below w.heap.size w w' := by
  obtain ⟨hv, _, hi⟩ := hM S T
  unfold mseqAns
  cases hm : M S T with
  | true =>
    rw [hm] at hi
    obtain ⟨s, t, rfl, rfl, h2, h8, hR⟩ := taps_nat (hv hm)
    have hp := tw_four s h2
    have hl := tw_le s h8
    have hL := fun w => iRun_yes s t 1 (tw s - 1) w hR (by omega)
    have hw := wrap_tw s h8
    unfold perS
    simp only [Int.toNat_natCast]
    obtain ⟨Z, hZ⟩ : ∃ Z, runS s t 1 (tw s - 1) = Z := ⟨_, rfl⟩
    rw [hZ] at hL ⊢
    obtain ⟨A, hA⟩ : ∃ A, tw s = A + 1 := ⟨tw s - 1, by omega⟩
    rw [hA] at hL hp hl hw
    rw [show A + 1 - 1 = A by omega] at hL
    have e1 : (((A + 1 : Nat) : Nat) : Int) - 1 = (A : Int) := by omega
    have HI := Lib.hid hi
    have HL := Lib.hid hL
    clear hZ hA hi hL hv hm
    go_enter Try.func29, Try.ntmps29
    go_wp2_with fail
    refine (HI.out _).mono ?_
    rintro e w1 ⟨rfl, hb⟩
    go_wp2_with fail
    refine (HL.out _).mono ?_
    rintro e w2 ⟨rfl, hb2⟩
    have b2 := below_then hb (Nat.le_refl _) hb2
    clear hb hb2 e1 hw
    go_wp2
    go_ret2
    exact ⟨rfl, b2⟩
  | false =>
    rw [hm] at hi
    have HI := Lib.hid hi
    clear hv hi hm
    go_enter Try.func29, Try.ntmps29
    go_wp2_with fail
    refine (HI.out _).mono ?_
    rintro e w1 ⟨rfl, hb⟩
    go_wp2
    go_ret2
    exact ⟨rfl, hb⟩
set_option maxRecDepth 100000 in
theorem fnExactMaximalSequence_walk (S T : Int) (w : World) (_ : (Lit.int .i64 S).wf = true) (_ : (Lit.int .i64 T).wf = true) :
    Calls Try.prog 7 #[.int .i64 S, .int .i64 T] w fun e w' => e = .returned (.bool true) ∧ Below w.heap.size w w' := by
  obtain ⟨M, hM⟩ := maxIs
  have hs := fun w => sMaxSeq_any M hM S T w
  have hi := fun w => iMaxSeq_any M hM S T w
  obtain ⟨X, hX⟩ : ∃ X, (mseqAns M S T).1 = X := ⟨_, rfl⟩
  obtain ⟨ok, hok⟩ : ∃ ok, (mseqAns M S T).2 = ok := ⟨_, rfl⟩
  rw [hX, hok] at hs hi
  clear hX hok
  have HS := Lib.hid hs
  have HI := Lib.hid hi
  clear hs hi
  go_enter Try.func7, Try.ntmps7
  go_wp2_with fail
  refine (HS.out _).mono ?_
  rintro e w1 ⟨rfl, b1⟩
  go_wp2_with fail
  refine (HI.out _).mono ?_
  rintro e w2 ⟨rfl, b2'⟩
  have b2 := below_then b1 (Nat.le_refl _) b2'
  clear b1 b2'
  cases ok
  all_goals
    go_wp2
    go_ret
    exact ⟨rfl, b2⟩
end Go.Proofs.Ytcofaceadobdiaa
