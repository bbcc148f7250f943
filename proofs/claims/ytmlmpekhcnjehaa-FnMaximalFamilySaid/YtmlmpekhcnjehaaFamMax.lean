/- MaximalSequence, IsPreferred of both sides, and the walks of their exact laws. -/
import Derived.Test.YtmlmpekhcnjehaaRunBoth
import Derived.Test.YtmlmpekhcnjehaaGoldS
import Derived.Test.YtmlmpekhcnjehaaRegMax
import Derived.Test.YtmlmpekhcnjehaaSeqVals
import Derived.Test.YtmlmpekhcnjehaaGold
namespace Go.Proofs.Ytmlmpekhcnjehaa
open Go.RowKit
set_option linter.unusedVariables false
/-- Which registers are maximal: both sides agree, whatever it is. -/
def MaxIs (M : Int → Int → Bool) : Prop := ∀ S T, (M S T = true → tapsB S T = true) ∧
  (∀ w, Calls Try.prog 34 #[.int .i64 S, .int .i64 T] w fun e w' => e = .returned (.bool (M S T)) ∧ Below w.heap.size w w') ∧
  (∀ w, Calls Try.prog 17 #[.int .i64 S, .int .i64 T] w fun e w' => e = .returned (.bool (M S T)) ∧ Below w.heap.size w w')
theorem maxIs : ∃ M, MaxIs M := by
  have h : ∀ p : Int × Int, ∃ B : Bool, (B = true → tapsB p.1 p.2 = true) ∧
      (∀ w, Calls Try.prog 34 #[.int .i64 p.1, .int .i64 p.2] w fun e w' => e = .returned (.bool B) ∧ Below w.heap.size w w') ∧
      (∀ w, Calls Try.prog 17 #[.int .i64 p.1, .int .i64 p.2] w fun e w' => e = .returned (.bool B) ∧ Below w.heap.size w w') := fun p => bothIsMaximal p.1 p.2
  obtain ⟨f, hf⟩ := Classical.axiomOfChoice h
  exact ⟨fun S T => f (S, T), fun S T => hf (S, T)⟩
def mseqAns (M : Int → Int → Bool) (S T : Int) : ByteArray × Bool := if M S T then (perS S T, true) else noS
set_option maxRecDepth 100000 in
theorem sMaxSeq_any (M : Int → Int → Bool) (hM : MaxIs M) (S T : Int) (w : World) :
    Calls Try.prog 16 #[.int .i64 S, .int .i64 T] w fun e w' => e = .returned (.tuple #[.string (mseqAns M S T).1, .bool (mseqAns M S T).2]) ∧ Below w.heap.size w w' := by
  obtain ⟨hv, hs, _⟩ := hM S T
  unfold mseqAns
  cases hm : M S T with
  | true =>
    rw [hm] at hs
    have HL := Lib.hid (fun w => l3Sequence_any S T w (hv hm))
    have HS := Lib.hid hs
    clear hv hs hm
    go_enter Try.func16, Try.ntmps16
    go_wp2_with fail
    refine (HS.out _).mono ?_
    rintro e w1 ⟨rfl, hb⟩
    go_wp2_with fail
    refine (HL.out _).mono ?_
    rintro e w2 ⟨rfl, hb2⟩
    have b2 := below_then hb (Nat.le_refl _) hb2
    clear hb hb2
    go_wp2
    go_ret2
    exact ⟨rfl, b2⟩
  | false =>
    rw [hm] at hs
    have HS := Lib.hid hs
    clear hv hs hm
    go_enter Try.func16, Try.ntmps16
    go_wp2_with fail
    refine (HS.out _).mono ?_
    rintro e w1 ⟨rfl, hb⟩
    go_wp2
    go_ret2
    exact ⟨rfl, hb⟩
set_option maxRecDepth 100000 in
theorem iMaxSeq_any (M : Int → Int → Bool) (hM : MaxIs M) (S T : Int) (w : World) :
    Calls Try.prog 15 #[.int .i64 S, .int .i64 T] w fun e w' => e = .returned (.tuple #[.string (mseqAns M S T).1, .bool (mseqAns M S T).2]) ∧ Below w.heap.size w w' := by
  obtain ⟨hv, _, hi⟩ := hM S T
  unfold mseqAns
  cases hm : M S T with
  | true =>
    rw [hm] at hi
    obtain ⟨s, t, rfl, rfl, h2, h8, hR⟩ := taps_nat (hv hm)
    have hp := tw_four s h2
    have hl := tw_le s h8
    have hL := fun w => iRun_yes s t 1 (tw s - 1) w hR (by omega)
    have hw := wrap_tw s h8
    unfold perS
    simp only [Int.toNat_natCast]
    obtain ⟨Z, hZ⟩ : ∃ Z, runS s t 1 (tw s - 1) = Z := ⟨_, rfl⟩
    rw [hZ] at hL ⊢
    obtain ⟨A, hA⟩ : ∃ A, tw s = A + 1 := ⟨tw s - 1, by omega⟩
    rw [hA] at hL hp hl hw
    rw [show A + 1 - 1 = A by omega] at hL
    have e1 : (((A + 1 : Nat) : Nat) : Int) - 1 = (A : Int) := by omega
    have HI := Lib.hid hi
    have HL := Lib.hid hL
    clear hZ hA hi hL hv hm
    go_enter Try.func15, Try.ntmps15
    go_wp2_with fail
    refine (HI.out _).mono ?_
    rintro e w1 ⟨rfl, hb⟩
    go_wp2_with fail
    refine (HL.out _).mono ?_
    rintro e w2 ⟨rfl, hb2⟩
    have b2 := below_then hb (Nat.le_refl _) hb2
    clear hb hb2 e1 hw
    go_wp2
    go_ret2
    exact ⟨rfl, b2⟩
  | false =>
    rw [hm] at hi
    have HI := Lib.hid hi
    clear hv hi hm
    go_enter Try.func15, Try.ntmps15
    go_wp2_with fail
    refine (HI.out _).mono ?_
    rintro e w1 ⟨rfl, hb⟩
    go_wp2
    go_ret2
    exact ⟨rfl, hb⟩
end Go.Proofs.Ytmlmpekhcnjehaa
