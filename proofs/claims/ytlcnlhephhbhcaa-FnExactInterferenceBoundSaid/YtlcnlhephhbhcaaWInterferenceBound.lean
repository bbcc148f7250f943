/- The walk of the exact law of InterferenceBound. -/
import Derived.Test.YtlcnlhephhbhcaaIbd3
import Derived.Test.YtlcnlhephhbhcaaUsrFrame
namespace Go.Proofs.Ytlcnlhephhbhcaa
open Go.RowKit
set_option linter.unusedVariables false
set_option maxHeartbeats 1600000 in
set_option maxRecDepth 100000 in
theorem fnExactInterferenceBound_walk (a0 : Option Addr) (len0 cap0 : Nat) (f : Nat → Usr) (k : Int) (w : World) (hin : UsrsIn w a0 len0 cap0 f) (hk : (Lit.int .i64 k).wf = true) :
    Calls Try.prog 6 #[.slice a0 len0 cap0, .int .i64 k] w fun e w' => e = .returned (.bool true) ∧ Below w.heap.size w w' := by
  unfold UsrsIn at hin
  obtain ⟨hr, hl, hs⟩ := hin
  unfold maxLen at hl hs
  have HL := Lib.hid hr
  have HSS := Lib.hid hs
  clear hr hs hk
  have hz := szUserS_any (.slice a0 len0 cap0) len0 f w HL.out (by omega) (fun i hi => by have := HSS.out i hi; omega)
  go_enter Try.func6, Try.ntmps6
  go_wp2_with fail
  refine hz.mono ?_
  rintro e w1 ⟨Z, rfl, hZ, bc⟩
  clear hz HSS
  by_cases z0 : Z < 0
  · clear hZ
    go_wp2
    go_ret
    exact ⟨rfl, bc⟩
  · obtain ⟨hn, hf⟩ := hZ (by omega)
    clear hZ
    have hp := fun v w h => sInt_any v len0 f k w h hn hf
    have hq := fun v w h => iInt_any v len0 f k w h hn hf
    have HT := Lib.hid (fun v w h => toUserS_any v len0 f w h hn)
    have HEQ := Lib.hid (fun v u w h k => eqUserS_same v u len0 f w h k hn)
    obtain ⟨B, hB⟩ : ∃ X, ibAns len0 f k = X := ⟨_, rfl⟩
    rw [hB] at hp hq
    have HP := Lib.hid hp
    have HQ := Lib.hid hq
    clear hp hq hf hB
    go_wp2_with fail
    refine (HT.out _ _ (HL.out.below bc)).mono ?_
    rintro e w2 ⟨t1, rfl, O1, h2⟩
    have b2 := below_then bc (Nat.le_refl _) h2
    clear bc h2
    go_wp2_with fail
    refine (HP.out _ _ O1.users).mono ?_
    rintro e w3 ⟨rfl, h3⟩
    have b3 := below_then b2 (Nat.le_refl _) h3
    clear b2 h3 O1
    go_wp2_with fail
    refine (HT.out _ _ (HL.out.below b3)).mono ?_
    rintro e w4 ⟨x0, rfl, O4, h4⟩
    have b4 := below_then b3 (Nat.le_refl _) h4
    clear b3 h4
    go_wp2_with fail
    refine (HQ.out _ _ O4.users).mono ?_
    rintro e w5 ⟨rfl, h5⟩
    have b5 := below_then b4 (Nat.le_refl _) h5
    have O5 := O4.below h5
    clear b4 h5 O4
    go_wp2_with fail
    refine (HT.out _ _ (HL.out.below b5)).mono ?_
    rintro e w6 ⟨t2, rfl, O6, h6⟩
    have b6 := below_then b5 (Nat.le_refl _) h6
    have O7 := O5.below h6
    clear b5 h6 O5
    go_wp2_with fail
    refine (HEQ.out _ _ _ O7.users O6.users).mono ?_
    rintro e w7 ⟨rfl, h7⟩
    have b7 := below_then b6 (Nat.le_refl _) h7
    clear b6 h7 O6 O7
    go_wp2
    go_ret
    exact ⟨rfl, b7⟩
end Go.Proofs.Ytlcnlhephhbhcaa
