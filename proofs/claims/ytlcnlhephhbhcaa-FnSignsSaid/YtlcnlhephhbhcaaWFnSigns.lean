/- The walk of the law FnSigns. -/
import Derived.Test.YtlcnlhephhbhcaaDrawSig2
import Derived.Test.YtlcnlhephhbhcaaSeqAlg3
import Derived.Test.YtlcnlhephhbhcaaSigMath
namespace Go.Proofs.Ytlcnlhephhbhcaa
open Go.RowKit
set_option linter.unusedVariables false
set_option maxHeartbeats 1600000 in
set_option maxRecDepth 100000 in
theorem fnSigns_walk (a0 : Option Addr) (len0 cap0 : Nat) (z0 : List Int) (a1 : Option Addr) (len1 cap1 : Nat) (z1 : List Int) (w : World) (w0 : IsBytes w a0 len0 cap0 z0) (w1 : IsBytes w a1 len1 cap1 z1) :
    Calls Try.prog 8 #[.slice a0 len0 cap0, .slice a1 len1 cap1] w fun e w' => e = .returned (.bool true) ∧ Below w.heap.size w w' := by
  by_cases hl0 : 1048576 < len0
  · go_enter Try.func8, Try.ntmps8
    go_wp2
    go_ret
    exact ⟨rfl, Below.refl _ _⟩
  by_cases hl1 : 1048576 < len1
  · go_enter Try.func8, Try.ntmps8
    go_wp2
    go_ret
    exact ⟨rfl, Below.refl _ _⟩
  clear w1
  go_enter Try.func8, Try.ntmps8
  go_wp2_with fail
  refine (drawSigns_any a0 len0 cap0 z0 _ w0).mono ?_
  rintro e W1 ⟨v, n, f, rfl, O0, hn, hf, bc⟩
  clear w0
  obtain ⟨sa, sc, rfl, -⟩ := O0.form
  clear hf
  have hi := fun w h => iSignsOf_any (.slice sa n sc) n f w h (by omega)
  have hs := fun w h => sSignsOf_any (.slice sa n sc) n f w h (by omega)
  by_cases hv : sigB n f = true ∧ n ≤ 600
  rotate_left
  · skip
    rw [show sgAns n f = noS by unfold sgAns; rw [if_neg]; intro h; simp only [Bool.and_eq_true, decide_eq_true_eq] at h; exact hv h] at hi hs
    clear hv
    have HI := Lib.hid hi
    have HS := Lib.hid hs
    clear hi hs
    go_wp2_with fail
    refine (HI.out _ O0.ints).mono ?_
    rintro e w101 ⟨rfl, hb102⟩
    have O103 := O0.below hb102
    clear O0
    have b104 := below_then bc (Nat.le_refl _) hb102
    clear bc
    have bc := b104
    clear b104 hb102
    go_wp2_with fail
    refine (HS.out _ O103.ints).mono ?_
    rintro e w105 ⟨rfl, hb106⟩
    have O107 := O103.below hb106
    clear O103
    have b108 := below_then bc (Nat.le_refl _) hb106
    clear bc
    have bc := b108
    clear b108 hb106
    go_wp2
    go_ret
    exact ⟨rfl, bc⟩
  · obtain ⟨h1, h2⟩ := hv
    rw [show sgAns n f = (sgS n f, true) by unfold sgAns; rw [h1, decide_eq_true h2]; rfl] at hi hs
    obtain ⟨g, hg⟩ : ∃ g : Nat, len1 % 9 = g := ⟨_, rfl⟩
    have hgg : (len1 : Int) % 9 = (g : Int) := by omega
    have hglt : g < 9 := by omega
    clear hg
    obtain ⟨l, hl⟩ : ∃ l : Nat, len1 % 5 = l := ⟨_, rfl⟩
    have hll : (len1 : Int) % 5 = (l : Int) := by omega
    have hllt : l < 5 := by omega
    clear hl
    have ic : inL (1 + (l : Int)) = true := (inL_iff _).2 ⟨by omega, by omega⟩
    have hsc := fun w h => iScale_any (.slice sa n sc) n f (1 + (g : Int)) w h (by omega)
    have hcl := fun w h => iClip_any (.slice sa n sc) n f (1 + (l : Int)) w h (by omega)
    rw [(cl_in h1 ic).1, (cl_in h1 ic).2] at hcl
    have hsy := fun u w h => iSignsOf_any u n (clF (1 + (l : Int)) f) w h (by omega)
    rw [show sgAns n (clF (1 + (l : Int)) f) = (sgS n f, true) by unfold sgAns; rw [cl_sig h1 (by omega) (by omega), decide_eq_true h2, sg_clip n f _ (by omega)]; rfl] at hsy
    have hxs := sgS_size n f
    have hax : ∃ A : ByteArray × Bool, ∃ t : Bool, (t = true → A = (sgS n f, true)) ∧ scOK n f (1 + (g : Int)) = t ∧ sgAns (scN n f (1 + (g : Int))) (scF (1 + (g : Int)) f) = A := by
      cases hk : scOK n f (1 + (g : Int)) with
      | false => exact ⟨_, false, fun h => absurd h (by decide), rfl, rfl⟩
      | true =>
        refine ⟨_, true, fun _ => ?_, rfl, rfl⟩
        have e : scN n f (1 + (g : Int)) = n := by unfold scN; rw [hk]; rfl
        rw [e]
        unfold scOK at hk
        simp only [Bool.and_eq_true] at hk
        unfold sgAns
        rw [hk.2.2, decide_eq_true h2, sg_scale n f _ (by omega)]; rfl
    have hsx := fun u w h => iSignsOf_any u (scN n f (1 + (g : Int))) (scF (1 + (g : Int)) f) w h (by have := scN_le6 n f (1 + (g : Int)); omega)
    obtain ⟨⟨y, s⟩, t, hA, hT, hY⟩ := hax
    rw [hT] at hsc
    rw [hY] at hsx
    clear hT hY
    obtain ⟨x, hx⟩ : ∃ x, sgS n f = x := ⟨_, rfl⟩
    rw [hx] at hi hs hsy hxs hA
    clear hx h1 ic
    have HI := Lib.hid hi
    have HS := Lib.hid hs
    have HSC := Lib.hid hsc
    have HCL := Lib.hid hcl
    have HSY := Lib.hid hsy
    have HSX := Lib.hid hsx
    clear hi hs hsc hcl hsy hsx
    have key : t = false ∨ (t = true ∧ y = x ∧ s = true) := by
      cases t
      · exact .inl rfl
      · have := hA rfl; injection this with e1 e2; exact .inr ⟨rfl, e1, e2⟩
    clear hA
    rcases key with rfl | ⟨rfl, rfl, rfl⟩
    all_goals
      go_wp2_with fail
      refine (HI.out _ O0.ints).mono ?_
      rintro e w101 ⟨rfl, hb102⟩
      have O103 := O0.below hb102
      clear O0
      have b104 := below_then bc (Nat.le_refl _) hb102
      clear bc
      have bc := b104
      clear b104 hb102
      go_wp2_with fail
      refine (HS.out _ O103.ints).mono ?_
      rintro e w105 ⟨rfl, hb106⟩
      have O107 := O103.below hb106
      clear O103
      have b108 := below_then bc (Nat.le_refl _) hb106
      clear bc
      have bc := b108
      clear b108 hb106
      go_wp2_with fail
      refine (HSC.out _ O107.ints).mono ?_
      rintro e w109 ⟨v1, rfl, O111, hb110⟩
      have O112 := O107.below hb110
      clear O107
      have b113 := below_then bc (Nat.le_refl _) hb110
      clear bc
      have bc := b113
      clear b113 hb110
      go_wp2_with fail
      refine (HCL.out _ O112.ints).mono ?_
      rintro e w114 ⟨v2, rfl, O116, hb115⟩
      have O117 := O112.below hb115
      clear O112
      have O118 := O111.below hb115
      clear O111
      have b119 := below_then bc (Nat.le_refl _) hb115
      clear bc
      have bc := b119
      clear b119 hb115
      go_wp2_with fail
      refine (HSX.out _ _ O118.ints).mono ?_
      rintro e w120 ⟨rfl, hb121⟩
      have O122 := O117.below hb121
      clear O117
      have O123 := O118.below hb121
      clear O118
      have O124 := O116.below hb121
      clear O116
      have b125 := below_then bc (Nat.le_refl _) hb121
      clear bc
      have bc := b125
      clear b125 hb121
      go_wp2_with fail
      refine (HSY.out _ _ O124.ints).mono ?_
      rintro e w126 ⟨rfl, hb127⟩
      have O128 := O122.below hb127
      clear O122
      have O129 := O123.below hb127
      clear O123
      have O130 := O124.below hb127
      clear O124
      have b131 := below_then bc (Nat.le_refl _) hb127
      clear bc
      have bc := b131
      clear b131 hb127
      go_wp2
      go_ret
      exact ⟨rfl, bc⟩
end Go.Proofs.Ytlcnlhephhbhcaa
