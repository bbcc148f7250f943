/- The walk of the law FnChips. -/
import Derived.Test.YtlcnlhephhbhcaaDrawSig
import Derived.Test.YtlcnlhephhbhcaaSeqAlg3
import Derived.Test.YtlcnlhephhbhcaaSigMath
namespace Go.Proofs.Ytlcnlhephhbhcaa
open Go.RowKit
set_option linter.unusedVariables false
set_option maxHeartbeats 1600000 in
set_option maxRecDepth 100000 in
theorem fnChips_walk (a0 : Option Addr) (len0 cap0 : Nat) (z0 : List Int) (w : World) (w0 : IsBytes w a0 len0 cap0 z0) :
    Calls Try.prog 7 #[.slice a0 len0 cap0] w fun e w' => e = .returned (.bool true) ∧ Below w.heap.size w w' := by
  by_cases hl0 : 1048576 < len0
  · go_enter Try.func7, Try.ntmps7
    go_wp2
    go_ret
    exact ⟨rfl, Below.refl _ _⟩
  go_enter Try.func7, Try.ntmps7
  go_wp2_with fail
  refine (drawChips_any a0 len0 cap0 z0 _ w0).mono ?_
  rintro e W1 ⟨z, rfl, hz, bc⟩
  clear w0
  have hi := fun w => iChipsOf_any z w (by omega)
  have hs := fun w => sChipsOf_any z w (by omega)
  have hn := chN_le6 z
  cases hv : bitsB z with
  | false =>
    rw [hv] at hi hs
    obtain ⟨n, hN⟩ : ∃ n, chN z = n := ⟨_, rfl⟩
    rw [hN] at hi hs hn
    have HI := Lib.hid hi
    have HS := Lib.hid hs
    clear hi hs hv hN
    go_wp2_with fail
    refine (HI.out _).mono ?_
    rintro e w101 ⟨v1, rfl, O103, hb102⟩
    have b104 := below_then bc (Nat.le_refl _) hb102
    clear bc
    have bc := b104
    clear b104 hb102
    go_wp2_with fail
    refine (HS.out _).mono ?_
    rintro e w105 ⟨v2, rfl, O107, hb106⟩
    have O108 := O103.below hb106
    clear O103
    have b109 := below_then bc (Nat.le_refl _) hb106
    clear bc
    have bc := b109
    clear b109 hb106
    go_wp2_with fail
    refine (ssInts_same v1 v2 _ _ n _ _ O108 O107 (by omega)).mono ?_
    rintro e w' ⟨rfl, m110, rfl⟩
    have O112 := O108.drewN m110
    clear O108
    have O113 := O107.drewN m110
    clear O107
    have bd := below_drewN bc m110
    clear bc
    have bc := bd
    clear bd
    obtain ⟨w111, hW⟩ : ∃ W, w105.drewN m110 = W := ⟨_, rfl⟩
    rw [hW] at O112 O113 bc ⊢
    clear hW
    go_wp2_with fail
    refine (ssInts_same v1 v2 _ _ n _ _ O112 O113 (by omega)).mono ?_
    rintro e w' ⟨rfl, m114, rfl⟩
    have O116 := O112.drewN m114
    clear O112
    have O117 := O113.drewN m114
    clear O113
    have bd := below_drewN bc m114
    clear bc
    have bc := bd
    clear bd
    obtain ⟨w115, hW⟩ : ∃ W, w111.drewN m114 = W := ⟨_, rfl⟩
    rw [hW] at O116 O117 bc ⊢
    clear hW
    go_wp2
    go_ret
    exact ⟨rfl, bc⟩
  | true =>
    rw [hv] at hi hs
    obtain ⟨o1, o2⟩ := (bits_iff z).1 hv
    rw [show chN z = z.size by unfold chN; rw [hv]; rfl] at hi hs hn
    have hsg : sigB z.size (chF z) = true := (sigB_iff _ _).2 ⟨allM_of fun i hi => by rcases chF_bd o1 hi with e | e <;> rw [e] <;> decide, by omega⟩
    have hg := fun v w h => iSignsOf_any v z.size (chF z) w h (by omega)
    rw [show sgAns z.size (chF z) = (z, true) by unfold sgAns; rw [hsg, decide_eq_true o2, sg_back z o1]; rfl] at hg
    have he := fun v w h => iEnergy_any v z.size (chF z) w h (by omega)
    rw [show enAns z.size (chF z) = (z.size : Int) by unfold enAns; rw [hsg]; exact en_chips z o1] at he
    have hvv := fun v w h => iSig_any v z.size (chF z) w h (by omega)
    rw [hsg] at hvv
    have HI := Lib.hid hi
    have HS := Lib.hid hs
    have HG := Lib.hid hg
    have HE := Lib.hid he
    have HV := Lib.hid hvv
    clear hi hs hg he hvv hsg hv o1
    go_wp2_with fail
    refine (HI.out _).mono ?_
    rintro e w101 ⟨v1, rfl, O103, hb102⟩
    have b104 := below_then bc (Nat.le_refl _) hb102
    clear bc
    have bc := b104
    clear b104 hb102
    go_wp2_with fail
    refine (HS.out _).mono ?_
    rintro e w105 ⟨v2, rfl, O107, hb106⟩
    have O108 := O103.below hb106
    clear O103
    have b109 := below_then bc (Nat.le_refl _) hb106
    clear bc
    have bc := b109
    clear b109 hb106
    go_wp2_with fail
    refine (ssInts_same v1 v2 _ _ z.size _ _ O108 O107 (by omega)).mono ?_
    rintro e w' ⟨rfl, m110, rfl⟩
    have O112 := O108.drewN m110
    clear O108
    have O113 := O107.drewN m110
    clear O107
    have bd := below_drewN bc m110
    clear bc
    have bc := bd
    clear bd
    obtain ⟨w111, hW⟩ : ∃ W, w105.drewN m110 = W := ⟨_, rfl⟩
    rw [hW] at O112 O113 bc ⊢
    clear hW
    go_wp2_with fail
    refine (HG.out _ _ O112.ints).mono ?_
    rintro e w114 ⟨rfl, hb115⟩
    have O116 := O112.below hb115
    clear O112
    have O117 := O113.below hb115
    clear O113
    have b118 := below_then bc (Nat.le_refl _) hb115
    clear bc
    have bc := b118
    clear b118 hb115
    go_wp2_with fail
    refine (HE.out _ _ O116.ints).mono ?_
    rintro e w119 ⟨rfl, hb120⟩
    have O121 := O116.below hb120
    clear O116
    have O122 := O117.below hb120
    clear O117
    have b123 := below_then bc (Nat.le_refl _) hb120
    clear bc
    have bc := b123
    clear b123 hb120
    go_wp2_with fail
    refine (HV.out _ _ O121.ints).mono ?_
    rintro e w' ⟨rfl, rfl⟩
    go_wp2
    go_ret
    exact ⟨rfl, bc⟩
end Go.Proofs.Ytlcnlhephhbhcaa
