/- The walk of the law FnRemap. -/
import Derived.Test.YtbllmgdnhjdphacDrawHop2
import Derived.Test.YtbllmgdnhjdphacHopLaw
import Derived.Test.YtbllmgdnhjdphacSsHas
namespace Go.Proofs.Ytbllmgdnhjdphac
open Go.RowKit
set_option linter.unusedVariables false
set_option maxHeartbeats 3200000 in
set_option maxRecDepth 100000 in
theorem fnRemap_walk (a0 : Option Addr) (len0 cap0 : Nat) (z0 : List Int) (w : World) (w0 : IsBytes w a0 len0 cap0 z0) :
    Calls Try.prog 6 #[.slice a0 len0 cap0] w fun e w' => e = .returned (.bool true) ∧ Below w.heap.size w w' := by
  by_cases hl0 : 1048576 < len0
  · go_enter Try.func6, Try.ntmps6
    go_wp2
    go_ret
    exact ⟨rfl, Below.refl _ _⟩
  go_enter Try.func6, Try.ntmps6
  go_wp2_with fail
  refine (drawRemap_any a0 len0 cap0 z0 _ w0).mono ?_
  rintro e W1 ⟨v, n, f, C, u, m, g, rfl, O0, hn, hf, hC, U0, hm, hg, bc⟩
  clear w0
  obtain ⟨sa, sc, rfl, -⟩ := O0.form
  obtain ⟨ua, uc, rfl, -⟩ := U0.form
  clear hf hg hC
  have hi := fun w h1 h2 => iRemap_any (.slice sa n sc) n f C (.slice ua m uc) m g w h1 (by omega) h2 (by omega)
  have hs := fun w h1 h2 => sRemap_any (.slice sa n sc) n f C (.slice ua m uc) m g w h1 (by omega) h2 (by omega)
  cases hv : rmB n f C m g with
  | false =>
    rw [hv, rm_no hv] at hi hs
    clear hv
    have HI := Lib.hid hi
    have HS := Lib.hid hs
    clear hi hs
    go_wp2_with fail
    refine (HI.out _ O0.ints U0.ints).mono ?_
    rintro e w101 ⟨v1, rfl, O103, hb102⟩
    have O104 := O0.below hb102
    clear O0
    have O105 := U0.below hb102
    clear U0
    have b106 := below_then bc (Nat.le_refl _) hb102
    clear bc
    have bc := b106
    clear b106 hb102
    go_wp2_with fail
    refine (HS.out _ O104.ints O105.ints).mono ?_
    rintro e w107 ⟨v2, rfl, O109, hb108⟩
    have O110 := O104.below hb108
    clear O104
    have O111 := O105.below hb108
    clear O105
    have O112 := O103.below hb108
    clear O103
    have b113 := below_then bc (Nat.le_refl _) hb108
    clear bc
    have bc := b113
    clear b113 hb108
    go_wp2_with fail
    refine (ssInts_same _ _ _ _ 0 _ _ O112 O109 (by omega)).mono ?_
    rintro e w' ⟨rfl, m114, rfl⟩
    have O116 := O110.drewN m114
    clear O110
    have O117 := O111.drewN m114
    clear O111
    have O118 := O112.drewN m114
    clear O112
    have O119 := O109.drewN m114
    clear O109
    have bd := below_drewN bc m114
    clear bc
    have bc := bd
    clear bd
    obtain ⟨w115, hW⟩ : ∃ W, w107.drewN m114 = W := ⟨_, rfl⟩
    rw [hW] at O116 O117 O118 O119 bc ⊢
    clear hW
    go_wp2_with fail
    refine (ssInts_same _ _ _ _ 0 _ _ O118 O119 (by omega)).mono ?_
    rintro e w' ⟨rfl, m120, rfl⟩
    have O122 := O116.drewN m120
    clear O116
    have O123 := O117.drewN m120
    clear O117
    have O124 := O118.drewN m120
    clear O118
    have O125 := O119.drewN m120
    clear O119
    have bd := below_drewN bc m120
    clear bc
    have bc := bd
    clear bd
    obtain ⟨w121, hW⟩ : ∃ W, w115.drewN m120 = W := ⟨_, rfl⟩
    rw [hW] at O122 O123 O124 O125 bc ⊢
    clear hW
    go_wp2
    go_ret
    exact ⟨rfl, bc⟩
  | true =>
    rw [hv, rmN_yes hv] at hi hs
    obtain ⟨h1, h2, h3, h4, h5⟩ := rm_again hv
    clear hv
    have ha := fun u w h1 h2 => iRemap_any u n (rmF f C m g) C (.slice ua m uc) m g w h1 (by omega) h2 (by omega)
    rw [h1, rmN_yes h1] at ha
    have hj := fun u w h1 h2 => iJm_any u n (rmF f C m g) (.slice ua m uc) m g w h1 (by omega) h2 (by omega)
    rw [h2] at hj
    have hp := fun u w h => iHops_any u n (rmF f C m g) C w h (by omega)
    rw [h3] at hp
    have hh := fun y w h => ssHas_any (.slice ua m uc) m g y w h (by omega)
    obtain ⟨X, hX⟩ : ∃ X, rmF f C m g = X := ⟨_, rfl⟩
    rw [hX] at hi hs ha hj hp h4 h5
    clear hX h1 h2 h3
    have HI := Lib.hid hi
    have HS := Lib.hid hs
    have HA := Lib.hid ha
    have HJ := Lib.hid hj
    have HP := Lib.hid hp
    have HH := Lib.hid hh
    have H4 := Lib.hid h4
    have H5 := Lib.hid h5
    clear hi hs ha hj hp hh h4 h5
    go_wp2_with fail
    refine (HI.out _ O0.ints U0.ints).mono ?_
    rintro e w101 ⟨v1, rfl, O103, hb102⟩
    have O104 := O0.below hb102
    clear O0
    have O105 := U0.below hb102
    clear U0
    have b106 := below_then bc (Nat.le_refl _) hb102
    clear bc
    have bc := b106
    clear b106 hb102
    obtain ⟨sa107, sc107, rfl, -⟩ := O103.form
    go_wp2_with fail
    refine (HS.out _ O104.ints O105.ints).mono ?_
    rintro e w108 ⟨v2, rfl, O110, hb109⟩
    have O111 := O104.below hb109
    clear O104
    have O112 := O105.below hb109
    clear O105
    have O113 := O103.below hb109
    clear O103
    have b114 := below_then bc (Nat.le_refl _) hb109
    clear bc
    have bc := b114
    clear b114 hb109
    go_wp2_with fail
    refine (ssInts_same _ _ _ _ n _ _ O113 O110 (by omega)).mono ?_
    rintro e w' ⟨rfl, m115, rfl⟩
    have O117 := O111.drewN m115
    clear O111
    have O118 := O112.drewN m115
    clear O112
    have O119 := O113.drewN m115
    clear O113
    have O120 := O110.drewN m115
    clear O110
    have bd := below_drewN bc m115
    clear bc
    have bc := bd
    clear bd
    obtain ⟨w116, hW⟩ : ∃ W, w108.drewN m115 = W := ⟨_, rfl⟩
    rw [hW] at O117 O118 O119 O120 bc ⊢
    clear hW
    clear O120
    go_wp2_with fail
    refine (HA.out _ _ O119.ints O118.ints).mono ?_
    rintro e w121 ⟨v3, rfl, O123, hb122⟩
    have O124 := O117.below hb122
    clear O117
    have O125 := O118.below hb122
    clear O118
    have O126 := O119.below hb122
    clear O119
    have b127 := below_then bc (Nat.le_refl _) hb122
    clear bc
    have bc := b127
    clear b127 hb122
    have O3 := O123.congr (g := X) (fun j hj => H5.out j hj)
    clear O123
    go_wp2
    have C1 := Lib.hid O124.ints.cells
    have C2 := Lib.hid O126.ints.cells
    go_loopw [12] (fun i wr => ∃ j : Nat, j ≤ n ∧ i = .int .i64 j ∧ Below w121.heap.size w121 wr) (fun  i _ => n - (intOf i).toNat)
    case atStart => exact ⟨0, Nat.zero_le _, rfl, Below.refl _ _⟩
    case round =>
      obtain ⟨j, hj, rfl, rb⟩ := hrel
      by_cases hlt : j < n
      · skip
        have i0 : (0 : Int) ≤ (j : Int) := by omega
        have i1 : (j : Int) < (n : Int) := by omega
        have O328 := O124.below rb
        clear O124
        have O329 := O125.below rb
        clear O125
        have O330 := O126.below rb
        clear O126
        have O331 := O3.below rb
        clear O3
        obtain ⟨x1, rfl, -, c1⟩ := (O328.ints.cells) j hlt
        obtain ⟨x2, rfl, -, c2⟩ := (O330.ints.cells) j hlt
        have HJ2 := H4.out j
        obtain ⟨y, hy⟩ : ∃ y, f j = y := ⟨_, rfl⟩
        obtain ⟨x, hx⟩ : ∃ y, X j = y := ⟨_, rfl⟩
        rw [hy] at c1
        rw [hx] at c2
        rw [hy, hx] at HJ2
        clear hy hx
        have hq : ∀ r, Calls Try.prog 21 #[(.slice ua m uc), .int .i64 y] (wr.drewN r) fun e w' => e = .returned (.bool (isJ m g y)) ∧ w' = wr.drewN r := fun r => (HH.out y _ (O329.drewN r).ints).mono (fun _ _ h => ⟨h.1, h.2.symm⟩)
        have RB := Lib.hid rb
        clear rb O328 O329 O330 O331
        cases hJ : isJ m g y
        · skip
          rw [hJ] at hq HJ2
          clear hJ
          obtain rfl := HJ2 rfl
          clear HJ2
          have HQ := Lib.hid hq
          clear hq
          go_wp2_with fail
          go_quiet ((go_at_call 21; exact Calls.quiet_of_same (HQ.out _)))
          have b6 := below_drewN RB.out nq
          clear c1 c2
          go_wp2
          go_roundw
          case rel => exact ⟨j + 1, by omega, by go_num, b6⟩
          case measure => simp [intOf]; omega
        · skip
          rw [hJ] at hq HJ2
          clear hJ
          clear HJ2
          have HQ := Lib.hid hq
          clear hq
          go_wp2_with fail
          go_quiet ((go_at_call 21; exact Calls.quiet_of_same (HQ.out _)))
          have b6 := below_drewN RB.out nq
          clear c1 c2
          go_wp2
          go_roundw
          case rel => exact ⟨j + 1, by omega, by go_num, b6⟩
          case measure => simp [intOf]; omega
      · skip
        obtain rfl : n = j := by omega
        have O378 := O124.below rb
        clear O124
        have O379 := O125.below rb
        clear O125
        have O380 := O126.below rb
        clear O126
        have O381 := O3.below rb
        clear O3
        have bd := below_then bc (Nat.le_refl _) rb
        clear bc rb
        have bc := bd
        clear bd
        go_wp2_with fail
        refine (HJ.out _ _ O380.ints O379.ints).mono ?_
        rintro e w382 ⟨rfl, hb383⟩
        have O384 := O378.below hb383
        clear O378
        have O385 := O379.below hb383
        clear O379
        have O386 := O380.below hb383
        clear O380
        have O387 := O381.below hb383
        clear O381
        have b388 := below_then bc (Nat.le_refl _) hb383
        clear bc
        have bc := b388
        clear b388 hb383
        go_wp2_with fail
        refine (HP.out _ _ O386.ints).mono ?_
        rintro e w' ⟨rfl, rfl⟩
        go_wp2_with fail
        refine (ssInts_same _ _ _ _ n _ _ O387 O386 (by omega)).mono ?_
        rintro e w' ⟨rfl, m389, rfl⟩
        have O391 := O384.drewN m389
        clear O384
        have O392 := O385.drewN m389
        clear O385
        have O393 := O386.drewN m389
        clear O386
        have O394 := O387.drewN m389
        clear O387
        have bd := below_drewN bc m389
        clear bc
        have bc := bd
        clear bd
        obtain ⟨w390, hW⟩ : ∃ W, w382.drewN m389 = W := ⟨_, rfl⟩
        rw [hW] at O391 O392 O393 O394 bc ⊢
        clear hW
        go_wp2
        go_ret
        exact ⟨rfl, bc⟩
end Go.Proofs.Ytbllmgdnhjdphac
