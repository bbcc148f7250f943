/- The walk of the law FnAddSignals. -/
import Derived.Test.YtlcnlhephhbhcaaDrawSig2
import Derived.Test.YtlcnlhephhbhcaaSeqAlg3
import Derived.Test.YtlcnlhephhbhcaaSigMath
namespace Go.Proofs.Ytlcnlhephhbhcaa
open Go.RowKit
set_option linter.unusedVariables false
set_option maxHeartbeats 3200000 in
set_option maxRecDepth 100000 in
theorem fnAddSignals_walk (a0 : Option Addr) (len0 cap0 : Nat) (z0 : List Int) (w : World) (w0 : IsBytes w a0 len0 cap0 z0) :
    Calls Try.prog 13 #[.slice a0 len0 cap0] w fun e w' => e = .returned (.bool true) ∧ Below w.heap.size w w' := by
  by_cases hl0 : 1048576 < len0
  · go_enter Try.func13, Try.ntmps13
    go_wp2
    go_ret
    exact ⟨rfl, Below.refl _ _⟩
  go_enter Try.func13, Try.ntmps13
  go_wp2_with fail
  refine (drawAddSig_any a0 len0 cap0 z0 _ w0).mono ?_
  rintro e W1 ⟨v, n, f, u, m, g, rfl, O0, hn, hf, P0, hm, hg, bc⟩
  clear w0
  obtain ⟨sa, sc, rfl, -⟩ := O0.form
  clear hf hg
  obtain ⟨ua, uc, rfl, -⟩ := P0.form
  have hi := fun w h h' => iAddSig_any (.slice sa n sc) n f (.slice ua m uc) m g w h (by omega) h' (by omega)
  have hs := fun w h h' => sAddSig_any (.slice sa n sc) n f (.slice ua m uc) m g w h (by omega) h' (by omega)
  cases hv : adOK n f m g with
  | false =>
    rw [hv, show adN n f m g = 0 by unfold adN; rw [hv]; rfl] at hi hs
    clear hv
    have HI := Lib.hid hi
    have HS := Lib.hid hs
    clear hi hs
    go_wp2_with fail
    refine (HI.out _ O0.ints P0.ints).mono ?_
    rintro e w101 ⟨v1, rfl, O103, hb102⟩
    have O104 := O0.below hb102
    clear O0
    have O105 := P0.below hb102
    clear P0
    have b106 := below_then bc (Nat.le_refl _) hb102
    clear bc
    have bc := b106
    clear b106 hb102
    go_wp2_with fail
    refine (HS.out _ O104.ints O105.ints).mono ?_
    rintro e w107 ⟨v2, rfl, O109, hb108⟩
    have O110 := O104.below hb108
    clear O104
    have O111 := O105.below hb108
    clear O105
    have O112 := O103.below hb108
    clear O103
    have b113 := below_then bc (Nat.le_refl _) hb108
    clear bc
    have bc := b113
    clear b113 hb108
    go_wp2_with fail
    refine (ssInts_same _ _ _ _ 0 _ _ O112 O109 (by omega)).mono ?_
    rintro e w' ⟨rfl, m114, rfl⟩
    have O116 := O110.drewN m114
    clear O110
    have O117 := O111.drewN m114
    clear O111
    have O118 := O112.drewN m114
    clear O112
    have O119 := O109.drewN m114
    clear O109
    have bd := below_drewN bc m114
    clear bc
    have bc := bd
    clear bd
    obtain ⟨w115, hW⟩ : ∃ W, w107.drewN m114 = W := ⟨_, rfl⟩
    rw [hW] at O116 O117 O118 O119 bc ⊢
    clear hW
    go_wp2_with fail
    refine (ssInts_same _ _ _ _ 0 _ _ O118 O119 (by omega)).mono ?_
    rintro e w' ⟨rfl, m120, rfl⟩
    have O122 := O116.drewN m120
    clear O116
    have O123 := O117.drewN m120
    clear O117
    have O124 := O118.drewN m120
    clear O118
    have O125 := O119.drewN m120
    clear O119
    have bd := below_drewN bc m120
    clear bc
    have bc := bd
    clear bd
    obtain ⟨w121, hW⟩ : ∃ W, w115.drewN m120 = W := ⟨_, rfl⟩
    rw [hW] at O122 O123 O124 O125 bc ⊢
    clear hW
    go_wp2
    go_ret
    exact ⟨rfl, bc⟩
  | true =>
    rw [hv, show adN n f m g = max n m by unfold adN; rw [hv]; rfl] at hi hs
    unfold adOK at hv
    simp only [Bool.and_eq_true] at hv
    obtain ⟨h1, h2, h3⟩ := hv
    have hA := fun w h h' => iAddSig_any (.slice ua m uc) m g (.slice sa n sc) n f w h (by omega) h' (by omega)
    rw [(ad_in h2 h1).1, (ad_in h2 h1).2, ag_comm, Nat.max_comm m n, h3, show resN (max n m) (agF n f m g) = max n m by unfold resN; rw [h3]; rfl] at hA
    have hB := fun w h => iScale_any (.slice ua m uc) m g (-1) w h (by omega)
    rw [(scN_in h2 (by decide)).1, (scN_in h2 (by decide)).2, sc_neg h2, show resN m (scF (-1) g) = m by unfold resN; rw [sc_neg h2]; rfl] at hB
    have hM := ((sigB_iff _ _).1 h3).2
    have hC := fun x y w h h' => iAddSig_any x (max n m) (agF n f m g) y m (scF (-1) g) w h (by omega) h' (by omega)
    have e1 : max (max n m) m = max n m := by omega
    have h4 := ag_sig h1 h2
    rw [(ad_in h3 (sc_neg h2)).1, (ad_in h3 (sc_neg h2)).2, e1, h4, show resN (max n m) (agF (max n m) (agF n f m g) m (scF (-1) g)) = max n m by unfold resN; rw [h4]; rfl] at hC
    have HBK := Lib.hid (fun j => ag_back n f m g j)
    obtain ⟨G, hG⟩ : ∃ G, agF n f m g = G := ⟨_, rfl⟩
    rw [hG] at hi hs hA hC HBK
    obtain ⟨Q, hQ⟩ : ∃ Q, agF (max n m) G m (scF (-1) g) = Q := ⟨_, rfl⟩
    rw [hQ] at hC HBK
    obtain ⟨M, hMM⟩ : ∃ M, max n m = M := ⟨_, rfl⟩
    rw [hMM] at hi hs hA hC hM
    have hMi : max (n : Int) (m : Int) = (M : Int) := by omega
    have hnM : n ≤ M := by omega
    clear hG hQ hMM h1 h2 h3 h4 e1
    have HI := Lib.hid hi
    have HS := Lib.hid hs
    have HA := Lib.hid hA
    have HB := Lib.hid hB
    have HC := Lib.hid hC
    have HMI := Lib.hid hMi
    clear hi hs hA hB hC hMi
    go_wp2_with fail
    refine (HI.out _ O0.ints P0.ints).mono ?_
    rintro e w101 ⟨v1, rfl, O103, hb102⟩
    have O104 := O0.below hb102
    clear O0
    have O105 := P0.below hb102
    clear P0
    have b106 := below_then bc (Nat.le_refl _) hb102
    clear bc
    have bc := b106
    clear b106 hb102
    obtain ⟨sa107, sc107, rfl, -⟩ := O103.form
    go_wp2_with fail
    refine (HS.out _ O104.ints O105.ints).mono ?_
    rintro e w108 ⟨v2, rfl, O110, hb109⟩
    have O111 := O104.below hb109
    clear O104
    have O112 := O105.below hb109
    clear O105
    have O113 := O103.below hb109
    clear O103
    have b114 := below_then bc (Nat.le_refl _) hb109
    clear bc
    have bc := b114
    clear b114 hb109
    go_wp2_with fail
    refine (ssInts_same _ _ _ _ M _ _ O113 O110 (by omega)).mono ?_
    rintro e w' ⟨rfl, m115, rfl⟩
    have O117 := O111.drewN m115
    clear O111
    have O118 := O112.drewN m115
    clear O112
    have O119 := O113.drewN m115
    clear O113
    have O120 := O110.drewN m115
    clear O110
    have bd := below_drewN bc m115
    clear bc
    have bc := bd
    clear bd
    obtain ⟨w116, hW⟩ : ∃ W, w108.drewN m115 = W := ⟨_, rfl⟩
    rw [hW] at O117 O118 O119 O120 bc ⊢
    clear hW
    clear O120
    go_wp2_with fail
    refine (HA.out _ O118.ints O117.ints).mono ?_
    rintro e w121 ⟨v3, rfl, O123, hb122⟩
    have O124 := O117.below hb122
    clear O117
    have O125 := O118.below hb122
    clear O118
    have O126 := O119.below hb122
    clear O119
    have b127 := below_then bc (Nat.le_refl _) hb122
    clear bc
    have bc := b127
    clear b127 hb122
    go_wp2_with fail
    refine (HB.out _ O125.ints).mono ?_
    rintro e w128 ⟨v4, rfl, O130, hb129⟩
    have O131 := O124.below hb129
    clear O124
    have O132 := O125.below hb129
    clear O125
    have O133 := O126.below hb129
    clear O126
    have O134 := O123.below hb129
    clear O123
    have b135 := below_then bc (Nat.le_refl _) hb129
    clear bc
    have bc := b135
    clear b135 hb129
    go_wp2_with fail
    refine (HC.out _ _ _ O133.ints O130.ints).mono ?_
    rintro e w136 ⟨v5, rfl, O138, hb137⟩
    have O139 := O131.below hb137
    clear O131
    have O140 := O132.below hb137
    clear O132
    have O141 := O133.below hb137
    clear O133
    have O142 := O134.below hb137
    clear O134
    have O143 := O130.below hb137
    clear O130
    have b144 := below_then bc (Nat.le_refl _) hb137
    clear bc
    have bc := b144
    clear b144 hb137
    obtain ⟨sa145, sc145, rfl, -⟩ := O138.form
    clear O143
    go_wp2_with fail
    have C1 := Lib.hid O139.ints.cells
    have C2 := Lib.hid O138.ints.cells
    go_loopw [15] (fun i wr => ∃ j p : Nat, j ≤ M ∧ i = .int .i64 j ∧ wr = w136.drewN p) (fun i _ => M - (intOf i).toNat)
    case atStart => exact ⟨0, 0, by omega, rfl, rfl⟩
    case round =>
      obtain ⟨j, p, hj, rfl, rfl⟩ := hrel
      by_cases hlt : j < M
      · skip
        have i0 : (0 : Int) ≤ (j : Int) := by omega
        have i1 : (j : Int) < (M : Int) := by omega
        obtain ⟨x2, rfl, -, c2⟩ := C2.out j hlt
        have c2 : (w136.drewN p).cell? (x2.add j) = some (.int .i64 (Q j)) := c2
        rw [HBK.out j] at c2
        unfold smp at c2
        by_cases hjn : j < n
        · skip
          rw [if_pos hjn] at c2
          obtain ⟨x1, rfl, -, c1⟩ := C1.out j hjn
          have c1 : (w136.drewN p).cell? (x1.add j) = some (.int .i64 (f j)) := c1
          have i2 : (j : Int) < (n : Int) := by omega
          obtain ⟨x, hx⟩ : ∃ x, f j = x := ⟨_, rfl⟩
          rw [hx] at c1 c2
          clear hx
          obtain ⟨W, hW⟩ : ∃ W, w136.drewN p = W := ⟨_, rfl⟩
          rw [hW] at c1 c2 ⊢
          have HW := Lib.hid hW
          clear hW
          go_wp2
          all_goals go_roundw
          case rel => exact ⟨j + 1, p, by omega, by go_num, HW.out.symm⟩
          case measure => simp [intOf]; omega
        · skip
          rw [if_neg hjn] at c2
          have i2 : ¬ (j : Int) < (n : Int) := by omega
          obtain ⟨W, hW⟩ : ∃ W, w136.drewN p = W := ⟨_, rfl⟩
          rw [hW] at c2 ⊢
          have HW := Lib.hid hW
          clear hW
          go_wp2
          all_goals go_roundw
          case rel => exact ⟨j + 1, p, by omega, by go_num, HW.out.symm⟩
          case measure => simp [intOf]; omega
      · skip
        obtain rfl : M = j := by omega
        have O346 := O139.drewN p
        clear O139
        have O347 := O140.drewN p
        clear O140
        have O348 := O141.drewN p
        clear O141
        have O349 := O142.drewN p
        clear O142
        have O350 := O138.drewN p
        clear O138
        have bd := below_drewN bc p
        clear bc
        have bc := bd
        clear bd
        obtain ⟨w351, hW⟩ : ∃ W, w136.drewN p = W := ⟨_, rfl⟩
        rw [hW] at O346 O347 O348 O349 O350 bc ⊢
        clear hW C1 C2
        go_wp2_with fail
        refine (ssInts_same _ _ _ _ M _ _ O349 O348 (by omega)).mono ?_
        rintro e w' ⟨rfl, m352, rfl⟩
        have O354 := O346.drewN m352
        clear O346
        have O355 := O347.drewN m352
        clear O347
        have O356 := O348.drewN m352
        clear O348
        have O357 := O349.drewN m352
        clear O349
        have O358 := O350.drewN m352
        clear O350
        have bd := below_drewN bc m352
        clear bc
        have bc := bd
        clear bd
        obtain ⟨w353, hW⟩ : ∃ W, w351.drewN m352 = W := ⟨_, rfl⟩
        rw [hW] at O354 O355 O356 O357 O358 bc ⊢
        clear hW
        clear hj hlt
        rcases Nat.lt_trichotomy n m with hnm | hnm | hnm
        · skip
          have hMi := HMI.out
          obtain rfl : M = m := by omega
          have hq : (n : Int) < (M : Int) := by omega
          clear hMi hnm hnM
          go_wp2
          all_goals
            go_ret
            exact ⟨rfl, bc⟩
        · skip
          have hMi := HMI.out
          obtain rfl : M = m := by omega
          obtain rfl : M = n := by omega
          clear hMi hnm hnM
          go_wp2
          all_goals
            go_ret
            exact ⟨rfl, bc⟩
        · skip
          have hMi := HMI.out
          obtain rfl : M = n := by omega
          have hq : (m : Int) < (M : Int) := by omega
          clear hMi hnm hnM
          go_wp2
          all_goals
            go_ret
            exact ⟨rfl, bc⟩
end Go.Proofs.Ytlcnlhephhbhcaa
