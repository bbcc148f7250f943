/- The walk of the law FnDespreadSum. -/
import Derived.Test.YtlcnlhephhbhcaaDrawUser3
import Derived.Test.YtlcnlhephhbhcaaSeqAlg
import Derived.Test.YtlcnlhephhbhcaaDspMath
namespace Go.Proofs.Ytlcnlhephhbhcaa
open Go.RowKit
set_option linter.unusedVariables false
set_option maxHeartbeats 6400000 in
set_option maxRecDepth 100000 in
theorem fnDespreadSum_walk (a0 : Option Addr) (len0 cap0 : Nat) (z0 : List Int) (a1 : Option Addr) (len1 cap1 : Nat) (z1 : List Int) (w : World) (w0 : IsBytes w a0 len0 cap0 z0) (w1 : IsBytes w a1 len1 cap1 z1) :
    Calls Try.prog 14 #[.slice a0 len0 cap0, .slice a1 len1 cap1] w fun e w' => e = .returned (.bool true) ∧ Below w.heap.size w w' := by
  by_cases hl0 : 1048576 < len0
  · go_enter Try.func14, Try.ntmps14
    go_wp2
    go_ret
    exact ⟨rfl, Below.refl _ _⟩
  by_cases hl1 : 1048576 < len1
  · go_enter Try.func14, Try.ntmps14
    go_wp2
    go_ret
    exact ⟨rfl, Below.refl _ _⟩
  have HW1 := Lib.hid w1
  clear w1
  go_enter Try.func14, Try.ntmps14
  go_wp2_with fail
  refine (drawDespread_any a0 len0 cap0 z0 _ w0).mono ?_
  rintro e W1 ⟨v, n, f, z, k, rfl, O0, hn, hf, hz, hk, bc⟩
  clear w0 hf
  obtain ⟨sa, sc, rfl, -⟩ := O0.form
  have hi := fun w h => iDesp_any (.slice sa n sc) n f z k w h (by omega) (by omega)
  have hs := fun w h => sDesp_any (.slice sa n sc) n f z k w h (by omega) (by omega)
  cases hv : rcB n f z 0 k with
  | false =>
    rw [hv, show dsN n f z k = 0 by unfold dsN; rw [hv]; rfl] at hi hs
    clear hv
    have HI := Lib.hid hi
    have HS := Lib.hid hs
    clear hi hs
    go_wp2_with fail
    refine (HI.out _ O0.intsC).mono ?_
    rintro e w101 ⟨v1, rfl, O103, hb102⟩
    have O104 := O0.below hb102
    clear O0
    have b105 := below_then bc (Nat.le_refl _) hb102
    clear bc
    have bc := b105
    clear b105 hb102
    go_wp2_with fail
    refine (HS.out _ O104.ints).mono ?_
    rintro e w106 ⟨v2, rfl, O108, hb107⟩
    have O109 := O104.below hb107
    clear O104
    have O110 := O103.below hb107
    clear O103
    have b111 := below_then bc (Nat.le_refl _) hb107
    clear bc
    have bc := b111
    clear b111 hb107
    go_wp2_with fail
    refine (drawAddSig_any a1 len1 cap1 z1 _ (HW1.out.below bc)).mono ?_
    rintro e w112 ⟨u, m, g, u2, m2, g2, rfl, P0, hm, hg, P2, hm2, hg2, hb113⟩
    clear hg hg2 P2 hm2
    have O114 := O109.below hb113
    clear O109
    have O115 := O110.below hb113
    clear O110
    have O116 := O108.below hb113
    clear O108
    have bd := below_then bc (Nat.le_refl _) hb113
    clear bc
    have bc := bd
    clear bd hb113
    obtain ⟨ua, uc, rfl, -⟩ := P0.form
    go_wp2_with fail
    refine (ssInts_same _ _ _ _ 0 _ _ O115 O116 (by omega)).mono ?_
    rintro e w' ⟨rfl, m117, rfl⟩
    have O119 := O114.drewN m117
    clear O114
    have O120 := O115.drewN m117
    clear O115
    have O121 := O116.drewN m117
    clear O116
    have O122 := P0.drewN m117
    clear P0
    have bd := below_drewN bc m117
    clear bc
    have bc := bd
    clear bd
    obtain ⟨w118, hW⟩ : ∃ W, w112.drewN m117 = W := ⟨_, rfl⟩
    rw [hW] at O119 O120 O121 O122 bc ⊢
    clear hW
    go_wp2_with fail
    refine (ssInts_same _ _ _ _ 0 _ _ O120 O121 (by omega)).mono ?_
    rintro e w' ⟨rfl, m123, rfl⟩
    have O125 := O119.drewN m123
    clear O119
    have O126 := O120.drewN m123
    clear O120
    have O127 := O121.drewN m123
    clear O121
    have O128 := O122.drewN m123
    clear O122
    have bd := below_drewN bc m123
    clear bc
    have bc := bd
    clear bd
    obtain ⟨w124, hW⟩ : ∃ W, w118.drewN m123 = W := ⟨_, rfl⟩
    rw [hW] at O125 O126 O127 O128 bc ⊢
    clear hW
    go_wp2
    go_ret
    exact ⟨rfl, bc⟩
  | true =>
    have hdk : dsN n f z k = k.toNat := by unfold dsN; rw [hv]; rfl
    rw [hv, hdk] at hi hs
    obtain ⟨h1, h2, -, k0, k6⟩ := (rcB_iff _ _ _ _ _).1 hv
    obtain ⟨K, rfl⟩ : ∃ K : Nat, k = K := ⟨k.toNat, by omega⟩
    rw [Int.toNat_natCast] at hi hs
    obtain ⟨z1', z2', z3'⟩ := (seqB_iff z).1 h2
    have HV := Lib.hid hv
    have H1 := Lib.hid h1
    have H2 := Lib.hid h2
    have HZ1 := Lib.hid z1'
    clear hv h1 h2 z1' hdk hk
    have HI := Lib.hid hi
    have HS := Lib.hid hs
    clear hi hs
    go_wp2_with fail
    refine (HI.out _ O0.intsC).mono ?_
    rintro e w101 ⟨v1, rfl, O103, hb102⟩
    have O104 := O0.below hb102
    clear O0
    have b105 := below_then bc (Nat.le_refl _) hb102
    clear bc
    have bc := b105
    clear b105 hb102
    obtain ⟨sa106, sc106, rfl, -⟩ := O103.form
    go_wp2_with fail
    refine (HS.out _ O104.ints).mono ?_
    rintro e w107 ⟨v2, rfl, O109, hb108⟩
    have O110 := O104.below hb108
    clear O104
    have O111 := O103.below hb108
    clear O103
    have b112 := below_then bc (Nat.le_refl _) hb108
    clear bc
    have bc := b112
    clear b112 hb108
    go_wp2_with fail
    refine (drawAddSig_any a1 len1 cap1 z1 _ (HW1.out.below bc)).mono ?_
    rintro e w113 ⟨u, m, g, u2, m2, g2, rfl, P0, hm, hg, P2, hm2, hg2, hb114⟩
    clear hg hg2 P2 hm2
    have O115 := O110.below hb114
    clear O110
    have O116 := O111.below hb114
    clear O111
    have O117 := O109.below hb114
    clear O109
    have bd := below_then bc (Nat.le_refl _) hb114
    clear bc
    have bc := bd
    clear bd hb114
    obtain ⟨ua, uc, rfl, -⟩ := P0.form
    go_wp2_with fail
    refine (ssInts_same _ _ _ _ K _ _ O116 O117 (by omega)).mono ?_
    rintro e w' ⟨rfl, m118, rfl⟩
    have O120 := O115.drewN m118
    clear O115
    have O121 := O116.drewN m118
    clear O116
    have O122 := O117.drewN m118
    clear O117
    have O123 := P0.drewN m118
    clear P0
    have bd := below_drewN bc m118
    clear bc
    have bc := bd
    clear bd
    obtain ⟨w119, hW⟩ : ∃ W, w113.drewN m118 = W := ⟨_, rfl⟩
    rw [hW] at O120 O121 O122 O123 bc ⊢
    clear hW
    clear O122
    have hp := fun w h h' => iAddSig_any (.slice sa n sc) n f (.slice ua m uc) m g w h (by omega) h' (by omega)
    have hle := adN_le6 n f m g
    cases ha : adOK n f m g with
    | false =>
      rw [ha] at hp
      obtain ⟨N, hN⟩ : ∃ X, adN n f m g = X := ⟨_, rfl⟩
      rw [hN] at hp
      clear hN ha hle
      have HP := Lib.hid hp
      clear hp
      go_wp2_with fail
      refine (HP.out _ O120.ints O123.ints).mono ?_
      rintro e w224 ⟨v3, rfl, O226, hb225⟩
      have O227 := O120.below hb225
      clear O120
      have O228 := O121.below hb225
      clear O121
      have O229 := O123.below hb225
      clear O123
      have b230 := below_then bc (Nat.le_refl _) hb225
      clear bc
      have bc := b230
      clear b230 hb225
      go_wp2
      go_ret
      exact ⟨rfl, bc⟩
    | true =>
      rw [ha, show adN n f m g = max n m by unfold adN; rw [ha]; rfl] at hp
      unfold adOK at ha
      simp only [Bool.and_eq_true] at ha
      obtain ⟨-, g1, g3⟩ := ha
      clear hle
      by_cases kk : 50 < K
      · skip
        have l50 : (50 : Int) < (K : Int) := by omega
        obtain ⟨N, hN⟩ : ∃ X, max n m = X := ⟨_, rfl⟩
        rw [hN] at hp
        clear hN g1 g3
        have HP := Lib.hid hp
        clear hp
        go_wp2_with fail
        refine (HP.out _ O120.ints O123.ints).mono ?_
        rintro e w324 ⟨v3, rfl, O326, hb325⟩
        have O327 := O120.below hb325
        clear O120
        have O328 := O121.below hb325
        clear O121
        have O329 := O123.below hb325
        clear O123
        have b330 := below_then bc (Nat.le_refl _) hb325
        clear bc
        have bc := b330
        clear b330 hb325
        go_wp2
        go_ret
        exact ⟨rfl, bc⟩
      · skip
        have l50 : ¬ (50 : Int) < (K : Int) := by omega
        have hsM := ((sigB_iff _ _).1 g3).2
        have i1 := invS_ok z HZ1.out
        have i2 : seqB (invS z) = true := (seqB_iff _).2 ⟨i1, by rw [invS_size]; omega, by rw [invS_size]; omega⟩
        have rhA := (rcB_iff m g z 0 (K : Int)).2 ⟨g1, H2.out, ⟨by omega, by omega⟩, by omega, by omega⟩
        have hA := fun w h => iDesp_any (.slice ua m uc) m g z (K : Int) w h (by omega) (by omega)
        rw [rhA, show dsN m g z (K : Int) = K by unfold dsN; rw [rhA]; exact Int.toNat_natCast K] at hA
        clear rhA
        have rhB := (rcB_iff (max n m) (agF n f m g) z 0 (K : Int)).2 ⟨g3, H2.out, ⟨by omega, by omega⟩, by omega, by omega⟩
        have hB := fun u w h => iDesp_any u (max n m) (agF n f m g) z (K : Int) w h (by omega) (by omega)
        rw [rhB, show dsN (max n m) (agF n f m g) z (K : Int) = K by unfold dsN; rw [rhB]; exact Int.toNat_natCast K] at hB
        clear rhB
        have rhC := (rcB_iff n f (invS z) 0 (K : Int)).2 ⟨H1.out, i2, ⟨by omega, by omega⟩, by omega, by omega⟩
        have hC := fun w h => iDesp_any (.slice sa n sc) n f (invS z) (K : Int) w h (by omega) (by rw [invS_size]; omega)
        rw [rhC, show dsN n f (invS z) (K : Int) = K by unfold dsN; rw [rhC]; exact Int.toNat_natCast K] at hC
        clear rhC
        have hI := fun w => iInvert_yes z w H2.out
        have HCA := Lib.hid (fun i => co_add n f m g z 0 i)
        have HCI := Lib.hid (fun i => co_inv n f z HZ1.out 0 i)
        have HB1 := Lib.hid (fun i => coL_bd H1.out H2.out 0 i)
        have HB2 := Lib.hid (fun i => coL_bd g1 H2.out 0 i)
        obtain ⟨M, hNM⟩ : ∃ X, max n m = X := ⟨_, rfl⟩
        rw [hNM] at hp hB HCA hsM
        clear hNM
        obtain ⟨Q, hNQ⟩ : ∃ X, agF n f m g = X := ⟨_, rfl⟩
        rw [hNQ] at hp hB HCA
        clear hNQ
        obtain ⟨Z, hNZ⟩ : ∃ X, invS z = X := ⟨_, rfl⟩
        rw [hNZ] at hC hI HCI
        clear hNZ i1 i2
        obtain ⟨L1, hNL1⟩ : ∃ X, coL n f z 0 = X := ⟨_, rfl⟩
        rw [hNL1] at HCA HCI HB1 O121
        clear hNL1
        obtain ⟨L2, hNL2⟩ : ∃ X, coL m g z 0 = X := ⟨_, rfl⟩
        rw [hNL2] at hA HCA HB2
        clear hNL2
        obtain ⟨L3, hNL3⟩ : ∃ X, coL M Q z 0 = X := ⟨_, rfl⟩
        rw [hNL3] at hB HCA
        clear hNL3
        obtain ⟨L4, hNL4⟩ : ∃ X, coL n f Z 0 = X := ⟨_, rfl⟩
        rw [hNL4] at hC HCI
        clear hNL4
        clear g1 g3 kk HV
        have HP := Lib.hid hp
        have HA := Lib.hid hA
        have HB := Lib.hid hB
        have HC := Lib.hid hC
        have HI := Lib.hid hI
        clear hp hA hB hC hI
        go_wp2_with fail
        refine (HP.out _ O120.ints O123.ints).mono ?_
        rintro e w324 ⟨v3, rfl, O326, hb325⟩
        have O327 := O120.below hb325
        clear O120
        have O328 := O121.below hb325
        clear O121
        have O329 := O123.below hb325
        clear O123
        have b330 := below_then bc (Nat.le_refl _) hb325
        clear bc
        have bc := b330
        clear b330 hb325
        go_wp2_with fail
        refine (HA.out _ O329.intsC).mono ?_
        rintro e w331 ⟨v4, rfl, O333, hb332⟩
        have O334 := O327.below hb332
        clear O327
        have O335 := O328.below hb332
        clear O328
        have O336 := O329.below hb332
        clear O329
        have O337 := O326.below hb332
        clear O326
        have b338 := below_then bc (Nat.le_refl _) hb332
        clear bc
        have bc := b338
        clear b338 hb332
        obtain ⟨sa339, sc339, rfl, -⟩ := O333.form
        clear O336
        go_wp2_with fail
        refine (HB.out _ _ O337.intsC).mono ?_
        rintro e w340 ⟨v5, rfl, O342, hb341⟩
        have O343 := O334.below hb341
        clear O334
        have O344 := O335.below hb341
        clear O335
        have O345 := O337.below hb341
        clear O337
        have O346 := O333.below hb341
        clear O333
        have b347 := below_then bc (Nat.le_refl _) hb341
        clear bc
        have bc := b347
        clear b347 hb341
        obtain ⟨sa348, sc348, rfl, -⟩ := O342.form
        clear O345
        go_wp2_with fail
        refine (HI.out _).mono ?_
        rintro e w349 ⟨rfl, hb350⟩
        have O351 := O343.below hb350
        clear O343
        have O352 := O344.below hb350
        clear O344
        have O353 := O346.below hb350
        clear O346
        have O354 := O342.below hb350
        clear O342
        have b355 := below_then bc (Nat.le_refl _) hb350
        clear bc
        have bc := b355
        clear b355 hb350
        go_wp2_with fail
        refine (HC.out _ O351.intsC).mono ?_
        rintro e w356 ⟨v6, rfl, O358, hb357⟩
        have O359 := O351.below hb357
        clear O351
        have O360 := O352.below hb357
        clear O352
        have O361 := O353.below hb357
        clear O353
        have O362 := O354.below hb357
        clear O354
        have b363 := below_then bc (Nat.le_refl _) hb357
        clear bc
        have bc := b363
        clear b363 hb357
        obtain ⟨sa364, sc364, rfl, -⟩ := O358.form
        clear O359
        go_wp2_with fail
        have C_v1 := Lib.hid O360.ints.cells
        have C_v4 := Lib.hid O361.ints.cells
        have C_v5 := Lib.hid O362.ints.cells
        have C_v6 := Lib.hid O358.ints.cells
        go_loopw [24] (fun i wr => ∃ j m : Nat, j ≤ K ∧ i = .int .i64 j ∧ wr = w356.drewN m) (fun i _ => K - (intOf i).toNat)
        case atStart => exact ⟨0, 0, by omega, rfl, rfl⟩
        case round =>
          obtain ⟨j, q, hj, rfl, rfl⟩ := hrel
          by_cases hlt : j < K
          · skip
            have i0 : (0 : Int) ≤ (j : Int) := by omega
            have i1 : (j : Int) < (K : Int) := by omega
            obtain ⟨x0, rfl, -, c0⟩ := C_v1.out j hlt
            have c0 : (w356.drewN q).cell? (x0.add j) = some (.int .i64 (L1 j)) := c0
            obtain ⟨x1, rfl, -, c1⟩ := C_v4.out j hlt
            have c1 : (w356.drewN q).cell? (x1.add j) = some (.int .i64 (L2 j)) := c1
            obtain ⟨x2, rfl, -, c2⟩ := C_v5.out j hlt
            have c2 : (w356.drewN q).cell? (x2.add j) = some (.int .i64 (L3 j)) := c2
            obtain ⟨x3, rfl, -, c3⟩ := C_v6.out j hlt
            have c3 : (w356.drewN q).cell? (x3.add j) = some (.int .i64 (L4 j)) := c3
            rw [HCA.out j] at c2
            rw [HCI.out j] at c3
            obtain ⟨b1, b2⟩ := HB1.out j
            obtain ⟨b3, b4⟩ := HB2.out j
            obtain ⟨x, hx⟩ : ∃ x, L1 j = x := ⟨_, rfl⟩
            obtain ⟨y, hy⟩ : ∃ x, L2 j = x := ⟨_, rfl⟩
            rw [hx] at c0 c2 c3 b1 b2
            rw [hy] at c1 c2 b3 b4
            clear hx hy
            have w1 : IntKind.i64.wrap (x + y) = x + y := IntWalk.i64_in _ (by omega)
            have w2 : IntKind.i64.wrap (-x) = -x := IntWalk.i64_in _ (by omega)
            obtain ⟨W, hW⟩ : ∃ W, w356.drewN q = W := ⟨_, rfl⟩
            rw [hW] at c0 c1 c2 c3 ⊢
            have HW := Lib.hid hW
            clear hW b1 b2 b3 b4
            go_wp2_with fail
            go_quiet (fail)
            clear c0 c1 c2 c3
            go_wp2
            go_roundw
            case rel => exact ⟨j + 1, q + nq, by omega, by go_num, by rw [← HW.out, World.drewN_drewN]⟩
            case measure => simp [intOf]; omega
          · skip
            obtain rfl : K = j := by omega
            have bd := below_drewN bc q
            clear bc
            have bc := bd
            clear bd C_v1 C_v4 C_v5 C_v6
            go_wp2
            go_ret
            exact ⟨rfl, bc⟩
end Go.Proofs.Ytlcnlhephhbhcaa
